import Derived.Test.YtbcoaiaocfommaaSd
namespace Go.Proofs.Ytbcoaiaocfommaa
open Go.RowKit Go.Shelf
attribute [local go_sem] Oper.semAt_some

def MapI (n₀ bx mb N : Nat) (w : World) (pre : List Ltr) (W : World) : Prop :=
  (N ≤ W.heap.size ∧ W.cell? ⟨bx, 0, none⟩ = some (.map (some mb)) ∧ W.ownsMap Try.prog 9 (plainElem (H := Unit) Try.prog 4) mb pre.length (setD pre)) ∧ Below n₀ w W

set_option maxRecDepth 100000 in
set_option maxHeartbeats 2000000 in
theorem parts39 (s : ByteArray) (w : World) (hc : chk s = 0) :
    Calls Try.prog 39 #[.string s] w fun e w' => ∃ v, e = .returned (.tuple #[v, .int .i64 0]) ∧ Ints w' w.heap.size v (paAll s.data.toList s.size) ∧ Below w.heap.size w w' := by
  obtain ⟨h1, h2, _⟩ := chk_size hc
  have hm : s.size ≤ maxLen := by unfold maxLen; omega
  have hs : s.size ≤ 1000 := by omega
  have hc' := Lib.hid hc
  clear hc
  refine (callsIn_wide (n := 6)).1 ?_
  have hmx : Try.prog.follows .mixedOrders = true := by kernel_rfl
  refine callsIn_of_wp_marks Try.func39 rfl trivial ?_ rfl
  simp only [Try.ntmps39, List.size_toArray, List.length_cons, List.length_nil, Nat.reduceAdd, Nat.reduceSub, Array.replicate_succ, Array.replicate_zero, List.push_toArray, List.append_toArray, List.nil_append, List.cons_append]
  gi_wp2_with (refine ⟨trivial, ?_⟩; gi_at_call 55; refine (callsIn_wide.2 (check55 _ _ hm)).mono ?_; rw [hc'.out]; rintro e w1 ⟨rfl, rfl⟩)
  refine wpIn_loop (fun a' w' => ∃ (k : Nat) (Ds : List Nat) (v u7 u8 u14 u15 u16 u17 u18 u19 u20 u21 u22 u23 u24 u25 u26 u27 u28 u29 u30 u31 : Value), k ≤ s.size ∧ Ints w' w.heap.size v (paAll s.data.toList k) ∧ Below w.heap.size w w' ∧ Marks w' w.heap.size Ds ∧
      a' = { tmps := #[.string s, undef, .slice none 0 0, .int .i64 0, .int .i64 0, v, .int .i64 ((k : Int) + 1), u7, u8, .string s, .int .i64 0, .int .i64 0, .bool false, undef, u14, u15, u16, u17, u18, u19, u20, u21, u22, u23, u24, u25, u26, u27, u28, u29, u30, u31, undef], defers := Ds.map mark })
    (fun a' _ => s.size + 1 - (intOf (a'.tmps.getD 6 undef)).toNat) ?_ ?_
  · exact ⟨0, [], _, _, _, _, _, _, _, _, _, _, _, _, _, _, _, _, _, _, _, _, _, by omega, Ints.nil _ _, Below.refl _ _, ⟨List.nodup_nil, fun D hD => absurd hD (by simp)⟩, rfl⟩
  · rintro a' wr ⟨k, Ds, v, u7, u8, u14, u15, u16, u17, u18, u19, u20, u21, u22, u23, u24, u25, u26, u27, u28, u29, u30, u31, hk, hv, hb, hmk, rfl⟩
    have hpl := paAll_len s.data.toList k
    obtain ⟨ds, hds⟩ : ∃ ds, ds = Ds.map mark := ⟨_, rfl⟩
    rw [← hds]
    have hds' := Lib.hid hds
    clear hds
    have hmm := @run_makeMap Try.prog
    by_cases hlt : k < s.size
    · have d1 : decide ((k : Int) + 1 ≤ s.size) = true := by simp; omega
      gi_wp2_with (refine ⟨trivial, ?_⟩; gi_at_call 67; refine (parts67_in Fence.wide _ trivial rfl _ _ _).mono ?_; rintro e w' ⟨rfl, rfl⟩)
      have cX := cell_new_e (wr.alloc (.map #[] 0)) (.map (some wr.heap.size)) 73
      have cS := cell_new_e ((wr.alloc (.map #[] 0)).alloc (.cells #[.map (some wr.heap.size)] 73)) (.string s) 9
      have cM := cell_new_e (((wr.alloc (.map #[] 0)).alloc (.cells #[.map (some wr.heap.size)] 73)).alloc (.cells #[.string s] 9)) (.int .i64 ((k : Int) + 1)) 3
      simp only [World.size_alloc] at cX cS cM
      have hm0 := World.ownsMap_made wr Try.prog 9 (plainElem (H := Unit) Try.prog 4)
      obtain ⟨W0, hW0⟩ : ∃ W0, (((wr.alloc (.map #[] 0)).alloc (.cells #[.map (some wr.heap.size)] 73)).alloc (.cells #[.string s] 9)).alloc (.cells #[.int .i64 ((k : Int) + 1)] 3) = W0 := ⟨_, rfl⟩
      have hsz : W0.heap.size = wr.heap.size + 4 := by rw [← hW0]; simp
      have hB0 : Below wr.heap.size wr W0 := by
        rw [← hW0]
        exact ((((Below.refl _ wr).alloc (Nat.le_refl _) _).alloc (by simp) _).alloc (by simp; omega) _).alloc (by simp; omega) _
      have hI0 : MapI wr.heap.size (wr.heap.size + 1) wr.heap.size (wr.heap.size + 4) wr [] W0 := by
        refine ⟨⟨by omega, ?_, ?_⟩, hB0⟩
        · rw [← hW0]; exact cell_alloc_e _ (cell_alloc_e _ cX.1)
        · rw [← hW0]; exact ((hm0.alloc _).alloc _).alloc _
      have hcM : W0.cell? ⟨wr.heap.size + 1 + 1 + 1, 0, none⟩ = some (.int .i64 ((k + 1 : Nat) : Int)) := by rw [← hW0]; exact cM.1
      have hcS : W0.cell? ⟨wr.heap.size + 1 + 1, 0, none⟩ = some (.string s) := by rw [← hW0]; exact cell_alloc_e _ cS.1
      rw [hW0]
      clear cX cS cM hm0
      have hW0' := Lib.hid hW0
      clear hW0
      refine wpIn_rangeFunc_ownG rfl (by omega) (gf := 78) (lb := #[.pointer (some ⟨wr.heap.size + 1 + 1 + 1, 0, none⟩), .pointer (some ⟨wr.heap.size + 1 + 1, 0, none⟩)]) rfl trivial (enters_of Try.func78 (by kernel_rfl) rfl)
        (parts78_stops Fence.wide _ trivial rfl (by omega) _ _ s hs (k + 1) (by omega) (by omega) W0 (by omega) (by omega) hcM hcS) Keep2.t (keep2_b (by omega) (by omega)) (Below.refl _ _) (fun _ => rfl)
        (fun pre W => MapI wr.heap.size (wr.heap.size + 1) wr.heap.size (wr.heap.size + 4) wr pre W)
        (fun _ _ _ => False)
        ?hI (fun _ _ _ _ _ hs _ _ => hs) hI0
        (fun x => { tmps := #[.string s, undef, .slice none 0 0, .int .i64 0, .int .i64 0, v, .int .i64 ((k : Int) + 1), .pointer (some ⟨wr.heap.size + 1, 0, none⟩), .string x.1, .string s, .int .i64 0, .int .i64 0, .bool false, undef, .int .i64 ((k : Int) + 1), .string s, .int .i64 s.size, .bool true, u18, u19, .map (some wr.heap.size), .string s, .int .i64 ((k : Int) + 1),
          .func (.func 78) #[] #[.pointer (some ⟨wr.heap.size + 1 + 1 + 1, 0, none⟩), .pointer (some ⟨wr.heap.size + 1 + 1, 0, none⟩)], .string x.1, u25, u26, u27, u28, u29, u30, u31, undef], defers := [] }) ?assign ?body ?done ?stop
      case hI =>
        exact OwnFrom.and (fun s A B row hs hg hr => ⟨Nat.le_trans hs.1 hg.size, cell_kept hs.2.1 hg (fun r e => (hr r e).2), hs.2.2.kept hg (fun e => by have := (hr _ e.symm).1; omega)⟩) (ownFrom_below (Nat.le_refl _) (by omega))
      case assign =>
        intro l x W K hK
        gi_wp2
        exact hK
      case body =>
        rintro l pre x W ⟨⟨hN, hc1, hown⟩, hB⟩ hlt3
        have hkey := key_ltr x
        have hln3 : pre.length < 1001 := by omega
        gi_wp2_with (gi_at_mapUpdate; refine wpListIn_mapUpdate_own _ rfl _ _ _ 73 rfl 9 4 (Maps.string_keyed Try.underlying9) Try.underlying73 _ wr.heap.size pre.length _ rfl hown (by unfold maxLen; omega) _ _ _ rfl rfl hkey _ [] (plainElem_bool Try.underlying4 true) ?_; intro w1 hown1 hgrow1)
        obtain ⟨es, ck, hh, _⟩ := hown
        have hWs := hB.size
        refine ⟨KeepsFrom.of_grownBy hgrow1 (fun j e => by cases e; omega), ⟨hgrow1.cell_far _ (by show wr.heap.size + 1 + 1 + 1 < _; omega) (fun e => by simp at e; omega), hgrow1.cell_far _ (by show wr.heap.size + 1 + 1 < _; omega) (fun e => by simp at e; omega)⟩,
          ⟨Nat.le_trans hN hgrow1.size, cell_kept hc1 hgrow1 (fun r e => by cases e; exact ⟨_, hh, rfl⟩), by rw [setD_snoc, List.length_append]; exact hown1⟩, hB.grown hgrow1 hB.size (fun k e => by cases e; exact Nat.le_refl _)⟩
      case done =>
        rintro D ys W hD rfl ⟨⟨hN, hc1, hown⟩, hB⟩ hK
        have hbs := hB.size
        have hbs2 := hb.size
        have hvW : Ints W w.heap.size v (paAll s.data.toList k) := hv.below hB
        have hmk2 : Marks W w.heap.size (D :: Ds) := (hmk.below hB).cons (N := wr.heap.size) (fun E hE => hmk.lt hE) (by omega) (by omega) hK
        have hsz2 := size_setD (partsUp s hs (k + 1) (s.size + 1 - (k + 1)))
        rw [setL_parts, show s.size + 1 - (k + 1) = s.size - k by omega] at hsz2
        have hstep := paAll_succ s.data.toList k
        rw [size_len, ← hsz2] at hstep
        have hstep' := Lib.hid hstep
        rw [show s.size + 1 - (k + 1) = s.size - k by omega] at hown
        clear hstep hsz2
        obtain ⟨dd, hdd⟩ : ∃ dd, dd = setD (partsUp s hs (k + 1) (s.size - k)) := ⟨_, rfl⟩
        rw [← hdd] at hown hstep'
        clear hdd
        gi_wp2_with (first | (gi_at_len; refine wpListIn_len_own rfl _ 73 rfl 9 4 Try.underlying73 _ wr.heap.size _ _ rfl hown ?_) | (gi_at_builtin; refine app_int_in hvW (by omega) (by omega) rfl _ _ rfl rfl rfl ?_; intro v' w3 hown3 hb3 hkd))
        refine ⟨⟨k + 1, D :: Ds, _, _, _, _, _, _, _, _, _, _, _, _, _, _, _, _, _, _, _, _, _, by omega, by rw [hstep'.out]; exact hown3, (below_seq hb hB (by omega)).trans hb3, ?_, by rw [hds'.out]; rfl⟩, ?_⟩
        · exact ⟨hmk2.1, fun E hE => ⟨(hmk2.2 E hE).1, hkd E _ (hmk2.2 E hE).2⟩⟩
        · simp [intOf]; omega
      case stop =>
        rintro D c pre W _ _ h _
        exact h.elim
    · have hke : k = s.size := by omega
      have hke' := Lib.hid hke
      clear hke
      gi_wp2
      show LeavesInM _ _ _ _ _ _ _ _ _
      rw [hds'.out]
      refine leaves_marks w.heap.size (fun W => Ints W w.heap.size v (paAll s.data.toList k) ∧ Below w.heap.size w W) ?_ ?_ Ds _ ⟨hv, hb⟩ hmk
      · exact fun W D ⟨hi, hb⟩ hB hD => ⟨ownsRow_putObj hi _ hD rfl, below_put hb hB hD⟩
      · exact fun W h => ⟨_, results_tmp2 rfl _ _ _, _, rfl, by rw [← hke'.out]; exact h.1, h.2⟩
end Go.Proofs.Ytbcoaiaocfommaa
