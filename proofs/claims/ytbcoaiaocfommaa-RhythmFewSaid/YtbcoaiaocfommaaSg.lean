import Derived.Test.YtbcoaiaocfommaaSf
namespace Go.Proofs.Ytbcoaiaocfommaa
open Go.RowKit Go.Shelf
attribute [local go_sem] Oper.semAt_some

theorem cell_lt {W : World} {b : Nat} {v : Value} (h : W.cell? ⟨b, 0, none⟩ = some v) : b < W.heap.size := by
  rcases Nat.lt_or_ge b W.heap.size with h1 | h1
  · exact h1
  · exfalso
    unfold World.cell? at h
    rw [Array.getElem?_eq_none h1] at h
    simp at h
def addrOf : Value → Addr
  | .pointer (some p) => p
  | _ => ⟨0, 0, none⟩
def sqM (N : Nat) (a' : Act) (w' : World) : Nat := N + 2 - (intOf ((w'.cell? (addrOf (a'.tmps.getD 6 undef))).getD undef)).toNat
theorem sqM_eq {N : Nat} {tmps : Array Value} {ds : List Deferred} {W : World} {b : Nat} {x : Int} (h6 : tmps.getD 6 undef = .pointer (some ⟨b, 0, none⟩)) (hc : W.cell? ⟨b, 0, none⟩ = some (.int .i64 x)) : sqM N { tmps := tmps, defers := ds } W = N + 2 - x.toNat := by
  unfold sqM
  rw [h6]
  show N + 2 - (intOf ((W.cell? ⟨b, 0, none⟩).getD undef)).toNat = _
  rw [hc]; rfl
/-- What lies in memory between two rounds. -/
def SqW (w : World) (b6 k N : Nat) (Ds : List Nat) (D : DataW Unit) (W : World) : Prop :=
  W.cell? ⟨w.heap.size + 1, 0, none⟩ = some (.map (some w.heap.size)) ∧ W.cell? ⟨b6, 0, none⟩ = some (.int .i64 ((k : Int) + 1)) ∧ W.frozen? ⟨b6, 0, none⟩ = false ∧
    (∃ n, n ≤ N ∧ W.ownsMap Try.prog 9 (plainElem (H := Unit) Try.prog 4) w.heap.size n D) ∧ Marks W w.heap.size Ds

theorem SqW.own {w : World} {b6 k N : Nat} {Ds : List Nat} {D : DataW Unit} {A B : World} {M : Nat} {row : Option Nat} (h : SqW w b6 k N Ds D A) (hg : A.grownBy B row) (hr : ∀ r, row = some r → M ≤ r ∧ ∃ o : Obj, A.heap[r]? = some o ∧ o.isCells = false) (hM : w.heap.size < M) (hDs : ∀ E ∈ Ds, E < M) : SqW w b6 k N Ds D B :=
  ⟨cell_kept h.1 hg (fun r e => (hr r e).2), cell_kept h.2.1 hg (fun r e => (hr r e).2), (frozen_kept h.2.1 hg (fun r e => (hr r e).2)).trans h.2.2.1,
    ⟨h.2.2.2.1.choose, h.2.2.2.1.choose_spec.1, h.2.2.2.1.choose_spec.2.kept hg (fun e => by have := (hr _ e.symm).1; omega)⟩,
    h.2.2.2.2.1, fun E hE => ⟨(h.2.2.2.2.2 E hE).1, by rw [hg.block E (h.2.2.2.2.lt hE) (fun e => by have := (hr _ e.symm).1; have := hDs E hE; omega)]; exact (h.2.2.2.2.2 E hE).2⟩⟩

theorem sqX_eq {m h : Nat} (x : LtrM m) : ((x.1.extract 0 h).toList == (x.1.extract h x.1.size).toList) = sqX h x := by
  rw [toList_data, toList_data, Lib.extract_data, Lib.extract_data]
  unfold sqX
  rw [List.drop_zero, Nat.sub_zero]
  rw [List.take_of_length_le (l := List.drop h x.1.data.toList) (by rw [List.length_drop, size_len]; omega)]
theorem SqW.drew {w : World} {b6 k N : Nat} {Ds : List Nat} {D : DataW Unit} {W : World} (h : SqW w b6 k N Ds D W) : SqW w b6 k N Ds D W.drew := h

set_option maxRecDepth 100000 in
set_option maxHeartbeats 2000000 in
theorem squares38 (s : ByteArray) (w : World) (hc : chk s = 0) :
    Calls Try.prog 38 #[.string s] w fun e w' => e = .returned (.tuple #[.int .i64 ((Maps.size (Maps.setOf (H := Unit) (.lit (.bool true)) (keysTo s (s.size / 2))) : Nat) : Int), .int .i64 0]) ∧ Below w.heap.size w w' := by
  obtain ⟨h1, h2, _⟩ := chk_size hc
  have hm : s.size ≤ maxLen := by unfold maxLen; omega
  have hs : s.size ≤ 1000 := by omega
  have hc' := Lib.hid hc
  clear hc
  refine (callsIn_wide (n := 6)).1 ?_
  have hmx : Try.prog.follows .mixedOrders = true := by kernel_rfl
  have hmm := @run_makeMap Try.prog
  refine callsIn_of_wp_marks Try.func38 rfl trivial ?_ rfl
  simp only [Try.ntmps38, List.size_toArray, List.length_cons, List.length_nil, Nat.reduceAdd, Nat.reduceSub, Array.replicate_succ, Array.replicate_zero, List.push_toArray, List.append_toArray, List.nil_append, List.cons_append]
  gi_wp2_with (refine ⟨trivial, ?_⟩; gi_at_call 55; refine (callsIn_wide.2 (check55 _ _ hm)).mono ?_; rw [hc'.out]; rintro e w1 ⟨rfl, rfl⟩)
  have cX := cell_new_e (w.alloc (.map #[] 0)) (.map (some w.heap.size)) 73
  have cM := cell_new_e ((w.alloc (.map #[] 0)).alloc (.cells #[.map (some w.heap.size)] 73)) (.int .i64 1) 3
  simp only [World.size_alloc] at cX cM
  have hm0 := World.ownsMap_made w Try.prog 9 (plainElem (H := Unit) Try.prog 4)
  have hS0 : SqW w (w.heap.size + 1 + 1) 0 0 [] (Maps.setOf (.lit (.bool true)) (keysTo s 0)) (((w.alloc (.map #[] 0)).alloc (.cells #[.map (some w.heap.size)] 73)).alloc (.cells #[.int .i64 1] 3)) :=
    ⟨cell_alloc_e _ cX.1, cM.1, cM.2, ⟨0, Nat.le_refl _, (hm0.alloc _).alloc _⟩, ⟨List.nodup_nil, fun D hD => absurd hD (by simp)⟩⟩
  have hB0 : Below w.heap.size w (((w.alloc (.map #[] 0)).alloc (.cells #[.map (some w.heap.size)] 73)).alloc (.cells #[.int .i64 1] 3)) := (((Below.refl _ w).alloc (Nat.le_refl _) _).alloc (by simp) _).alloc (by simp; omega) _
  clear cX cM hm0
  refine wpIn_loop (fun a' w' => ∃ (k b6 : Nat) (Ds : List Nat) (u7 u14 u15 u16 u17 u18 u19 u20 u21 u22 u23 u24 u25 u26 u27 u28 u29 u30 u31 u32 u33 u34 u35 : Value), k ≤ s.size / 2 ∧ w.heap.size + 2 ≤ b6 ∧ SqW w b6 k (k * 1001) Ds (Maps.setOf (.lit (.bool true)) (keysTo s k)) w' ∧ Below w.heap.size w w' ∧
      a' = { tmps := #[.string s, undef, .int .i64 0, .int .i64 0, .int .i64 0, .pointer (some ⟨w.heap.size + 1, 0, none⟩), .pointer (some ⟨b6, 0, none⟩), u7, .string s, .int .i64 0, .int .i64 0, .bool false, undef, .map (some w.heap.size), u14, u15, u16, u17, u18, u19, u20, u21, u22, u23, u24, u25, u26, u27, u28, u29, u30, u31, u32, u33, u34, u35, undef, undef], defers := Ds.map mark })
    (sqM s.size) ?_ ?_
  · exact ⟨0, _, [], _, _, _, _, _, _, _, _, _, _, _, _, _, _, _, _, _, _, _, _, _, _, _, by omega, by omega, hS0, hB0, rfl⟩
  · rintro a' wr ⟨k, b6, Ds, u7, u14, u15, u16, u17, u18, u19, u20, u21, u22, u23, u24, u25, u26, u27, u28, u29, u30, u31, u32, u33, u34, u35, hk, hb6, ⟨hcX, hc6, hf6, ⟨n, hn, hown⟩, hmk⟩, hb, rfl⟩
    obtain ⟨ds, hds⟩ : ∃ ds, ds = Ds.map mark := ⟨_, rfl⟩
    rw [← hds]
    have hds' := Lib.hid hds
    clear hds hS0 hB0
    have hb6lt := cell_lt hc6
    have hc60 := Lib.hid hc6
    by_cases hlt : k < s.size / 2
    · have d1 : decide (2 * ((k : Int) + 1) ≤ s.size) = true := by simp; omega
      have d2 : IntKind.i64.wrap (2 * ((k : Int) + 1)) = 2 * ((k : Int) + 1) := IntWalk.i64_in _ (by omega)
      gi_wp2_with (refine ⟨trivial, ?_⟩; gi_at_call 67; refine (parts67_in Fence.wide _ trivial rfl _ _ _).mono ?_; rintro e w' ⟨rfl, rfl⟩)
      have cS := cell_new_e wr (.string s) 9
      have cM := cell_new_e (wr.alloc (.cells #[.string s] 9)) (.int .i64 (2 * ((k : Int) + 1))) 3
      simp only [World.size_alloc] at cS cM
      obtain ⟨W0, hW0⟩ : ∃ W0, (wr.alloc (.cells #[.string s] 9)).alloc (.cells #[.int .i64 (2 * ((k : Int) + 1))] 3) = W0 := ⟨_, rfl⟩
      have hsz : W0.heap.size = wr.heap.size + 2 := by rw [← hW0]; simp
      have hB0 : Below wr.heap.size wr W0 := by
        rw [← hW0]
        exact ((Below.refl _ wr).alloc (Nat.le_refl _) _).alloc (by simp) _
      have hbs := hb.size
      have hDs : ∀ E ∈ Ds, E < W0.heap.size := fun E hE => by have := hmk.lt hE; omega
      have hwlt := cell_lt hcX
      have hI0 : SqW w b6 k (k * 1001 + ([] : List (LtrM (2 * (k + 1)))).length) Ds (sqD (keysTo s k) (k + 1) ([] : List (LtrM (2 * (k + 1))))) W0 := by
        rw [← hW0]
        refine ⟨cell_alloc_e _ (cell_alloc_e _ hcX), cell_alloc_e _ (cell_alloc_e _ hc6), frozen_alloc_e _ (cell_alloc_e _ hc6) (frozen_alloc_e _ hc6 hf6), ⟨n, by simp; exact hn, ?_⟩, ?_⟩
        · have e : sqD (keysTo s k) (k + 1) ([] : List (LtrM (2 * (k + 1)))) = Maps.setOf (.lit (.bool true)) (keysTo s k) := by unfold sqD sqKeys; simp
          rw [e]
          exact (hown.alloc _).alloc _
        · rw [hW0]; exact hmk.below hB0
      have hcM : W0.cell? ⟨wr.heap.size + 1, 0, none⟩ = some (.int .i64 ((2 * (k + 1) : Nat) : Int)) := by rw [← hW0]; exact cM.1
      have hcS : W0.cell? ⟨wr.heap.size, 0, none⟩ = some (.string s) := by rw [← hW0]; exact cell_alloc_e _ cS.1
      have hBw : Below w.heap.size w W0 := below_seq hb hB0 (by omega)
      rw [hW0]
      clear cS cM
      have hW0' := Lib.hid hW0
      clear hW0
      refine wpIn_rangeFunc_ownG rfl (by omega) (gf := 78) (lb := #[.pointer (some ⟨wr.heap.size + 1, 0, none⟩), .pointer (some ⟨wr.heap.size, 0, none⟩)]) rfl trivial (enters_of Try.func78 (by kernel_rfl) rfl)
        (parts78m_stops Fence.wide _ trivial rfl (by omega) _ _ s hs (2 * (k + 1)) (by omega) (by omega) W0 (by omega) (by omega) hcM hcS) Keep2.t (keep2_b (by omega) (by omega)) (Below.refl _ _) (fun _ => rfl)
        (fun pre W => (wr.heap.size + 2 ≤ W.heap.size ∧ SqW w b6 k (k * 1001 + pre.length) Ds (sqD (keysTo s k) (k + 1) pre) W) ∧ Below w.heap.size w W)
        (fun _ _ _ => False)
        ?hI (fun _ _ _ _ _ hs _ _ => hs) ⟨⟨by omega, hI0⟩, hBw⟩
        (fun x => { tmps := #[.string s, undef, .int .i64 0, .int .i64 0, .int .i64 0, .pointer (some ⟨w.heap.size + 1, 0, none⟩), .pointer (some ⟨b6, 0, none⟩), .string x.1, .string s, .int .i64 0, .int .i64 0, .bool false, undef, .map (some w.heap.size), .int .i64 ((k : Int) + 1), .int .i64 (2 * ((k : Int) + 1)), .string s, .int .i64 s.size, .bool true, u19, u20, .string s, .int .i64 ((k : Int) + 1), .int .i64 (2 * ((k : Int) + 1)),
          .func (.func 78) #[] #[.pointer (some ⟨wr.heap.size + 1, 0, none⟩), .pointer (some ⟨wr.heap.size, 0, none⟩)], .string x.1, u26, u27, u28, u29, u30, u31, u32, u33, u34, u35, undef, undef], defers := [] }) ?assign ?body ?done ?stop
      case hI =>
        exact OwnFrom.and (fun s A B row hs hg hr => ⟨Nat.le_trans hs.1 hg.size, hs.2.own hg hr (by omega) hDs⟩) (ownFrom_below (Nat.le_refl _) (by omega))
      case assign =>
        intro l x W K hK
        gi_wp2
        exact hK
      case body =>
        rintro l pre x W ⟨⟨hN, hS⟩, hB⟩ hlt3
        have hxs := x.2
        have hkey := key_ltrM (by omega) x
        have hc6 := hS.2.1
        have g1 : (k : Int) + 1 ≤ (x.1.size : Int) := by omega
        have g2 : ((k : Int) + 1).toNat = k + 1 := by omega
        have g3 : (0 : Int) ≤ (k : Int) + 1 := by omega
        have g4 : x.1.size ≤ 1000 := by omega
        have hS' := Lib.hid hS
        have hkey' := Lib.hid hkey
        have hqB := Lib.hid (sqX_eq (h := k + 1) x)
        clear hS hkey hxs
        gi_wp2
        rename_i Q1 K1 a1
        have hrest : Exit.then K1 (Exit.inBlock 3 Q1) Exit.normal { tmps := #[.string s, undef, .int .i64 0, .int .i64 0, .int .i64 0, .pointer (some ⟨w.heap.size + 1, 0, none⟩), .pointer (some ⟨b6, 0, none⟩), .string x.1, .string s, .int .i64 0, .int .i64 0, .bool false, undef, .map (some w.heap.size), .int .i64 ((k : Int) + 1), .int .i64 (2 * ((k : Int) + 1)), .string s, .int .i64 s.size, .bool true, u19, u20, .string s, .int .i64 ((k : Int) + 1), .int .i64 (2 * ((k : Int) + 1)),
            .func (.func 78) #[] #[.pointer (some ⟨wr.heap.size + 1, 0, none⟩), .pointer (some ⟨wr.heap.size, 0, none⟩)], .string x.1, .string x.1, .int .i64 ((k : Int) + 1), .string (x.1.extract 0 (k + 1)), .string x.1, .int .i64 ((k : Int) + 1), .string (x.1.extract (k + 1) x.1.size),
            .bool ((x.1.extract 0 (k + 1)).toList == (x.1.extract (k + 1) x.1.size).toList), u33, u34, u35, undef, undef], defers := [] } W.drew := by
          rw [hqB.out]
          have hS3 := hS'.out.drew
          have hB3 : Below w.heap.size w W.drew := hB.drew
          have hN3 : wr.heap.size + 2 ≤ W.drew.heap.size := hN
          have kO : KeepsOthers W W.drew := KeepsOthers.drew _
          have kk : Keep2 (wr.heap.size + 1) wr.heap.size W W.drew := ⟨rfl, rfl⟩
          obtain ⟨W3, hW3⟩ : ∃ W3, W3 = W.drew := ⟨_, rfl⟩
          rw [← hW3] at hS3 hB3 hN3 kO kk ⊢
          clear hW3 hc6 hS'
          obtain ⟨hcX, hc6, hf6, ⟨n, hn, hown⟩, hmk⟩ := hS3
          have hk200 : k * 1001 ≤ 1000 * 1001 := Nat.mul_le_mul (by omega) (Nat.le_refl _)
          cases hq : sqX (k + 1) x
          · have hno := Lib.hid (sqD_no (K0 := keysTo s k) (pre := pre) hq)
            clear hq
            gi_wp2
            exact ⟨kO.from _, kk, ⟨by exact hN3, hcX, hc6, hf6, ⟨n, by rw [List.length_append]; omega, by rw [hno.out]; exact hown⟩, hmk⟩, hB3⟩
          · have hyes := Lib.hid (sqD_yes (K0 := keysTo s k) (pre := pre) hq)
            have hkk := hkey'.out
            clear hq
            gi_wp2_with (gi_at_mapUpdate; refine wpListIn_mapUpdate_own _ rfl _ _ _ 73 rfl 9 4 (Maps.string_keyed Try.underlying9) Try.underlying73 _ w.heap.size n _ rfl hown (by unfold maxLen; omega) _ _ _ rfl rfl hkk _ [] (plainElem_bool Try.underlying4 true) ?_; intro w1 hown1 hgrow1)
            obtain ⟨es, ck, hh, _⟩ := hown
            have hmp : ∀ r, some w.heap.size = some r → ∃ o : Obj, W3.heap[r]? = some o ∧ o.isCells = false := fun r e => by cases e; exact ⟨_, hh, rfl⟩
            have hWs := hB3.size
            refine ⟨(kO.from _).trans (KeepsFrom.of_grownBy hgrow1 (fun j e => by cases e; omega)), kk.t ⟨hgrow1.cell_far _ (by show wr.heap.size + 1 < _; omega) (fun e => by simp at e; omega), hgrow1.cell_far _ (by show wr.heap.size < _; omega) (fun e => by simp at e; omega)⟩,
              ⟨Nat.le_trans hN3 hgrow1.size, cell_kept hcX hgrow1 hmp, cell_kept hc6 hgrow1 hmp, (frozen_kept hc6 hgrow1 hmp).trans hf6, ⟨n + 1, by rw [List.length_append, List.length_singleton]; omega, by rw [hyes.out]; exact hown1⟩,
                hmk.1, fun E hE => ⟨(hmk.2 E hE).1, ?_⟩⟩, hB3.grown hgrow1 hB3.size (fun k e => by cases e; exact Nat.le_refl _)⟩
            rw [hgrow1.block E (hmk.lt hE) (fun e => by
              have e2 : E = w.heap.size := by simpa using e
              have h3 := (hmk.2 E hE).2
              rw [e2, hh] at h3; cases h3)]
            exact (hmk.2 E hE).2
        gi_region_with_o (fail)
        all_goals exact hrest
      case done =>
        rintro D ys W hD rfl ⟨⟨hN, hcX, hc6, hf6, ⟨n, hn, hown⟩, hmk⟩, hB⟩ hK
        have hbs3 := hB.size
        have hb6l := cell_lt hc6
        have hmk2 : Marks W w.heap.size (D :: Ds) := hmk.cons (N := W0.heap.size) hDs hD (by omega) hK
        have hln := partsM_len s (2 * (k + 1)) (s.size + 1 - 2 * (k + 1))
        have hka : (keysTo s (k + 1)) = keysTo s k ++ sqKeys (k + 1) (partsM s (2 * (k + 1)) (s.size + 1 - 2 * (k + 1))) := rfl
        have hka' := Lib.hid hka
        have hown' := Lib.hid hown
        clear hka hown
        gi_wp2
        have cN := cell_new_e W (.int .i64 ((k : Int) + 1 + 1)) 3
        refine ⟨⟨k + 1, W.heap.size, D :: Ds, _, _, _, _, _, _, _, _, _, _, _, _, _, _, _, _, _, _, _, _, _, _, _, by omega, by omega, ⟨cell_alloc_e _ hcX, cN.1, cN.2, ⟨n, by omega, ?_⟩, hmk2.below ((Below.refl _ _).alloc (Nat.le_refl _) _)⟩, hB.alloc hbs3 _, by rw [hds'.out]; rfl⟩, ?_⟩
        · rw [hka'.out]
          exact hown'.out.alloc _
        · rw [sqM_eq rfl cN.1, sqM_eq rfl hc60.out]; omega
      case stop =>
        rintro D c pre W _ _ h _
        exact h.elim
    · have hke : k = s.size / 2 := by omega
      have hke' := Lib.hid hke
      have d1 : decide (2 * ((k : Int) + 1) ≤ s.size) = false := by simp; omega
      have d2 : IntKind.i64.wrap (2 * ((k : Int) + 1)) = 2 * ((k : Int) + 1) := IntWalk.i64_in _ (by omega)
      clear hke
      gi_wp2_with (first | (gi_at_len; refine wpListIn_len_own rfl _ 73 rfl 9 4 Try.underlying73 _ w.heap.size _ _ rfl hown ?_))
      show LeavesInM _ _ _ _ _ _ _ _ _
      rw [hds'.out]
      refine leaves_marks w.heap.size (fun W => Below w.heap.size w W) ?_ ?_ Ds _ hb hmk
      · exact fun W D hb hB hD => below_put hb hB hD
      · exact fun W h => ⟨_, results_tmp2 rfl _ _ _, by rw [← hke'.out]; rfl, h⟩
end Go.Proofs.Ytbcoaiaocfommaa
