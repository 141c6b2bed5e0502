import Derived.Test.YtbcoaiaocfommaaBd
namespace Go.Proofs.Ytbcoaiaocfommaa
open Go.RowKit Go.Shelf
attribute [local go_sem] Oper.semAt_some

def EvI (m : Nat) (w : World) (pre : List Ltr) (W : World) : Prop :=
  ((W.cell? ⟨w.heap.size, 0, none⟩ = some (.bool false) ∧ W.frozen? ⟨w.heap.size, 0, none⟩ = false) ∧ (W.cell? ⟨w.heap.size + 1, 0, none⟩ = some (.int .i64 (lowP m pre : Nat)) ∧ W.frozen? ⟨w.heap.size + 1, 0, none⟩ = false) ∧
    (W.cell? ⟨w.heap.size + 1 + 1, 0, none⟩ = some (.int .i64 (highP pre : Nat)) ∧ W.frozen? ⟨w.heap.size + 1 + 1, 0, none⟩ = false)) ∧ Below w.heap.size w W

theorem cell_other {w : World} (p q : Nat) (v : Value) (h : p ≠ q) : (w.setCell ⟨p, 0, none⟩ v).cell? ⟨q, 0, none⟩ = w.cell? ⟨q, 0, none⟩ := World.cell?_setCell_other _ _ _ _ (fun e => h (congrArg Addr.block e))
theorem cell_same {w : World} {p : Addr} {u v : Value} (h : w.cell? p = some u) : (w.setCell p v).cell? p = some v := World.cell?_setCell_same' _ _ _ (by rw [h]; rfl)
theorem even_yes (s : ByteArray) (hs : s.size ≤ 1000) (m : Nat) (h : highP (partsUp s hs m (s.size + 1 - m)) ≤ lowP m (partsUp s hs m (s.size + 1 - m)) + 1) : evenB s.data.toList m = true := by
  rw [highP_up, lowP_up] at h
  unfold evenB
  rw [size_len]
  simp; omega
theorem even_no (s : ByteArray) (hs : s.size ≤ 1000) (m : Nat) {pre : List Ltr} (hp : pre <+: partsUp s hs m (s.size + 1 - m)) (h : ¬ highP pre ≤ lowP m pre + 1) : evenB s.data.toList m = false := by
  have h1 := lowP_pre (m := m) hp
  have h2 := highP_pre hp
  rw [lowP_up] at h1
  rw [highP_up] at h2
  unfold evenB
  rw [size_len]
  simp; omega

set_option maxRecDepth 100000 in
set_option maxHeartbeats 2000000 in
theorem even70 (s : ByteArray) (m : Nat) (w : World) (hs : s.size ≤ 1000) (hm : 1 ≤ m) (hms : m ≤ s.size) :
    Calls Try.prog 70 #[.string s, .int .i64 (m : Int)] w fun e w' => e = .returned (.bool (evenB s.data.toList m)) ∧ Below w.heap.size w w' := by
  refine (callsIn_wide (n := 6)).1 ?_
  have hmx : Try.prog.follows .mixedOrders = true := by kernel_rfl
  refine callsIn_of_wp_marks Try.func70 rfl trivial ?_ rfl
  simp only [Try.ntmps70, List.size_toArray, List.length_cons, List.length_nil, Nat.reduceAdd, Nat.reduceSub, Array.replicate_succ, Array.replicate_zero, List.push_toArray, List.append_toArray, List.nil_append, List.cons_append]
  gi_wp2_with (refine ⟨trivial, ?_⟩; gi_at_call 67; refine (parts67_in Fence.wide _ trivial rfl _ _ _).mono ?_; rintro e w1 ⟨rfl, rfl⟩)
  have hlw := lowP_le m
  have cR := cell_new_e w (.bool false) 4
  have cL := cell_new_e (w.alloc (.cells #[.bool false] 4)) (.int .i64 (m : Int)) 3
  have cH := cell_new_e ((w.alloc (.cells #[.bool false] 4)).alloc (.cells #[.int .i64 (m : Int)] 3)) (.int .i64 0) 3
  have cS := cell_new_e (((w.alloc (.cells #[.bool false] 4)).alloc (.cells #[.int .i64 (m : Int)] 3)).alloc (.cells #[.int .i64 0] 3)) (.string s) 9
  have cM := cell_new_e ((((w.alloc (.cells #[.bool false] 4)).alloc (.cells #[.int .i64 (m : Int)] 3)).alloc (.cells #[.int .i64 0] 3)).alloc (.cells #[.string s] 9)) (.int .i64 (m : Int)) 3
  simp only [World.size_alloc] at cL cH cS cM
  obtain ⟨W0, hW0⟩ : ∃ W0, ((((w.alloc (.cells #[.bool false] 4)).alloc (.cells #[.int .i64 (m : Int)] 3)).alloc (.cells #[.int .i64 0] 3)).alloc (.cells #[.string s] 9)).alloc (.cells #[.int .i64 (m : Int)] 3) = W0 := ⟨_, rfl⟩
  have hsz : W0.heap.size = w.heap.size + 5 := by rw [← hW0]; simp
  have hB0 : Below w.heap.size w W0 := by
    rw [← hW0]
    exact (((((Below.refl _ w).alloc (Nat.le_refl _) _).alloc (by simp) _).alloc (by simp; omega) _).alloc (by simp; omega) _).alloc (by simp; omega) _
  have hI0 : EvI m w [] W0 := by
    rw [← hW0]
    refine ⟨⟨⟨?_, ?_⟩, ⟨?_, ?_⟩, ⟨?_, ?_⟩⟩, hW0 ▸ hB0⟩
    · exact cell_alloc_e _ (cell_alloc_e _ (cell_alloc_e _ (cell_alloc_e _ cR.1)))
    · exact frozen_alloc_e _ (cell_alloc_e _ (cell_alloc_e _ (cell_alloc_e _ cR.1))) (frozen_alloc_e _ (cell_alloc_e _ (cell_alloc_e _ cR.1)) (frozen_alloc_e _ (cell_alloc_e _ cR.1) (frozen_alloc_e _ cR.1 cR.2)))
    · exact cell_alloc_e _ (cell_alloc_e _ (cell_alloc_e _ cL.1))
    · exact frozen_alloc_e _ (cell_alloc_e _ (cell_alloc_e _ cL.1)) (frozen_alloc_e _ (cell_alloc_e _ cL.1) (frozen_alloc_e _ cL.1 cL.2))
    · exact cell_alloc_e _ (cell_alloc_e _ cH.1)
    · exact frozen_alloc_e _ (cell_alloc_e _ cH.1) (frozen_alloc_e _ cH.1 cH.2)
  have hcM : W0.cell? ⟨w.heap.size + 1 + 1 + 1 + 1, 0, none⟩ = some (.int .i64 (m : Int)) := by rw [← hW0]; exact cM.1
  have hcS : W0.cell? ⟨w.heap.size + 1 + 1 + 1, 0, none⟩ = some (.string s) := by rw [← hW0]; exact cell_alloc_e _ cS.1
  rw [hW0]
  clear cR cL cH cS cM
  have hW0' := Lib.hid hW0
  clear hW0
  refine wpIn_rangeFunc_ownF rfl (by omega) (gf := 78) (lb := #[.pointer (some ⟨w.heap.size + 1 + 1 + 1 + 1, 0, none⟩), .pointer (some ⟨w.heap.size + 1 + 1 + 1, 0, none⟩)]) rfl trivial (enters_of Try.func78 (by kernel_rfl) rfl)
    (parts78_stops Fence.wide _ trivial rfl (by omega) _ _ s hs m hm hms W0 (by omega) (by omega) hcM hcS) Keep2.t (keep2_b (by omega) (by omega)) (Below.refl _ _) (fun _ => rfl)
    (fun pre W => EvI m w pre W ∧ highP pre ≤ lowP m pre + 1)
    (fun c pre W => (c = .ret ∧ (W.cell? ⟨w.heap.size, 0, none⟩ = some (.bool false) ∧ W.frozen? ⟨w.heap.size, 0, none⟩ = false) ∧ ¬ highP pre ≤ lowP m pre + 1) ∧ Below w.heap.size w W)
    ?hI ?hIx ⟨hI0, by simp [highP]⟩
    (fun x => { tmps := #[.string s, .int .i64 (m : Int), undef, undef, .pointer (some ⟨w.heap.size, 0, none⟩), .pointer (some ⟨w.heap.size + 1, 0, none⟩), .pointer (some ⟨w.heap.size + 1 + 1, 0, none⟩), .string x.1, undef, .int .i64 (m : Int), .string s, .int .i64 (m : Int),
      .func (.func 78) #[] #[.pointer (some ⟨w.heap.size + 1 + 1 + 1 + 1, 0, none⟩), .pointer (some ⟨w.heap.size + 1 + 1 + 1, 0, none⟩)], .string x.1, undef, undef, undef, undef, undef, undef, undef, undef, undef, undef, undef, undef], defers := [] }) ?assign ?body ?done ?stop
  case hI =>
    exact OwnFrom.and (OwnFrom.and (fun s A B row hs hg hr => ⟨⟨cell_kept hs.1.1 hg (fun r e => (hr r e).2), (frozen_kept hs.1.1 hg (fun r e => (hr r e).2)).trans hs.1.2⟩, ⟨cell_kept hs.2.1.1 hg (fun r e => (hr r e).2), (frozen_kept hs.2.1.1 hg (fun r e => (hr r e).2)).trans hs.2.1.2⟩, ⟨cell_kept hs.2.2.1 hg (fun r e => (hr r e).2), (frozen_kept hs.2.2.1 hg (fun r e => (hr r e).2)).trans hs.2.2.2⟩⟩) (ownFrom_below (Nat.le_refl _) (by omega))) (ownFrom_pure _ _)
  case hIx =>
    exact fun c => OwnFrom.and (fun s A B row hs hg hr => ⟨hs.1, ⟨cell_kept hs.2.1.1 hg (fun r e => (hr r e).2), (frozen_kept hs.2.1.1 hg (fun r e => (hr r e).2)).trans hs.2.1.2⟩, hs.2.2⟩) (ownFrom_below (Nat.le_refl _) (by omega))
  case assign =>
    intro l x W K hK
    gi_wp2
    exact hK
  case body =>
    rintro l pre x W ⟨⟨⟨⟨hc1, hf1⟩, ⟨hc2, hf2⟩, ⟨hc3, hf3⟩⟩, hB⟩, hdf⟩ hlt
    have hbx := bN_ltr x
    have hlo := lowP_le m pre
    have hhi := highP_le pre
    have hd : 1 ≤ 6 - 1 - 1 := by omega
    have hsn1 := Lib.hid (lowP_snoc m pre x)
    have hsn2 := Lib.hid (highP_snoc pre x)
    obtain ⟨lo, hlo'⟩ : ∃ lo, lo = lowP m pre := ⟨_, rfl⟩
    obtain ⟨hh, hhi'⟩ : ∃ hh, hh = highP pre := ⟨_, rfl⟩
    obtain ⟨b, hb'⟩ : ∃ b, b = bN x.1.data.toList := ⟨_, rfl⟩
    rw [← hlo'] at hlo hdf hc2 hsn1
    rw [← hhi'] at hhi hdf hc3 hsn2
    rw [← hb'] at hbx hsn1 hsn2
    have hcn := Lib.hid (show ∀ w2, Calls Try.prog 80 #[.string x.1, .string ⟨#[98]⟩] w2 fun e w' => e = .returned (.int .i64 (b : Int)) ∧ w' = w2 from fun w2 => by rw [hb', ← count_bN]; exact Try.strings_Count_one x.1 98 w2)
    clear hlo' hhi' hb'
    gi_wp2_with (refine ⟨trivial, ?_⟩; gi_at_call 80; refine (CallsIn.inRound l (callsIn_wide.2 (hcn.out _))).mono ?_; rintro e w2 ⟨rfl, rfl⟩)
    rename_i Q1 K1 a1
    clear hcn
    have m1 : (min (lo : Int) (b : Int)) = ((min lo b : Nat) : Int) := by omega
    have m2 : (max (hh : Int) (b : Int)) = ((max hh b : Nat) : Int) := by omega
    have hl2 : min lo b ≤ 1000 := by omega
    have hh2 : max hh b ≤ 1000 := by omega
    have hrest : Exit.then K1 (Exit.inBlock 1 Q1) Exit.normal { tmps := #[.string s, .int .i64 (m : Int), undef, undef, .pointer (some ⟨w.heap.size, 0, none⟩), .pointer (some ⟨w.heap.size + 1, 0, none⟩), .pointer (some ⟨w.heap.size + 1 + 1, 0, none⟩), .string x.1, .int .i64 (b : Int), .int .i64 (m : Int), .string s, .int .i64 (m : Int),
        .func (.func 78) #[] #[.pointer (some ⟨w.heap.size + 1 + 1 + 1 + 1, 0, none⟩), .pointer (some ⟨w.heap.size + 1 + 1 + 1, 0, none⟩)], .string x.1, .string x.1, .int .i64 (b : Int), .int .i64 (lo : Int), .int .i64 (b : Int), .int .i64 ((min lo b : Nat) : Int), .int .i64 (hh : Int), .int .i64 (b : Int), .int .i64 ((max hh b : Nat) : Int), undef, undef, undef, undef], defers := [] }
        ((w2.setCell ⟨w.heap.size + 1, 0, none⟩ (.int .i64 ((min lo b : Nat) : Int))).setCell ⟨w.heap.size + 1 + 1, 0, none⟩ (.int .i64 ((max hh b : Nat) : Int))).drew := by
      have k0 : (w2.setCell ⟨w.heap.size + 1, 0, none⟩ (.int .i64 ((min lo b : Nat) : Int))).cell? ⟨w.heap.size + 1 + 1, 0, none⟩ = some (.int .i64 (hh : Int)) := by rw [cell_other _ _ _ (by omega)]; exact hc3
      obtain ⟨W3, hW3⟩ : ∃ W3, W3 = ((w2.setCell ⟨w.heap.size + 1, 0, none⟩ (.int .i64 ((min lo b : Nat) : Int))).setCell ⟨w.heap.size + 1 + 1, 0, none⟩ (.int .i64 ((max hh b : Nat) : Int))).drew := ⟨_, rfl⟩
      have kB : Below w.heap.size w2 W3 := by
        rw [hW3]
        exact (((Below.refl _ _).setCell (p := ⟨w.heap.size + 1, 0, none⟩) (by simp) _).setCell (p := ⟨w.heap.size + 1 + 1, 0, none⟩) (by simp; omega) _).drew
      have kO : KeepsOthers w2 W3 := by
        rw [hW3]
        exact ((KeepsOthers.setCell _ _ _).trans (KeepsOthers.setCell _ _ _)).trans (KeepsOthers.drew _)
      have k1 : W3.cell? ⟨w.heap.size, 0, none⟩ = some (.bool false) := by rw [hW3, cell_drew_own, cell_other _ _ _ (by omega), cell_other _ _ _ (by omega)]; exact hc1
      have k1f : W3.frozen? ⟨w.heap.size, 0, none⟩ = false := by rw [hW3, frozen_drew_own, World.frozen?_setCell, World.frozen?_setCell]; exact hf1
      have k2 : W3.cell? ⟨w.heap.size + 1, 0, none⟩ = some (.int .i64 ((min lo b : Nat) : Int)) := by rw [hW3, cell_drew_own, cell_other _ _ _ (by omega)]; exact cell_same hc2
      have k2f : W3.frozen? ⟨w.heap.size + 1, 0, none⟩ = false := by rw [hW3, frozen_drew_own, World.frozen?_setCell, World.frozen?_setCell]; exact hf2
      have k3 : W3.cell? ⟨w.heap.size + 1 + 1, 0, none⟩ = some (.int .i64 ((max hh b : Nat) : Int)) := by rw [hW3, cell_drew_own]; exact cell_same k0
      have k3f : W3.frozen? ⟨w.heap.size + 1 + 1, 0, none⟩ = false := by rw [hW3, frozen_drew_own, World.frozen?_setCell, World.frozen?_setCell]; exact hf3
      have kk : Keep2 (w.heap.size + 1 + 1 + 1 + 1) (w.heap.size + 1 + 1 + 1) w2 W3 := by
        rw [hW3]
        constructor <;> rw [cell_drew_own, cell_other _ _ _ (by omega), cell_other _ _ _ (by omega)]
      rw [← hW3]
      have hW3' := Lib.hid hW3
      clear hW3 hc1 hc2 hc3 hf1 hf2 hf3 k0
      obtain ⟨l2, hl2'⟩ : ∃ l2, l2 = min lo b := ⟨_, rfl⟩
      obtain ⟨h2, hh2'⟩ : ∃ h2, h2 = max hh b := ⟨_, rfl⟩
      rw [← hl2'] at k2 hl2 hsn1 ⊢
      rw [← hh2'] at k3 hh2 hsn2 ⊢
      clear m1 m2
      by_cases hgt : (h2 : Int) - l2 ≤ 1
      · gi_wp2
        exact ⟨kO, kk, ⟨⟨⟨⟨k1, k1f⟩, ⟨by rw [hsn1.out]; exact k2, k2f⟩, ⟨by rw [hsn2.out]; exact k3, k3f⟩⟩, hB.trans kB⟩, by rw [hsn1.out, hsn2.out]; omega⟩⟩
      · gi_wp2
        refine ⟨kO.trans (KeepsOthers.setCell _ _ _), ?_⟩
        refine ⟨⟨rfl, ⟨cell_same k1, by rw [World.frozen?_setCell]; exact k1f⟩, ?_⟩, (hB.trans kB).setCell (p := ⟨w.heap.size, 0, none⟩) (Nat.le_refl _) _⟩
        rw [hsn1.out, hsn2.out]; omega
    gi_region_with_o (fail)
    all_goals exact hrest
  case done =>
    rintro D ys W hD rfl ⟨⟨⟨⟨hc1, hf1⟩, ⟨hc2, hf2⟩, ⟨hc3, hf3⟩⟩, hB⟩, hdf⟩ hK
    have hev := Lib.hid (even_yes s hs m hdf)
    clear hdf hc2 hc3
    gi_wp2
    have hK' := (KeepsOthers.setCell W ⟨w.heap.size, 0, none⟩ (.bool true)).same D _ hK rfl
    refine ⟨by simp, .inl ⟨_, _, rfl, run_takeDeferred hK', ?_⟩⟩
    have hc5 := cell_kept (World.cell?_setCell_same' W ⟨w.heap.size, 0, none⟩ (.bool true) (by rw [hc1]; rfl)) (grownBy_putObj' _ D (.deferred none)) (fun r e => by cases e; exact ⟨_, hK', rfl⟩)
    refine ⟨.bool true, ?_, by rw [hev.out], (hB.setCell (p := ⟨w.heap.size, 0, none⟩) (Nat.le_refl _) _).trans (belowK_b (w := w) (Nat.le_refl _) _ D _ _ (by omega) hK' rfl rfl)⟩
    simp [results, Try.f70, go_sem, hc5]
  case stop =>
    rintro D c pre W hD hpre ⟨⟨rfl, ⟨hc1, hf1⟩, hdf⟩, hB⟩ hK
    have hev := Lib.hid (even_no s hs m hpre hdf)
    clear hdf
    gi_wp2
    refine ⟨by simp, .inl ⟨_, _, rfl, run_takeDeferred hK, ?_⟩⟩
    have hc5 := cell_kept hc1 (grownBy_putObj' _ D (.deferred none)) (fun r e => by cases e; exact ⟨_, hK, rfl⟩)
    refine ⟨.bool false, ?_, by rw [hev.out], hB.trans (belowK_b (w := w) (Nat.le_refl _) W D _ _ (by omega) hK rfl rfl)⟩
    simp [results, Try.f70, go_sem, hc5]
end Go.Proofs.Ytbcoaiaocfommaa
