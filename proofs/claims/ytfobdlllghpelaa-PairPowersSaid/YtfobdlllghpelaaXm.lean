import Derived.Test.YtfobdlllghpelaaS
namespace Go.Proofs.Ytfobdlllghpelaa
open Go.RowKit Go.Shelf Pair
attribute [local go_sem] Oper.semAt_some

/-- Eight numbers as a value. -/
def arr8 (xs : List Int) : Value := .agg (xs.map (Value.int .i64)).toArray
theorem eight {xs : List Int} (h : xs.length = 8) : ∃ a b c d e f g i, xs = [a, b, c, d, e, f, g, i] := by
  match xs, h with
  | [a, b, c, d, e, f, g, i], _ => exact ⟨a, b, c, d, e, f, g, i, rfl⟩

theorem reads_eight {w : World} {g : Nat} {xs : List Int} (h : xs.length = 8) (hg : g < w.heap.size) (hc : ∀ j, j < 8 → w.cell? ⟨g, j, none⟩ = some (.int .i64 (xs.getD j 0))) : Reads w (.slice (some ⟨g, 0, none⟩) 8 8) xs := by
  refine ⟨_, _, by rw [h], by omega, fun _ => ⟨g, 0, rfl, hg, fun j hj => ?_⟩⟩
  rw [Nat.zero_add]
  exact hc j (by omega)

set_option maxHeartbeats 2000000 in
set_option maxRecDepth 100000 in
theorem compare57 {w : World} {xs ys : List Int} (hx : xs.length = 8) (hy : ys.length = 8) :
    Calls Try.prog 57 #[arr8 xs, arr8 ys] w fun e w' => e = .returned (.int .i64 (cmpL xs ys)) ∧ Below w.heap.size w w' := by
  obtain ⟨a0, a1, a2, a3, a4, a5, a6, a7, rfl⟩ := eight hx
  obtain ⟨b0, b1, b2, b3, b4, b5, b6, b7, rfl⟩ := eight hy
  clear hx hy
  simp only [arr8, List.map_cons, List.map_nil]
  go_enter Try.func57, Try.ntmps57
  go_wp2_with fail
  obtain ⟨w2, hw2⟩ : ∃ w2, w2 = (w.alloc (.cells #[.int .i64 a0, .int .i64 a1, .int .i64 a2, .int .i64 a3, .int .i64 a4, .int .i64 a5, .int .i64 a6, .int .i64 a7] 79)).alloc (.cells #[.int .i64 b0, .int .i64 b1, .int .i64 b2, .int .i64 b3, .int .i64 b4, .int .i64 b5, .int .i64 b6, .int .i64 b7] 79) := ⟨_, rfl⟩
  have hb := Lib.hid (show Below w.heap.size w w2 by rw [hw2]; exact ((Below.refl _ _).alloc (Nat.le_refl _) _).alloc (by simp) _)
  have r1 := Lib.hid (reads_eight (w := w2) (g := w.heap.size) (xs := [a0, a1, a2, a3, a4, a5, a6, a7]) rfl (by rw [hw2]; simp; omega) (fun j hj => by
    rw [hw2]
    refine ((below_alloc1 _ _).cell (p := ⟨w.heap.size, j, none⟩) (by simp)).trans ?_
    rw [World.cell?_alloc_at (hn := rfl)]
    match j, hj with
    | 0, _ | 1, _ | 2, _ | 3, _ | 4, _ | 5, _ | 6, _ | 7, _ => rfl))
  have r2 := Lib.hid (reads_eight (w := w2) (g := w.heap.size + 1) (xs := [b0, b1, b2, b3, b4, b5, b6, b7]) rfl (by rw [hw2]; simp) (fun j hj => by
    rw [hw2, World.cell?_alloc_at (hn := by simp)]
    match j, hj with
    | 0, _ | 1, _ | 2, _ | 3, _ | 4, _ | 5, _ | 6, _ | 7, _ => rfl))
  rw [← hw2]
  clear hw2
  have hc := Lib.hid (fun (q : Nat) => compare52 (r1.out.below (below_drewN (Below.refl w2.heap.size w2) q)) (r2.out.below (below_drewN (Below.refl w2.heap.size w2) q)) (by simp))
  obtain ⟨V, hV⟩ : ∃ V, V = cmpL [a0, a1, a2, a3, a4, a5, a6, a7] [b0, b1, b2, b3, b4, b5, b6, b7] := ⟨_, rfl⟩
  rw [← hV] at hc
  have hV' := Lib.hid hV
  clear hV r1 r2
  go_quiet ((go_at_call 52; refine (hc.out _).mono ?_; rintro e w' ⟨rfl, rfl⟩; exact ⟨rfl, _, rfl⟩))
  go_wp2_with fail
  go_ret
  have hV2 := hV'.out
  subst hV2
  exact ⟨rfl, below_drewN hb.out nq⟩

/-- A row of eight numbers in a block of its own. -/
def Arr (w : World) (g : Nat) (xs : List Int) : Prop := xs.length = 8 ∧ g < w.heap.size ∧ (∀ j, j < 8 → w.cell? ⟨g, j, none⟩ = some (.int .i64 (xs.getD j 0))) ∧ ∀ j, w.frozen? ⟨g, j, none⟩ = false
theorem Arr.set {w : World} {g : Nat} {xs : List Int} (h : Arr w g xs) (k : Nat) (y : Int) : Arr (w.setCell ⟨g, k, none⟩ (.int .i64 y)) g (xs.set k y) := by
  refine ⟨by rw [List.length_set]; exact h.1, by simpa using h.2.1, fun j hj => ?_, fun j => by rw [World.frozen?_setCell]; exact h.2.2.2 j⟩
  have hj' : j < xs.length := by rw [h.1]; exact hj
  by_cases e : j = k
  · subst e
    rw [World.cell?_setCell_same' _ _ _ (by rw [h.2.2.1 j hj]; rfl)]
    simp [List.getD_eq_getElem?_getD, hj']
  · rw [World.cell?_setCell_other _ _ _ _ (by intro e'; simp only [Addr.mk.injEq] at e'; exact e e'.2.1.symm), h.2.2.1 j hj]
    simp [List.getD_eq_getElem?_getD, Ne.symm e]
theorem Arr.other {w : World} {g g' j : Nat} {xs : List Int} {y : Int} (h : Arr w g xs) (hg : g ≠ g') : Arr (w.setCell ⟨g', j, none⟩ (.int .i64 y)) g xs :=
  ⟨h.1, by simpa using h.2.1, fun i hi => by rw [World.cell?_setCell_other _ _ _ _ (by intro e'; simp only [Addr.mk.injEq] at e'; exact hg e'.1.symm)]; exact h.2.2.1 i hi, fun i => by rw [World.frozen?_setCell]; exact h.2.2.2 i⟩
theorem Arr.below {w w' : World} {g : Nat} {xs : List Int} (h : Arr w g xs) (hb : Below w.heap.size w w') : Arr w' g xs :=
  ⟨h.1, Nat.lt_of_lt_of_le h.2.1 hb.size, fun i hi => (hb.cell (p := ⟨g, i, none⟩) h.2.1).trans (h.2.2.1 i hi), fun i => (hb.frozen (p := ⟨g, i, none⟩) h.2.1).trans (h.2.2.2 i)⟩
theorem stored8 {w : World} {g : Nat} {c0 c1 c2 c3 c4 c5 c6 c7 z0 z1 z2 z3 z4 z5 z6 z7 : Value} {t : TypeId} (h : w.heap[g]? = some (.cells #[z0, z1, z2, z3, z4, z5, z6, z7] t (0, 0))) :
    ((((((((w.setCell ⟨g, 0, none⟩ c0).setCell ⟨g, 1, none⟩ c1).setCell ⟨g, 2, none⟩ c2).setCell ⟨g, 3, none⟩ c3).setCell ⟨g, 4, none⟩ c4).setCell ⟨g, 5, none⟩ c5).setCell ⟨g, 6, none⟩ c6).setCell ⟨g, 7, none⟩ c7).heap[g]? = some (.cells #[c0, c1, c2, c3, c4, c5, c6, c7] t (0, 0)) := by
  have h0 := heap_setCell_same _ _ 0 _ _ c0 h
  simp only [List.setIfInBounds_toArray, List.set_cons_zero] at h0
  have h1 := heap_setCell_same _ _ 1 _ _ c1 h0
  simp only [List.setIfInBounds_toArray, List.set_cons_zero, List.set_cons_succ] at h1
  have h2 := heap_setCell_same _ _ 2 _ _ c2 h1
  simp only [List.setIfInBounds_toArray, List.set_cons_zero, List.set_cons_succ] at h2
  have h3 := heap_setCell_same _ _ 3 _ _ c3 h2
  simp only [List.setIfInBounds_toArray, List.set_cons_zero, List.set_cons_succ] at h3
  have h4 := heap_setCell_same _ _ 4 _ _ c4 h3
  simp only [List.setIfInBounds_toArray, List.set_cons_zero, List.set_cons_succ] at h4
  have h5 := heap_setCell_same _ _ 5 _ _ c5 h4
  simp only [List.setIfInBounds_toArray, List.set_cons_zero, List.set_cons_succ] at h5
  have h6 := heap_setCell_same _ _ 6 _ _ c6 h5
  simp only [List.setIfInBounds_toArray, List.set_cons_zero, List.set_cons_succ] at h6
  have h7 := heap_setCell_same _ _ 7 _ _ c7 h6
  simp only [List.setIfInBounds_toArray, List.set_cons_zero, List.set_cons_succ] at h7
  exact h7
/-- A cost is laid at a place, and the less of the two goes on. -/
def stepF (s : List Int × Int) (i : Nat) : List Int × Int := (s.1.set i (max (s.1.getD i 0) s.2), min (s.1.getD i 0) s.2)
def afterF (xs : List Int) (c : Int) : Nat → List Int × Int
  | 0 => (xs, c)
  | k + 1 => stepF (afterF xs c k) k
def withF (xs : List Int) (c : Int) : List Int := (afterF xs c 8).1

set_option maxHeartbeats 2000000 in
set_option maxRecDepth 100000 in
theorem with56 {w : World} {xs : List Int} (hx : xs.length = 8) (c : Int) :
    Calls Try.prog 56 #[arr8 xs, .int .i64 c] w fun e w' => e = .returned (arr8 (withF xs c)) ∧ Below w.heap.size w w' := by
  obtain ⟨a0, a1, a2, a3, a4, a5, a6, a7, rfl⟩ := eight hx
  clear hx
  simp only [arr8, List.map_cons, List.map_nil]
  go_enter Try.func56, Try.ntmps56
  go_wp2_with fail
  obtain ⟨xs, hxs⟩ : ∃ xs : List Int, xs = [a0, a1, a2, a3, a4, a5, a6, a7] := ⟨_, rfl⟩
  have hA : Arr ((w.alloc (.cells #[.int .i64 a0, .int .i64 a1, .int .i64 a2, .int .i64 a3, .int .i64 a4, .int .i64 a5, .int .i64 a6, .int .i64 a7] 79)).alloc (.cells #[.int .i64 0, .int .i64 0, .int .i64 0, .int .i64 0, .int .i64 0, .int .i64 0, .int .i64 0, .int .i64 0] 79)) w.heap.size xs := by
    refine ⟨by rw [hxs]; rfl, by simp; omega, fun j hj => ?_, fun j => ?_⟩
    · refine ((below_alloc1 _ _).cell (p := ⟨w.heap.size, j, none⟩) (by simp)).trans ?_
      rw [World.cell?_alloc_at (hn := rfl), hxs]
      match j, hj with
      | 0, _ | 1, _ | 2, _ | 3, _ | 4, _ | 5, _ | 6, _ | 7, _ => rfl
    · refine ((below_alloc1 _ _).frozen (p := ⟨w.heap.size, j, none⟩) (by simp)).trans ?_
      exact frozen_of_row _ _ j _ 79 (World.alloc_heap_new w _)
  have hR : ((w.alloc (.cells #[.int .i64 a0, .int .i64 a1, .int .i64 a2, .int .i64 a3, .int .i64 a4, .int .i64 a5, .int .i64 a6, .int .i64 a7] 79)).alloc (.cells #[.int .i64 0, .int .i64 0, .int .i64 0, .int .i64 0, .int .i64 0, .int .i64 0, .int .i64 0, .int .i64 0] 79)).heap[w.heap.size + 1]? = some (.cells #[.int .i64 0, .int .i64 0, .int .i64 0, .int .i64 0, .int .i64 0, .int .i64 0, .int .i64 0, .int .i64 0] 79 (0, 0)) := heap_alloc2_new w _ _
  have hB : Below w.heap.size w ((w.alloc (.cells #[.int .i64 a0, .int .i64 a1, .int .i64 a2, .int .i64 a3, .int .i64 a4, .int .i64 a5, .int .i64 a6, .int .i64 a7] 79)).alloc (.cells #[.int .i64 0, .int .i64 0, .int .i64 0, .int .i64 0, .int .i64 0, .int .i64 0, .int .i64 0, .int .i64 0] 79)) := ((Below.refl _ _).alloc (Nat.le_refl _) _).alloc (by simp) _
  have hxs' := Lib.hid hxs
  obtain ⟨w2, hw2⟩ : ∃ w2, w2 = ((w.alloc (.cells #[.int .i64 a0, .int .i64 a1, .int .i64 a2, .int .i64 a3, .int .i64 a4, .int .i64 a5, .int .i64 a6, .int .i64 a7] 79)).alloc (.cells #[.int .i64 0, .int .i64 0, .int .i64 0, .int .i64 0, .int .i64 0, .int .i64 0, .int .i64 0, .int .i64 0] 79)) := ⟨_, rfl⟩
  rw [← hw2] at hA hR hB ⊢
  obtain ⟨g, hg⟩ : ∃ g, g = w.heap.size := ⟨_, rfl⟩
  have hgw := Lib.hid (show w.heap.size ≤ g by omega)
  rw [← hg] at hA hR ⊢
  have hA' := Lib.hid hA
  have hR' := Lib.hid hR
  have hB' := Lib.hid (show Below w.heap.size w w2 from hB)
  clear hw2 hg hA hR hB hxs
  go_loopw [1, 6] (fun cv iv wr => ∃ k : Nat, k ≤ 8 ∧ iv = .int .i64 k ∧ cv = .int .i64 (afterF xs c k).2 ∧ Hid (Arr wr g (afterF xs c k).1) ∧ Hid (wr.heap[g + 1]? = some (.cells #[.int .i64 0, .int .i64 0, .int .i64 0, .int .i64 0, .int .i64 0, .int .i64 0, .int .i64 0, .int .i64 0] 79 (0, 0))) ∧ Hid (Below w.heap.size w wr)) (fun _ iv _ => 8 - (intOf iv).toNat)
  case atStart => exact ⟨0, by omega, rfl, rfl, hA', hR', hB'⟩
  case round =>
    obtain ⟨k, hk, rfl, rfl, hA, hR, hB⟩ := hrel
    by_cases hk8 : k < 8
    · have ck := hA.out.2.2.1 k hk8
      have fk := hA.out.2.2.2 k
      have hA2 := Lib.hid (hA.out.set k (max ((afterF xs c k).1.getD k 0) (afterF xs c k).2))
      have hR2 := Lib.hid ((heap_setCell_other wr ⟨g, k, none⟩ (g + 1) (.int .i64 (max ((afterF xs c k).1.getD k 0) (afterF xs c k).2)) (by simp)).trans hR.out)
      have hB2 := Lib.hid (below_set (k := k) (u := .int .i64 (max ((afterF xs c k).1.getD k 0) (afterF xs c k).2)) hB.out hgw.out)
      have hnx := Lib.hid (show (afterF xs c k).1.set k (max ((afterF xs c k).1.getD k 0) (afterF xs c k).2) = (afterF xs c (k + 1)).1 from rfl)
      have hny := Lib.hid (show min ((afterF xs c k).1.getD k 0) (afterF xs c k).2 = (afterF xs c (k + 1)).2 from rfl)
      rw [hnx.out] at hA2
      obtain ⟨z, hz⟩ : ∃ z, z = (afterF xs c k).1.getD k 0 := ⟨_, rfl⟩
      obtain ⟨d, hd⟩ : ∃ z, z = (afterF xs c k).2 := ⟨_, rfl⟩
      rw [← hz] at ck hA2 hR2 hB2 hny
      rw [← hd] at hA2 hR2 hB2 hny ⊢
      clear hz hd hnx hA hR hB
      go_wp2_with fail
      go_region_law fail
      all_goals
        have hA3 := Lib.hid (hA2.out.below (Below.refl _ _).drew)
        have hR3 := Lib.hid ((congrArg (·[g + 1]?) (heap_drew _)).trans hR2.out)
        have hB3 := Lib.hid (hB2.out.drew)
        clear hA2 hR2 hB2
        go_wp2_with fail
        go_roundw
        case rel => exact ⟨k + 1, by omega, by go_num, by rw [← hny.out], hA3, hR3, hB3⟩
        case measure => simp [intOf]; omega
    · obtain rfl : k = 8 := by omega
      obtain ⟨c0, c1, c2, c3, c4, c5, c6, c7, hys⟩ := eight hA.out.1
      have hcs := hA.out.2.2.1
      rw [hys] at hcs
      have l0 := hcs 0 (by omega)
      have l1 := hcs 1 (by omega)
      have l2 := hcs 2 (by omega)
      have l3 := hcs 3 (by omega)
      have l4 := hcs 4 (by omega)
      have l5 := hcs 5 (by omega)
      have l6 := hcs 6 (by omega)
      have l7 := hcs 7 (by omega)
      simp at l0 l1 l2 l3 l4 l5 l6 l7
      have m0 := cell_of_row _ _ 0 _ _ _ hR.out
      have m1 := cell_of_row _ _ 1 _ _ _ hR.out
      have m2 := cell_of_row _ _ 2 _ _ _ hR.out
      have m3 := cell_of_row _ _ 3 _ _ _ hR.out
      have m4 := cell_of_row _ _ 4 _ _ _ hR.out
      have m5 := cell_of_row _ _ 5 _ _ _ hR.out
      have m6 := cell_of_row _ _ 6 _ _ _ hR.out
      have m7 := cell_of_row _ _ 7 _ _ _ hR.out
      simp at m0 m1 m2 m3 m4 m5 m6 m7
      have f0 := frozen_of_row _ _ 0 _ _ hR.out
      have f1 := frozen_of_row _ _ 1 _ _ hR.out
      have f2 := frozen_of_row _ _ 2 _ _ hR.out
      have f3 := frozen_of_row _ _ 3 _ _ hR.out
      have f4 := frozen_of_row _ _ 4 _ _ hR.out
      have f5 := frozen_of_row _ _ 5 _ _ hR.out
      have f6 := frozen_of_row _ _ 6 _ _ hR.out
      have f7 := frozen_of_row _ _ 7 _ _ hR.out
      have hR8 := Lib.hid (stored8 (c0 := .int .i64 c0) (c1 := .int .i64 c1) (c2 := .int .i64 c2) (c3 := .int .i64 c3) (c4 := .int .i64 c4) (c5 := .int .i64 c5) (c6 := .int .i64 c6) (c7 := .int .i64 c7) hR.out)
      have hw' := Lib.hid (show withF xs c = [c0, c1, c2, c3, c4, c5, c6, c7] from hys)
      clear hcs hA hR hys
      go_wp2_with fail
      refine bodyPost_ret (results_cell_row (p := 4) (ty := 79) rfl _ _ (g + 1) 79 _ (0, 0) _ rfl hR8.out Try.underlying79 rfl rfl) rfl ?_
      rw [← hxs'.out, hw'.out]
      refine ⟨rfl, ?_⟩
      iterate 8 refine below_set ?_ (Nat.le_succ_of_le hgw.out)
      exact hB.out
end Go.Proofs.Ytfobdlllghpelaa
