import Derived.Test.YtfobdlllghpelaaT
namespace Go.Proofs.Ytfobdlllghpelaa
open Go.RowKit Go.Shelf Pair
attribute [local go_sem] Oper.semAt_some

set_option maxHeartbeats 4000000 in
set_option maxRecDepth 100000 in
theorem cheapest28_bad {w : World} {v : Value} {cs : List (List Int)} (h : Cst w v cs) (hb : validC cs = false) :
    Calls Try.prog 28 #[v] w fun e w' => e = .returned (.tuple #[.slice none 0 0, .int .i64 0, .int .i64 1]) ∧ Below w.heap.size w w' := by
  have hv := Lib.hid (valid48' h)
  rw [hb] at hv
  clear h
  go_enter Try.func28, Try.ntmps28
  go_wp2_with fail
  refine (hv.out).mono ?_
  rintro e w1 ⟨rfl, rfl⟩
  go_wp2_with fail
  go_ret3
  exact ⟨rfl, Below.refl _ _⟩

def CheapEnd (w : World) (n : Nat) (x : List Nat) (v : Int) (e : Ending) (w' : World) : Prop := (∃ g, e = .returned (.tuple #[.slice (some ⟨g, 0, none⟩) n n, .int .i64 v, .int .i64 0]) ∧ Row w' w.heap.size g n (natI x)) ∧ Below w.heap.size w w'
set_option maxHeartbeats 4000000 in
set_option maxRecDepth 100000 in
theorem cheapest28 {w : World} {v : Value} {cs : List (List Int)} {n : Nat} (h : Cst w v cs) (hb : validC cs = true) (hg : Good cs n)
    (x : List Nat) (hx : srch (decO ltI (· + ·) 0 (costAt cs) n) (nxtO ltI (· + ·) 0 (costAt cs) n) n n (2 ^ n - 1) (2 ^ n - 1) = some x) :
    Calls Try.prog 28 #[v] w (CheapEnd w n x (optI cs n n (2 ^ n - 1))) := by
  have hv := Lib.hid (valid48' h)
  rw [hb] at hv
  have ho := Lib.hid (optimum59 (h.sq hg) hg.one hg.eight hg.bd x hx)
  obtain ⟨V, hV⟩ : ∃ V, V = optI cs n n (2 ^ n - 1) := ⟨_, rfl⟩
  rw [← hV] at ho ⊢
  clear h hg hx hV
  go_enter Try.func28, Try.ntmps28
  go_wp2_with fail
  refine (hv.out).mono ?_
  rintro e w1 ⟨rfl, rfl⟩
  go_wp2_with fail
  refine (ho.out).mono ?_
  rintro e w1 ⟨⟨g, rfl, hr⟩, hb1⟩
  have hr' := Lib.hid hr
  have hb1' := Lib.hid hb1
  clear hr hb1
  go_wp2_with fail
  go_ret3
  exact ⟨⟨g, rfl, hr'.out⟩, hb1'.out⟩

/-- Two rows that are written down. -/
def W22 (w : World) (a b c d : Int) : World :=
  ((w.alloc (.cells #[.int .i64 a, .int .i64 b] 3)).alloc (.cells #[.int .i64 c, .int .i64 d] 3)).alloc (.cells #[.slice (some ⟨w.heap.size, 0, none⟩) 2 2, .slice (some ⟨w.heap.size + 1, 0, none⟩) 2 2] 24)
theorem below22 (w : World) (a b c d : Int) : Below w.heap.size w (W22 w a b c d) := (((Below.refl _ _).alloc (Nat.le_refl _) _).alloc (by simp) _).alloc (by simp; omega) _
theorem size22 (w : World) (a b c d : Int) : (W22 w a b c d).heap.size = w.heap.size + 3 := by simp [W22]
theorem cst22 (w : World) (a b c d : Int) : Cst (W22 w a b c d) (.slice (some ⟨w.heap.size + 2, 0, none⟩) 2 2) [[a, b], [c, d]] := by
  have r0 := lit2 w a b
  have r1 := lit2 (w.alloc (.cells #[.int .i64 a, .int .i64 b] 3)) c d
  rw [World.size_alloc] at r1
  have r0' := (r0.below (below_alloc1 _ (.cells #[.int .i64 c, .int .i64 d] 3))).below (below_alloc1 _ (.cells #[.slice (some ⟨w.heap.size, 0, none⟩) 2 2, .slice (some ⟨w.heap.size + 1, 0, none⟩) 2 2] 24))
  have r1' := r1.below (below_alloc1 _ (.cells #[.slice (some ⟨w.heap.size, 0, none⟩) 2 2, .slice (some ⟨w.heap.size + 1, 0, none⟩) 2 2] 24))
  refine ⟨⟨_, 2, rfl, by simp, fun _ => ⟨w.heap.size + 2, 0, rfl, by simp [W22], fun j hj => ?_⟩⟩, by simp, fun j hj => ?_⟩
  · simp at hj
    rcases (show j = 0 ∨ j = 1 by omega) with rfl | rfl
    · exact ⟨_, by unfold W22; rw [World.cell?_alloc_at (hn := by simp)]; rfl, r0'⟩
    · exact ⟨_, by unfold W22; rw [World.cell?_alloc_at (hn := by simp)]; rfl, r1'⟩
  · simp at hj
    rcases (show j = 0 ∨ j = 1 by omega) with rfl | rfl <;> simp
theorem least_only {p : Nat → Bool} {N m k : Nat} (h : Least p N m) (hk : k < N) (h1 : p k = true) (h2 : ∀ i, i < k → p i = false) : m = k := by
  obtain ⟨a, b, c⟩ := h
  rcases Nat.lt_trichotomy m k with e | e | e
  · have := c (by omega); rw [h2 m e] at this; cases this
  · exact e
  · rw [b k e] at h1; cases h1

theorem livesW : ∀ i : Nat, i < 3 → decide (0 < waysM [[1, 2], [3, 5]] 0 (i : Int) 2) = false := by decide +kernel
set_option maxHeartbeats 4000000 in
set_option maxRecDepth 100000 in
theorem lives22 {w : World} : Calls Try.prog 22 #[] w fun e w' => e = .returned (.bool true) ∧ Below w.heap.size w w' := by
  have v1 : validC [[1, 2], [3, 5]] = true := by decide +kernel
  have v2 : validC [[1, 9], [1, 9]] = true := by decide +kernel
  have v3 : validC [[0, 0], [0, 0]] = true := by decide +kernel
  have g1 : Good [[1, 2], [3, 5]] 2 := good_of v1
  have g2 : Good [[1, 9], [1, 9]] 2 := good_of v2
  have g3 : Good [[0, 0], [0, 0]] 2 := good_of v3
  have k1 := Lib.hid (fun (w : World) (v : Value) (h : Cst w v [[1, 2], [3, 5]]) => worst19 h v1 g1)
  have k2 := Lib.hid (fun (w : World) (v : Value) (h : Cst w v [[1, 2], [3, 5]]) => cheapest28 h v1 g1 [1, 0] (by decide +kernel))
  have k3 := Lib.hid (fun (w : World) (v : Value) (h : Cst w v [[1, 9], [1, 9]]) => lacks30 h v2 g2 5)
  have k4 := Lib.hid (fun (w : World) (v : Value) (h : Cst w v [[0, 0], [0, 0]]) => at41 h v3 g3 0 1 (by omega))
  rw [show optI [[1, 2], [3, 5]] 2 2 (2 ^ 2 - 1) = 5 by decide +kernel] at k2
  rw [show lkM (alwL [[1, 9], [1, 9]] 0 5 2) (2 ^ 2) = some [0, 1] by decide +kernel] at k3
  rw [show atM [[0, 0], [0, 0]] 0 2 1 = some [1, 0] by decide +kernel] at k4
  clear v1 v2 v3 g1 g2 g3
  go_enter Try.func22, Try.ntmps22
  go_wp2_with fail
  have hc1 := Lib.hid (cst22 w 1 2 3 5)
  have hb1 := Lib.hid (below22 w 1 2 3 5)
  refine (k1.out _ _ hc1.out).mono ?_
  obtain ⟨w1, hw1⟩ : ∃ w1, w1 = W22 w 1 2 3 5 := ⟨_, rfl⟩
  change ∀ e w', WorstIs [[1, 2], [3, 5]] 2 (W22 w 1 2 3 5) e w' → _
  rw [← hw1] at hc1 hb1 ⊢
  rintro e w2 ⟨m, pv, rfl, hl, hf, hb2⟩
  obtain rfl : m = 3 := least_only hl (by omega) (by decide +kernel) livesW
  rw [show (sufs (okM [[1, 2], [3, 5]] 0 ((3 : Nat) : Int)) 2 2 (2 ^ 2 - 1))[0]? = some [1, 0] by decide +kernel] at hf
  obtain ⟨gx, hpv, hx⟩ := hf
  obtain rfl : pv = .slice (some ⟨gx, 0, none⟩) 2 2 := by injection hpv
  have hx1 := Lib.hid hx.reads
  have hc2 := Lib.hid (hc1.out.below hb2)
  have hb2' := Lib.hid (below_call hb1.out hb2)
  rw [show (((3 : Nat) : Nat) : Int) = 3 from rfl]
  clear hl hpv hx hc1 hb1 hb2 hw1
  go_wp2_with fail
  refine (k2.out _ _ hc2.out).mono ?_
  rintro e w3 ⟨⟨gy, rfl, hy⟩, hb3⟩
  have hy1 := Lib.hid hy.reads
  have hx2 := Lib.hid (hx1.out.below hb3)
  have hb3' := Lib.hid (below_call hb2'.out hb3)
  clear hy hb3 hx1 hb2' hc2
  go_wp2_with fail
  have hc3 := Lib.hid (cst22 w3 1 9 1 9)
  have hb4 := below22 w3 1 9 1 9
  have hx3 := Lib.hid (hx2.out.below hb4)
  have hy3 := Lib.hid (hy1.out.below hb4)
  have hb4' := Lib.hid (below_call hb3'.out hb4)
  refine (k3.out _ _ hc3.out).mono ?_
  obtain ⟨w4, hw4⟩ : ∃ w4, w4 = W22 w3 1 9 1 9 := ⟨_, rfl⟩
  change ∀ e w', LkEnd (W22 w3 1 9 1 9) _ e w' → _
  rw [← hw4] at hx3 hy3 hb4' ⊢
  rintro e w5 ⟨⟨vz, rfl, hz⟩, hb5⟩
  obtain ⟨gz, cz, rfl, hz1⟩ := list_val hz.1 (by simp)
  have hz1' := Lib.hid hz1
  have hx4 := Lib.hid (hx3.out.below hb5)
  have hy4 := Lib.hid (hy3.out.below hb5)
  have hb5' := Lib.hid (below_call hb4'.out hb5)
  rw [if_neg (by simp)]
  clear hz hz1 hb5 hb4' hx3 hy3 hw4 hc3 hb4 hb3' hx2 hy1
  go_wp2_with fail
  have hc5 := Lib.hid (cst22 w5 0 0 0 0)
  have hb6 := below22 w5 0 0 0 0
  have hx5 := Lib.hid (hx4.out.below hb6)
  have hy5 := Lib.hid (hy4.out.below hb6)
  have hz5 := Lib.hid (hz1'.out.below hb6)
  have hb6' := Lib.hid (below_call hb5'.out hb6)
  refine (k4.out _ _ hc5.out).mono ?_
  obtain ⟨w6, hw6⟩ : ∃ w6, w6 = W22 w5 0 0 0 0 := ⟨_, rfl⟩
  change ∀ e w', AtEnd (W22 w5 0 0 0 0) _ _ e w' → _
  rw [← hw6] at hx5 hy5 hz5 hb6' ⊢
  rintro e w7 ⟨⟨gu, rfl, hu⟩, hb7⟩
  have hu1 := Lib.hid hu.reads
  have hx6 := Lib.hid (hx5.out.below hb7)
  have hy6 := Lib.hid (hy5.out.below hb7)
  have hz6 := Lib.hid (hz5.out.below hb7)
  have hb7' := Lib.hid (below_call hb6'.out hb7)
  clear hu hb7 hb6' hx5 hy5 hz5 hw6 hc5 hb6 hb5' hx4 hy4 hz1'
  go_wp2_with fail
  refine (same25 (hx6.out.below (below_alloc1 _ _)) (lit2 w7 1 0) (by simp [natI])).mono ?_
  rw [show sameL (natI [1, 0]) [1, 0] = true by decide +kernel]
  rintro e w8 ⟨rfl, hb8⟩
  have hb8' := below_call (below_alloc1 w7 (.cells #[.int .i64 1, .int .i64 0] 3)) hb8
  have hy7 := Lib.hid (hy6.out.below hb8')
  have hz7 := Lib.hid (hz6.out.below hb8')
  have hu7 := Lib.hid (hu1.out.below hb8')
  have hbx := Lib.hid (below_call hb7'.out hb8')
  clear hb8 hb8' hb7' hx6 hy6 hz6 hu1
  go_wp2_with fail
  refine (same25 (hy7.out.below (below_alloc1 _ _)) (lit2 w8 1 0) (by simp [natI])).mono ?_
  rw [show sameL (natI [1, 0]) [1, 0] = true by decide +kernel]
  rintro e w9 ⟨rfl, hb9⟩
  have hb9' := below_call (below_alloc1 w8 (.cells #[.int .i64 1, .int .i64 0] 3)) hb9
  have hz8 := Lib.hid (hz7.out.below hb9')
  have hu8 := Lib.hid (hu7.out.below hb9')
  have hbx9 := Lib.hid (below_call hbx.out hb9')
  clear hb9 hb9' hbx hy7 hz7 hu7
  go_wp2_with fail
  refine (same25 (hz8.out.below (below_alloc1 _ _)) (lit2 w9 0 1) (by simp [natI])).mono ?_
  rw [show sameL (natI [0, 1]) [0, 1] = true by decide +kernel]
  rintro e w10 ⟨rfl, hb10⟩
  have hb10' := below_call (below_alloc1 w9 (.cells #[.int .i64 0, .int .i64 1] 3)) hb10
  have hu9 := Lib.hid (hu8.out.below hb10')
  have hbx10 := Lib.hid (below_call hbx9.out hb10')
  clear hb10 hb10' hbx9 hz8 hu8
  go_wp2_with fail
  refine (same25 (hu9.out.below (below_alloc1 _ _)) (lit2 w10 1 0) (by simp [natI])).mono ?_
  rw [show sameL (natI [1, 0]) [1, 0] = true by decide +kernel]
  rintro e w11 ⟨rfl, hb11⟩
  have hb11' := below_call (below_alloc1 w10 (.cells #[.int .i64 1, .int .i64 0] 3)) hb11
  have hbx11 := Lib.hid (below_call hbx10.out hb11')
  clear hb11 hb11' hbx10 hu9
  go_wp2_with fail
  go_ret
  exact ⟨rfl, hbx11.out⟩
end Go.Proofs.Ytfobdlllghpelaa
