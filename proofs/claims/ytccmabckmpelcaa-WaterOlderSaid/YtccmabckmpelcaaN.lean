import Derived.Test.YtccmabckmpelcaaM
namespace Go.Proofs.Ytccmabckmpelcaa
open Go.RowKit

def sameL (a b : List Int) : Bool := a == b
theorem sameL_len {a b : List Int} (h : a.length ≠ b.length) : false = sameL a b := by
  unfold sameL; symm; rw [beq_eq_false_iff_ne]; intro e; exact h (by rw [e])
theorem sameL_at {a b : List Int} (k : Nat) (h : (a.getD k 0) ≠ b.getD k 0) : false = sameL a b := by
  unfold sameL; symm; rw [beq_eq_false_iff_ne]; intro e; exact h (by rw [e])
theorem sameL_all {a b : List Int} (h : a.length = b.length) (k : Nat) (hk : a.length ≤ k) (hj : ∀ j, j < k → a.getD j 0 = b.getD j 0) : true = sameL a b := by
  unfold sameL; symm; rw [beq_iff_eq]
  refine List.ext_getElem h fun i h1 h2 => ?_
  have := hj i (by omega)
  simpa [List.getD_eq_getElem?_getD, h1, h2] using this
theorem sameL_self (a : List Int) : sameL a a = true := by simp [sameL]

set_option maxRecDepth 100000 in
theorem same24 {w : World} {u v : Value} {xs ys : List Int} (hu : Reads w u xs) (hv : Reads w v ys) (hl : xs.length ≤ 1000000) :
    Calls Try.prog 24 #[u, v] w fun e w' => e = .returned (.bool (sameL xs ys)) ∧ Below w.heap.size w w' := by
  obtain ⟨ao, c, rfl, _, h1⟩ := hu
  obtain ⟨bo, d, rfl, _, h2⟩ := hv
  obtain ⟨n, hn⟩ : ∃ n, n = xs.length := ⟨_, rfl⟩
  obtain ⟨m, hm⟩ : ∃ n, n = ys.length := ⟨_, rfl⟩
  rw [← hn] at hl ⊢
  rw [← hm]
  by_cases hnm : n = m
  · subst hnm
    have hn' := Lib.hid hn
    have hm' := Lib.hid hm
    have h1' := Lib.hid h1
    have h2' := Lib.hid h2
    clear hn hm h1 h2
    go_enter Try.func24, Try.ntmps24
    go_wp2
    go_loopw [5] (fun i wr => ∃ k : Nat, k ≤ n ∧ i = .int .i64 k ∧ Hid (∀ j, j < k → xs.getD j 0 = ys.getD j 0) ∧ Below w.heap.size w wr) (fun i _ => n - (intOf i).toNat)
    case atStart => exact ⟨0, Nat.zero_le _, rfl, Lib.hid (fun j hj => by omega), Below.refl _ _⟩
    case round =>
      obtain ⟨k, hk, rfl, hj, hb⟩ := hrel
      by_cases hlt : k < n
      · have e1 := hn'.out
        have e2 := hm'.out
        obtain ⟨g, o, rfl, hg, hc1⟩ := h1'.out (fun e => by rw [e] at e1; simp at e1; omega)
        obtain ⟨f, p, rfl, hf, hc2⟩ := h2'.out (fun e => by rw [e] at e2; simp at e2; omega)
        have c1 : wr.cell? ⟨g, o + k, none⟩ = some (.int .i64 (xs.getD k 0)) := (hb.cell hg).trans (hc1 k (by omega))
        have c2 : wr.cell? ⟨f, p + k, none⟩ = some (.int .i64 (ys.getD k 0)) := (hb.cell hf).trans (hc2 k (by omega))
        clear hc1 hc2 e1 e2
        obtain ⟨x, hx⟩ : ∃ x, x = xs.getD k 0 := ⟨_, rfl⟩
        obtain ⟨y, hy⟩ : ∃ x, x = ys.getD k 0 := ⟨_, rfl⟩
        rw [← hx] at c1
        rw [← hy] at c2
        have hx' := Lib.hid hx
        have hy' := Lib.hid hy
        clear hx hy
        by_cases hxy : x = y
        · have hxy' := Lib.hid hxy
          have ht : (x != y) = false := by simp [hxy]
          clear hxy
          go_wp2
          go_quiet (fail)
          go_wp2
          go_roundw
          case rel => exact ⟨k + 1, by omega, by go_num, Lib.hid (fun j hjk => by
            by_cases e : j = k
            · rw [e, ← hx'.out, ← hy'.out]; exact hxy'.out
            · exact hj.out j (by omega)), below_drewN hb _⟩
          case measure => simp [intOf]; omega
        · have hxy' := Lib.hid hxy
          have ht : (x != y) = true := by simp [hxy]
          clear hxy
          go_wp2
          go_quiet (fail)
          go_wp2
          go_ret
          exact ⟨ret_b (sameL_at k (by rw [← hx'.out, ← hy'.out]; exact hxy'.out)), below_drewN hb _⟩
      · go_wp2
        go_ret
        exact ⟨ret_b (sameL_all (by rw [← hn'.out, ← hm'.out]) k (by rw [← hn'.out]; omega) hj.out), hb⟩
  · have ht : ((n : Int) != (m : Int)) = true := by simp; omega
    have hz : false = sameL xs ys := sameL_len (by omega)
    have hz' := Lib.hid hz
    clear hz h1 h2 hn hm
    have hnm' := Lib.hid hnm
    clear hnm
    go_enter Try.func24, Try.ntmps24
    go_wp2
    go_ret
    exact ⟨ret_b hz'.out, Below.refl _ _⟩

theorem lit2 (w : World) (a b : Int) : Reads (w.alloc (.cells #[.int .i64 a, .int .i64 b] 3)) (.slice (some ⟨w.heap.size, 0, none⟩) 2 2) [a, b] := by
  refine ⟨_, 2, rfl, by simp, fun _ => ⟨w.heap.size, 0, rfl, by simp, fun j hj => ?_⟩⟩
  rw [World.cell?_alloc_at (hn := rfl)]
  simp at hj
  rcases (show j = 0 ∨ j = 1 by omega) with rfl | rfl <;> rfl

theorem below_alloc1 (w : World) (o : Obj) : Below w.heap.size w (w.alloc o) := (Below.refl _ _).alloc (Nat.le_refl _) _

theorem lit4 (w : World) (f0 f1 a b c d : Int) :
    Riv ((((w.alloc (.cells #[.int .i64 f0, .int .i64 f1] 3)).alloc (.cells #[.int .i64 a, .int .i64 b] 3)).alloc (.cells #[.int .i64 c, .int .i64 d] 3)).alloc (.cells #[.slice (some ⟨w.heap.size + 1, 0, none⟩) 2 2, .slice (some ⟨w.heap.size + 1 + 1, 0, none⟩) 2 2] 22))
      (.slice (some ⟨w.heap.size, 0, none⟩) 2 2) (.slice (some ⟨w.heap.size + 1 + 1 + 1, 0, none⟩) 2 2) [f0, f1] [[a, b], [c, d]] := by
  have s1 : (w.alloc (.cells #[.int .i64 f0, .int .i64 f1] 3)).heap.size = w.heap.size + 1 := by simp
  have s2 : ((w.alloc (.cells #[.int .i64 f0, .int .i64 f1] 3)).alloc (.cells #[.int .i64 a, .int .i64 b] 3)).heap.size = w.heap.size + 1 + 1 := by simp
  have s3 : (((w.alloc (.cells #[.int .i64 f0, .int .i64 f1] 3)).alloc (.cells #[.int .i64 a, .int .i64 b] 3)).alloc (.cells #[.int .i64 c, .int .i64 d] 3)).heap.size = w.heap.size + 1 + 1 + 1 := by simp
  refine ⟨?_, ?_, by simp, by simp, fun j hj => ?_⟩
  · exact (((lit2 w f0 f1).below (below_alloc1 _ _)).below (below_alloc1 _ _)).below (below_alloc1 _ _)
  · refine ⟨_, 2, rfl, by simp, fun _ => ⟨_, 0, rfl, by simp, fun j hj => ?_⟩⟩
    simp at hj
    have r1 := ((lit2 (w.alloc (.cells #[.int .i64 f0, .int .i64 f1] 3)) a b).below (below_alloc1 _ (.cells #[.int .i64 c, .int .i64 d] 3))).below (below_alloc1 _ (.cells #[.slice (some ⟨w.heap.size + 1, 0, none⟩) 2 2, .slice (some ⟨w.heap.size + 1 + 1, 0, none⟩) 2 2] 22))
    have r2 := (lit2 ((w.alloc (.cells #[.int .i64 f0, .int .i64 f1] 3)).alloc (.cells #[.int .i64 a, .int .i64 b] 3)) c d).below (below_alloc1 _ (.cells #[.slice (some ⟨w.heap.size + 1, 0, none⟩) 2 2, .slice (some ⟨w.heap.size + 1 + 1, 0, none⟩) 2 2] 22))
    rw [s1] at r1
    rw [s2] at r2
    rw [World.cell?_alloc_at (hn := s3.symm)]
    rcases (show j = 0 ∨ j = 1 by omega) with rfl | rfl
    · exact ⟨_, rfl, r1⟩
    · exact ⟨_, rfl, r2⟩
  · simp at hj
    rcases (show j = 0 ∨ j = 1 by omega) with rfl | rfl <;> simp

theorem ev1 : rivB [2, 0] [[5, 1], [4, 3]] = true := by decide +kernel
theorem ev2 : bestU [2, 0] [[5, 1], [4, 3]] = [1, 1] := by decide +kernel
theorem ev3 : bestW [2, 0] [[5, 1], [4, 3]] = 9 := by decide +kernel
theorem ev4 : sharesK [2, 0] [[5, 1], [4, 3]] 2 = [6, 3] := by decide +kernel
theorem ev5 : rightsB [3, 1] [3, 3] [1, 0] = true := by decide +kernel
theorem ev6 : served [3, 1] [3, 3] [1, 0] 2 = [1, 3] := by decide +kernel

set_option maxHeartbeats 2000000 in
set_option maxRecDepth 100000 in
theorem lives20 (w : World) : Calls Try.prog 20 #[] w fun e w' => e = .returned (.bool true) ∧ Below w.heap.size w w' := by
  go_enter Try.func20, Try.ntmps20
  go_wp2_with fail
  refine (best22 (lit4 w 2 0 5 1 4 3) ev1).mono ?_
  rw [ev2, ev3]
  rintro e w1 ⟨x, rfl, hx, hb1⟩
  have hb1' := below_call (below_call (below_call (below_call (below_alloc1 w _) (below_alloc1 _ _)) (below_alloc1 _ _)) (below_alloc1 _ _)) hb1
  have hx' := Lib.hid hx
  obtain ⟨xa, xc, rfl, _, _⟩ := hx
  clear hb1
  go_wp2_with fail
  refine (shares30 (lit4 w1 2 0 5 1 4 3) ev1).mono ?_
  rintro e w2 ⟨y, rfl, hy, hb2⟩
  have hy0 := hy.shape
  rw [show ([2, 0] : List Int).length = 2 from rfl, ev4] at hy0
  have hb2' := below_call (below_call (below_call (below_call (below_alloc1 w1 _) (below_alloc1 _ _)) (below_alloc1 _ _)) (below_alloc1 _ _)) hb2
  have hy' := Lib.hid hy0
  obtain ⟨ya, yc, rfl, _, _⟩ := hy0
  clear hb2 hy
  go_wp2_with fail
  have hb3 := below_call (below_call (below_alloc1 w2 (.cells #[.int .i64 3, .int .i64 1] 3)) (below_alloc1 _ (.cells #[.int .i64 3, .int .i64 3] 3))) (below_alloc1 _ (.cells #[.int .i64 1, .int .i64 0] 3))
  have r3 := (lit2 ((w2.alloc (.cells #[.int .i64 3, .int .i64 1] 3)).alloc (.cells #[.int .i64 3, .int .i64 3] 3)) 1 0)
  have r2 := (lit2 (w2.alloc (.cells #[.int .i64 3, .int .i64 1] 3)) 3 3).below (below_alloc1 _ (.cells #[.int .i64 1, .int .i64 0] 3))
  have r1 := ((lit2 w2 3 1).below (below_alloc1 _ (.cells #[.int .i64 3, .int .i64 3] 3))).below (below_alloc1 _ (.cells #[.int .i64 1, .int .i64 0] 3))
  simp only [World.size_alloc] at r1 r2 r3
  refine (calls34 r1 r2 r3 ev5).mono ?_
  rintro e w3 ⟨z, rfl, hz, hb4⟩
  rw [show ([3, 1] : List Int).length = 2 from rfl, ev6] at hz
  have hz' := Lib.hid hz
  obtain ⟨za, zc, rfl, _, _⟩ := hz
  have hb34 := below_call hb3 hb4
  clear r1 r2 r3 hb3 hb4
  go_wp2_with fail
  have hxx := ((((hx'.out.below hb2').below hb34).below (below_alloc1 w3 (.cells #[.int .i64 1, .int .i64 1] 3))))
  refine (same24 hxx (lit2 w3 1 1) (by simp)).mono ?_
  rw [sameL_self]
  rintro e w4 ⟨rfl, hb5⟩
  have hb5' := below_call (below_alloc1 w3 _) hb5
  clear hb5
  go_wp2_with fail
  have hyy := ((((hy'.out.below hb34).below hb5').below (below_alloc1 w4 (.cells #[.int .i64 6, .int .i64 3] 3))))
  refine (same24 hyy (lit2 w4 6 3) (by simp)).mono ?_
  rw [sameL_self]
  rintro e w5 ⟨rfl, hb6⟩
  have hb6' := below_call (below_alloc1 w4 _) hb6
  clear hb6
  go_wp2_with fail
  have hzz := ((((hz'.out.below hb5').below hb6').below (below_alloc1 w5 (.cells #[.int .i64 1, .int .i64 3] 3))))
  refine (same24 hzz (lit2 w5 1 3) (by simp)).mono ?_
  rw [sameL_self]
  rintro e w6 ⟨rfl, hb7⟩
  have hb7' := below_call (below_alloc1 w5 _) hb7
  clear hb7
  go_wp2_with fail
  go_ret
  exact ⟨rfl, below_call (below_call (below_call (below_call (below_call hb1' hb2') hb34) hb5') hb6') hb7'⟩
end Go.Proofs.Ytccmabckmpelcaa
