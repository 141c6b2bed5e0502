import Derived.Test.YtjkbhdlbomcbeaaPe
import Derived.Test.YtjkbhdlbomcbeaaPk
import Derived.Test.YtjkbhdlbomcbeaaPi
import Derived.Test.YtjkbhdlbomcbeaaPj
import Derived.Test.YtjkbhdlbomcbeaaXi
import Derived.Test.YtjkbhdlbomcbeaaYa
import Derived.Test.YtjkbhdlbomcbeaaUt
import Derived.Test.YtjkbhdlbomcbeaaXk
namespace Go.Proofs.Ytjkbhdlbomcbeaa
open Go.RowKit Go.Shelf Shf

set_option maxHeartbeats 8000000 in
set_option maxRecDepth 100000 in
theorem energy52 {w : World} {ge i : Nat} {s : Sh} {v pv : Value} {ns : List Nd} {sn : Nat → Bool} (hs : Loose s) (hv : ShF w ge v s) (hp : NdF w ge pv ns) (hS : SnR w ge ns.length sn) (hi : i < ns.length) (hsn : sn i = false) (hk : (ns.getD i N0).k = 2) :
    Calls Try.prog 52 #[v, pv, .int .i64 i, .slice (some ⟨ge, 0, none⟩) ns.length ns.length] w (RpEnd w ge ns.length (enB s (ns.getD i N0), seeN sn i)) := by
  obtain ⟨ja, jc, oa, oc, rfl, rj, ro, fj, fo⟩ := hv
  obtain ⟨⟨pa, pc, rfl, hpc, hpat⟩, hpf⟩ := hp
  obtain ⟨n, hn⟩ : ∃ n, n = ns.length := ⟨_, rfl⟩
  obtain ⟨g, rfl, hg, n0, n1, n2, n3, n4, n5⟩ := hpat i hi
  have hgg : g ≠ ge := hpf g _ _ rfl
  obtain ⟨nj, hnj⟩ : ∃ nj, nj = s.js.length := ⟨_, rfl⟩
  obtain ⟨m, hm⟩ : ∃ m, m = (osI s).length := ⟨_, rfl⟩
  have hgew := hS.hgw
  have hb1 := below_alloc1 w (.cells #[.int .i64 s.P, .slice ja s.js.length jc, .slice oa (osI s).length oc] 25)
  have hS1 := hS.below hb1
  have s0 := hS1.seen i hi
  have f0 := hS1.fg i
  rw [hsn] at s0
  obtain ⟨⟨k, j, a, b, l, r⟩, hx⟩ : ∃ x, x = ns.getD i N0 := ⟨_, rfl⟩
  rw [← hx] at hk n0 n1 n2 n3 n4 n5
  try rw [← hx]
  simp only at hk n0 n1 n2 n3 n4 n5
  obtain ⟨W2, hW2⟩ : ∃ W2, W2 = (w.setCell ⟨ge, i, none⟩ (.bool true)).alloc (.cells #[.int .i64 s.P, .slice ja s.js.length jc, .slice oa (osI s).length oc] 25) := ⟨_, rfl⟩
  have hK2 : Kq ge w W2 := by rw [hW2]; exact (Kq.set ge i _ _).trans (Kq.of_below (below_alloc1 _ _))
  have hs2 : W2.heap.size = w.heap.size + 1 := by rw [hW2, World.size_alloc, World.size_setCell]
  have y0 := (hK2.cell hg hgg).trans n0
  have y1 := (hK2.cell hg hgg).trans n1
  have y2 := (hK2.cell hg hgg).trans n2
  have y3 := (hK2.cell hg hgg).trans n3
  have y4 := (hK2.cell hg hgg).trans n4
  have y5 := (hK2.cell hg hgg).trans n5
  have hS2 : SnR W2 ge ns.length (seeN sn i) := by rw [hW2]; exact (hS.see hi).below (below_alloc1 _ _)
  have z0 : W2.cell? ⟨w.heap.size, 0, none⟩ = some (.int .i64 s.P) := by rw [hW2, World.cell?_alloc_at (hn := by rw [World.size_setCell])]; rfl
  have z1 : W2.cell? ⟨w.heap.size, 1, none⟩ = some (.slice ja s.js.length jc) := by rw [hW2, World.cell?_alloc_at (hn := by rw [World.size_setCell])]; rfl
  have z2 : W2.cell? ⟨w.heap.size, 2, none⟩ = some (.slice oa (osI s).length oc) := by rw [hW2, World.cell?_alloc_at (hn := by rw [World.size_setCell])]; rfl
  obtain ⟨W, hW⟩ : ∃ W, W = W2.alloc (.cells #[.int .i64 k, .int .i64 j, .int .i64 a, .int .i64 b, .int .i64 l, .int .i64 r] 72) := ⟨_, rfl⟩
  have hbW : Below W2.heap.size W2 W := by rw [hW]; exact below_alloc1 _ _
  obtain ⟨m0, m1, m2, m3, m4, m5⟩ : W.cell? ⟨w.heap.size + 1, 0, none⟩ = some (.int .i64 k) ∧ W.cell? ⟨w.heap.size + 1, 1, none⟩ = some (.int .i64 j) ∧ W.cell? ⟨w.heap.size + 1, 2, none⟩ = some (.int .i64 a) ∧ W.cell? ⟨w.heap.size + 1, 3, none⟩ = some (.int .i64 b) ∧ W.cell? ⟨w.heap.size + 1, 4, none⟩ = some (.int .i64 l) ∧ W.cell? ⟨w.heap.size + 1, 5, none⟩ = some (.int .i64 r) := by
    rw [hW, ← hs2]; exact nd_new W2 _ _ _ _ _ _
  have u0 := (hbW.cell (p := ⟨w.heap.size, 0, none⟩) (by rw [hs2]; simp)).trans z0
  have u1 := (hbW.cell (p := ⟨w.heap.size, 1, none⟩) (by rw [hs2]; simp)).trans z1
  have u2 := (hbW.cell (p := ⟨w.heap.size, 2, none⟩) (by rw [hs2]; simp)).trans z2
  have hKW := hK2.trans (Kq.of_below hbW)
  have hSW := hS2.below hbW
  have hWs : W.heap.size = w.heap.size + 2 := by rw [hW]; simp [hs2]
  have hShW := Lib.hid (show ShV W (.agg #[.int .i64 s.P, .slice ja s.js.length jc, .slice oa (osI s).length oc]) s.P s.js (osI s) from ⟨_, _, rfl, rj.kp fj hKW, ro.kp fo hKW⟩)
  have hEnd := Lib.hid (fun (W' : World) (hb : Below W.heap.size W W') (d : Bool) => (show RpEnd w ge ns.length (d, seeN sn i) (.returned (.bool d)) W' from ⟨rfl, hSW.below hb, hKW.trans (Kq.of_below hb)⟩))
  have hin' : (i : Int) < (n : Int) := by omega
  have hge2 : ¬ (w.heap.size = ge) := by omega
  subst hk
  have hE : ∃ d, d = enB s ⟨2, j, a, b, l, r⟩ := ⟨_, rfl⟩
  obtain ⟨d, hd⟩ := hE
  rw [← hd]
  have hd' := Lib.hid hd
  have hnd := Lib.hid (fun (W' : World) (hb : Below W.heap.size W W') (h1 : 0 ≤ a ∧ a ≤ 24) (h2 : 0 ≤ b ∧ b ≤ 24) (h3 : a ≤ b) => refNeeds29 (hShW.out.below hb) (Nat.le_succ_of_le hs.num.2) (job_in hs) h1 h2 h3)
  have hpw := hs.power
  have hns := Lib.hid (fun (h3 : a ≤ b) => needS_in (job_in hs) h3 (n := s.js.length) (Nat.le_refl _))
  have h7 : s.js.length ≤ 7 := Nat.le_succ_of_le hs.num.2
  have hov := Lib.hid (show ovB s.P s.js a b = decide (s.P * (b - a) < needS s.js a b s.js.length) from rfl)
  obtain ⟨z, hz⟩ : ∃ z, z = needS s.js a b s.js.length := ⟨_, rfl⟩
  have hnd := Lib.hid (fun (W' : World) (hb : Below W.heap.size W W') (h1 : 0 ≤ a ∧ a ≤ 24) (h2 : 0 ≤ b ∧ b ≤ 24) (h3 : a ≤ b) => (hnd.out W' hb h1 h2 h3).mono (R' := fun e w' => e = .returned (.int .i64 z) ∧ Below W'.heap.size W' w') (fun e w' he => by rw [hz]; exact he))
  rw [← hz] at hov hns
  have hB0 := Lib.hid (show w.heap.size < W.heap.size by omega)
  have hB1 := Lib.hid (show w.heap.size + 1 < W.heap.size by omega)
  rw [← hnj, ← hm] at s0 f0 hW2 hShW
  rw [← hnj] at u1
  rw [← hm] at u2
  rw [← hn] at hEnd hi
  rw [← hnj, ← hm, ← hn]
  clear hpat hn hS hS1 hb1 n0 n1 n2 n3 n4 n5 z0 z1 z2 hpf hx hS2 hKW hSW hK2 hbW
  rw [← hnj] at hns h7
  rw [← hnj, ← hm] at hnd
  clear rj ro fj fo hs hnj hm hd hShW hz
  go_enter Try.func52, Try.ntmps52
  go_upto_region 4 with fail
  rw [← hW2]
  clear hW2 s0 f0
  go_upto_region 5 with fail
  rw [← hW]
  clear hW y0 y1 y2 y3 y4 y5
  clear hge2 hin' hi hsn hgew hg hgg hpc hs2 hWs
  by_cases q1 : j ≠ 0
  · have e1 : (j == 0) = false := by simpa using q1
    have hdf := Lib.hid (show d = false by rw [hd'.out, enB]; simp only [e1, Bool.false_and])
    clear hd' hnd hns hov h7 hpw
    as_aux_lemma =>
    go_wp2_with fail
    go_quiet (fail)
    go_wp2_with fail
    go_ret
    rw [hdf.out]
    exact hEnd.out _ (below_drewN (Below.refl _ _) _) false
  have q1 := Decidable.not_not.1 q1
  subst q1
  by_cases q2 : l ≠ 0
  · have e1 : (l == 0) = false := by simpa using q2
    have hdf := Lib.hid (show d = false by rw [hd'.out, enB]; simp only [e1, Bool.false_and, Bool.and_false])
    clear hd' hnd hns hov h7 hpw
    as_aux_lemma =>
    go_wp2_with fail
    go_quiet (fail)
    go_wp2_with fail
    go_ret
    rw [hdf.out]
    exact hEnd.out _ (below_drewN (Below.refl _ _) _) false
  have q2 := Decidable.not_not.1 q2
  subst q2
  by_cases q3 : r ≠ 0
  · have e1 : (r == 0) = false := by simpa using q3
    have hdf := Lib.hid (show d = false by rw [hd'.out, enB]; simp only [e1, Bool.false_and, Bool.and_false])
    clear hd' hnd hns hov h7 hpw
    as_aux_lemma =>
    go_wp2_with fail
    go_quiet (fail)
    go_wp2_with fail
    go_ret
    rw [hdf.out]
    exact hEnd.out _ (below_drewN (Below.refl _ _) _) false
  have q3 := Decidable.not_not.1 q3
  subst q3
  by_cases q4 : 0 ≤ a ∧ a ≤ 23
  · obtain ⟨a0, a1⟩ := q4
    have hI1 := Lib.hid (fun (W' : World) => (in41 (w := W') a 0 23).mono (R' := fun e w' => e = .returned (.bool true) ∧ W' = w') (fun e w' he => by rw [show (decide (0 ≤ a) && decide (a ≤ 23)) = true from by simp [a0, a1]] at he; exact he))
    by_cases q5 : a + 1 ≤ b ∧ b ≤ 24
    · obtain ⟨b0, b1⟩ := q5
      have hI2 := Lib.hid (fun (W' : World) => (in41 (w := W') b (a + 1) 24).mono (R' := fun e w' => e = .returned (.bool true) ∧ W' = w') (fun e w' he => by rw [show (decide (a + 1 ≤ b) && decide (b ≤ 24)) = true from by simp [b0, b1]] at he; exact he))
      have hib : intB a b = true := intB_iff.2 ⟨a0, by omega, b1⟩
      have hdf := Lib.hid (show d = decide (s.P * (b - a) < z) by rw [hd'.out, enB, hib, hov.out]; rfl)
      have hns' := hns.out (by omega)
      have hcn := Lib.hid (hnd.out W.drew (Below.refl _ _).drew (by omega) (by omega) (by omega))
      clear hd' hnd hns hov hib
      obtain ⟨y, hy⟩ : ∃ y, y = s.P * (b - a) := ⟨_, rfl⟩
      have hyb : 0 ≤ y ∧ y ≤ 480 := by
        have h1 := Int.mul_nonneg (show 0 ≤ s.P by omega) (show 0 ≤ b - a by omega)
        have h2 := Int.mul_le_mul (show s.P ≤ 20 by omega) (show b - a ≤ 24 by omega) (by omega) (by omega)
        rw [hy]; omega
      have sw1 := Lib.hid (show IntKind.i64.wrap (b - a) = b - a from IntWalk.i64_in _ (by omega))
      have sw2 := Lib.hid (show IntKind.i64.wrap (s.P * (b - a)) = s.P * (b - a) from IntWalk.i64_in _ (by rw [← hy]; omega))
      have sw3 := Lib.hid (show IntKind.i64.wrap (a + 1) = a + 1 from IntWalk.i64_in _ (by omega))
      clear hy hyb hns' h7 hpw
      as_aux_lemma =>
      go_upto_region 7 with fail
      refine wp_region_noPanic ?_
      refine wp_region_any (by kernel_rfl) (wpAny_of_held (S := fun w' => Below W.heap.size W w') _ _ _ _ ?_)
      have hHeld : Below W.heap.size W W.drew := (Below.refl _ _).drew
      change wpAnyH _ _ _ _ _ _ _ _ W.drew
      simp only [List.size_toArray, List.length_cons, List.length_nil, Nat.reduceAdd, Array.replicate_succ, Array.replicate_zero, List.push_toArray, List.nil_append, List.cons_append]
      refine wpAnyH_take (i := 0) (v := .pointer (some ⟨w.heap.size + 1, 1, none⟩)) rfl (by as_aux_lemma => kernel_rfl) (by as_aux_lemma => kernel_rfl) (by as_aux_lemma => kernel_rfl) (fun _ _ _ h => h) (Or.inl ⟨by rfl, ?_⟩) hHeld ?_
      · intro w' hSw; go_simp
      simp only [Act.put, List.setIfInBounds_toArray, List.set_cons_zero, List.set_cons_succ, List.getElem_toArray, List.getElem_cons_zero]
      refine wpAnyH_take (i := 1) (v := .int .i64 0) rfl (by as_aux_lemma => kernel_rfl) (by as_aux_lemma => kernel_rfl) (by as_aux_lemma => kernel_rfl) (fun _ _ _ h => h) (Or.inl ⟨by rfl, ?_⟩) hHeld ?_
      · intro w' hSw; have a1 := (hSw.cell (p := ⟨w.heap.size + 1, 1, none⟩) hB1.out).trans m1; go_simp
      simp only [Act.put, List.setIfInBounds_toArray, List.set_cons_zero, List.set_cons_succ, List.getElem_toArray, List.getElem_cons_succ, List.getElem_cons_zero]
      refine wpAnyH_take (i := 2) (v := .bool true) rfl (by as_aux_lemma => kernel_rfl) (by as_aux_lemma => kernel_rfl) (by as_aux_lemma => kernel_rfl) (fun _ _ _ h => h) (Or.inl ⟨by rfl, ?_⟩) hHeld ?_
      · intro w' hSw; go_simp
      simp only [Act.put, List.setIfInBounds_toArray, List.set_cons_zero, List.set_cons_succ, List.getElem_toArray, List.getElem_cons_succ, List.getElem_cons_zero]
      refine wpAnyH_take (i := 3) (v := .bool true) rfl (by as_aux_lemma => kernel_rfl) (by as_aux_lemma => kernel_rfl) (by as_aux_lemma => kernel_rfl) (fun _ _ _ h => h) (Or.inl ⟨by rfl, ?_⟩) hHeld ?_
      · intro w' hSw; go_simp
      simp only [Act.put, List.setIfInBounds_toArray, List.set_cons_zero, List.set_cons_succ, List.getElem_toArray, List.getElem_cons_succ, List.getElem_cons_zero]
      refine wpAnyH_take (i := 4) (v := .pointer (some ⟨w.heap.size + 1, 4, none⟩)) rfl (by as_aux_lemma => kernel_rfl) (by as_aux_lemma => kernel_rfl) (by as_aux_lemma => kernel_rfl) (fun _ _ _ h => h) (Or.inl ⟨by rfl, ?_⟩) hHeld ?_
      · intro w' hSw; go_simp
      simp only [Act.put, List.setIfInBounds_toArray, List.set_cons_zero, List.set_cons_succ, List.getElem_toArray, List.getElem_cons_succ, List.getElem_cons_zero]
      refine wpAnyH_take (i := 5) (v := .int .i64 0) rfl (by as_aux_lemma => kernel_rfl) (by as_aux_lemma => kernel_rfl) (by as_aux_lemma => kernel_rfl) (fun _ _ _ h => h) (Or.inl ⟨by rfl, ?_⟩) hHeld ?_
      · intro w' hSw; have a1 := (hSw.cell (p := ⟨w.heap.size + 1, 4, none⟩) hB1.out).trans m4; go_simp
      simp only [Act.put, List.setIfInBounds_toArray, List.set_cons_zero, List.set_cons_succ, List.getElem_toArray, List.getElem_cons_succ, List.getElem_cons_zero]
      refine wpAnyH_take (i := 6) (v := .bool true) rfl (by as_aux_lemma => kernel_rfl) (by as_aux_lemma => kernel_rfl) (by as_aux_lemma => kernel_rfl) (fun _ _ _ h => h) (Or.inl ⟨by rfl, ?_⟩) hHeld ?_
      · intro w' hSw; go_simp
      simp only [Act.put, List.setIfInBounds_toArray, List.set_cons_zero, List.set_cons_succ, List.getElem_toArray, List.getElem_cons_succ, List.getElem_cons_zero]
      refine wpAnyH_take (i := 7) (v := .bool true) rfl (by as_aux_lemma => kernel_rfl) (by as_aux_lemma => kernel_rfl) (by as_aux_lemma => kernel_rfl) (fun _ _ _ h => h) (Or.inl ⟨by rfl, ?_⟩) hHeld ?_
      · intro w' hSw; go_simp
      simp only [Act.put, List.setIfInBounds_toArray, List.set_cons_zero, List.set_cons_succ, List.getElem_toArray, List.getElem_cons_succ, List.getElem_cons_zero]
      refine wpAnyH_take (i := 8) (v := .bool true) rfl (by as_aux_lemma => kernel_rfl) (by as_aux_lemma => kernel_rfl) (by as_aux_lemma => kernel_rfl) (fun _ _ _ h => h) (Or.inl ⟨by rfl, ?_⟩) hHeld ?_
      · intro w' hSw; go_simp
      simp only [Act.put, List.setIfInBounds_toArray, List.set_cons_zero, List.set_cons_succ, List.getElem_toArray, List.getElem_cons_succ, List.getElem_cons_zero]
      refine wpAnyH_take (i := 9) (v := .pointer (some ⟨w.heap.size + 1, 5, none⟩)) rfl (by as_aux_lemma => kernel_rfl) (by as_aux_lemma => kernel_rfl) (by as_aux_lemma => kernel_rfl) (fun _ _ _ h => h) (Or.inl ⟨by rfl, ?_⟩) hHeld ?_
      · intro w' hSw; go_simp
      simp only [Act.put, List.setIfInBounds_toArray, List.set_cons_zero, List.set_cons_succ, List.getElem_toArray, List.getElem_cons_succ, List.getElem_cons_zero]
      refine wpAnyH_take (i := 10) (v := .int .i64 0) rfl (by as_aux_lemma => kernel_rfl) (by as_aux_lemma => kernel_rfl) (by as_aux_lemma => kernel_rfl) (fun _ _ _ h => h) (Or.inl ⟨by rfl, ?_⟩) hHeld ?_
      · intro w' hSw; have a1 := (hSw.cell (p := ⟨w.heap.size + 1, 5, none⟩) hB1.out).trans m5; go_simp
      simp only [Act.put, List.setIfInBounds_toArray, List.set_cons_zero, List.set_cons_succ, List.getElem_toArray, List.getElem_cons_succ, List.getElem_cons_zero]
      refine wpAnyH_take (i := 11) (v := .bool true) rfl (by as_aux_lemma => kernel_rfl) (by as_aux_lemma => kernel_rfl) (by as_aux_lemma => kernel_rfl) (fun _ _ _ h => h) (Or.inl ⟨by rfl, ?_⟩) hHeld ?_
      · intro w' hSw; go_simp
      simp only [Act.put, List.setIfInBounds_toArray, List.set_cons_zero, List.set_cons_succ, List.getElem_toArray, List.getElem_cons_succ, List.getElem_cons_zero]
      refine wpAnyH_take (i := 12) (v := .bool true) rfl (by as_aux_lemma => kernel_rfl) (by as_aux_lemma => kernel_rfl) (by as_aux_lemma => kernel_rfl) (fun _ _ _ h => h) (Or.inl ⟨by rfl, ?_⟩) hHeld ?_
      · intro w' hSw; go_simp
      simp only [Act.put, List.setIfInBounds_toArray, List.set_cons_zero, List.set_cons_succ, List.getElem_toArray, List.getElem_cons_succ, List.getElem_cons_zero]
      refine wpAnyH_take (i := 13) (v := .bool true) rfl (by as_aux_lemma => kernel_rfl) (by as_aux_lemma => kernel_rfl) (by as_aux_lemma => kernel_rfl) (fun _ _ _ h => h) (Or.inl ⟨by rfl, ?_⟩) hHeld ?_
      · intro w' hSw; go_simp
      simp only [Act.put, List.setIfInBounds_toArray, List.set_cons_zero, List.set_cons_succ, List.getElem_toArray, List.getElem_cons_succ, List.getElem_cons_zero]
      refine wpAnyH_take (i := 14) (v := .pointer (some ⟨w.heap.size + 1, 2, none⟩)) rfl (by as_aux_lemma => kernel_rfl) (by as_aux_lemma => kernel_rfl) (by as_aux_lemma => kernel_rfl) (fun _ _ _ h => h) (Or.inl ⟨by rfl, ?_⟩) hHeld ?_
      · intro w' hSw; go_simp
      simp only [Act.put, List.setIfInBounds_toArray, List.set_cons_zero, List.set_cons_succ, List.getElem_toArray, List.getElem_cons_succ, List.getElem_cons_zero]
      refine wpAnyH_take (i := 15) (v := .int .i64 a) rfl (by as_aux_lemma => kernel_rfl) (by as_aux_lemma => kernel_rfl) (by as_aux_lemma => kernel_rfl) (fun _ _ _ h => h) (Or.inl ⟨by rfl, ?_⟩) hHeld ?_
      · intro w' hSw; have a1 := (hSw.cell (p := ⟨w.heap.size + 1, 2, none⟩) hB1.out).trans m2; go_simp
      simp only [Act.put, List.setIfInBounds_toArray, List.set_cons_zero, List.set_cons_succ, List.getElem_toArray, List.getElem_cons_succ, List.getElem_cons_zero]
      refine wpAnyH_ready (rs := [16]) (by as_aux_lemma => kernel_rfl) (by simp) ?_
      refine AllReadyH.cons rfl (fun K hK => ?_) AllReadyH.nil
      have hsz := hHeld.size
      have hV := Lib.hid (hI1.out W.drew)
      go_simp
      refine hV.out.mono ?_
      rintro e w1 ⟨rfl, rfl⟩
      refine hK.out _ _ hHeld (fun hHeld => ?_)
      clear hK K hV hsz
      simp only [List.setIfInBounds_toArray, List.set_cons_zero, List.set_cons_succ]
      refine wpAnyH_take (i := 17) (v := .bool true) rfl (by as_aux_lemma => kernel_rfl) (by as_aux_lemma => kernel_rfl) (by as_aux_lemma => kernel_rfl) (fun _ _ _ h => h) (Or.inl ⟨by rfl, ?_⟩) hHeld ?_
      · intro w' hSw; go_simp
      simp only [Act.put, List.setIfInBounds_toArray, List.set_cons_zero, List.set_cons_succ, List.getElem_toArray, List.getElem_cons_succ, List.getElem_cons_zero]
      refine wpAnyH_take (i := 18) (v := .bool true) rfl (by as_aux_lemma => kernel_rfl) (by as_aux_lemma => kernel_rfl) (by as_aux_lemma => kernel_rfl) (fun _ _ _ h => h) (Or.inl ⟨by rfl, ?_⟩) hHeld ?_
      · intro w' hSw; go_simp
      simp only [Act.put, List.setIfInBounds_toArray, List.set_cons_zero, List.set_cons_succ, List.getElem_toArray, List.getElem_cons_succ, List.getElem_cons_zero]
      refine wpAnyH_take (i := 19) (v := .pointer (some ⟨w.heap.size + 1, 3, none⟩)) rfl (by as_aux_lemma => kernel_rfl) (by as_aux_lemma => kernel_rfl) (by as_aux_lemma => kernel_rfl) (fun _ _ _ h => h) (Or.inl ⟨by rfl, ?_⟩) hHeld ?_
      · intro w' hSw; go_simp
      simp only [Act.put, List.setIfInBounds_toArray, List.set_cons_zero, List.set_cons_succ, List.getElem_toArray, List.getElem_cons_succ, List.getElem_cons_zero]
      refine wpAnyH_take (i := 20) (v := .int .i64 b) rfl (by as_aux_lemma => kernel_rfl) (by as_aux_lemma => kernel_rfl) (by as_aux_lemma => kernel_rfl) (fun _ _ _ h => h) (Or.inl ⟨by rfl, ?_⟩) hHeld ?_
      · intro w' hSw; have a1 := (hSw.cell (p := ⟨w.heap.size + 1, 3, none⟩) hB1.out).trans m3; go_simp
      simp only [Act.put, List.setIfInBounds_toArray, List.set_cons_zero, List.set_cons_succ, List.getElem_toArray, List.getElem_cons_succ, List.getElem_cons_zero]
      refine wpAnyH_take (i := 21) (v := .pointer (some ⟨w.heap.size + 1, 2, none⟩)) rfl (by as_aux_lemma => kernel_rfl) (by as_aux_lemma => kernel_rfl) (by as_aux_lemma => kernel_rfl) (fun _ _ _ h => h) (Or.inl ⟨by rfl, ?_⟩) hHeld ?_
      · intro w' hSw; go_simp
      simp only [Act.put, List.setIfInBounds_toArray, List.set_cons_zero, List.set_cons_succ, List.getElem_toArray, List.getElem_cons_succ, List.getElem_cons_zero]
      refine wpAnyH_take (i := 22) (v := .int .i64 a) rfl (by as_aux_lemma => kernel_rfl) (by as_aux_lemma => kernel_rfl) (by as_aux_lemma => kernel_rfl) (fun _ _ _ h => h) (Or.inl ⟨by rfl, ?_⟩) hHeld ?_
      · intro w' hSw; have a1 := (hSw.cell (p := ⟨w.heap.size + 1, 2, none⟩) hB1.out).trans m2; go_simp
      simp only [Act.put, List.setIfInBounds_toArray, List.set_cons_zero, List.set_cons_succ, List.getElem_toArray, List.getElem_cons_succ, List.getElem_cons_zero]
      refine wpAnyH_take (i := 23) (v := .int .i64 (a + 1)) rfl (by as_aux_lemma => kernel_rfl) (by as_aux_lemma => kernel_rfl) (by as_aux_lemma => kernel_rfl) (fun _ _ _ h => h) (Or.inl ⟨by rfl, ?_⟩) hHeld ?_
      · intro w' hSw; have a1 := sw3.out; go_simp
      simp only [Act.put, List.setIfInBounds_toArray, List.set_cons_zero, List.set_cons_succ, List.getElem_toArray, List.getElem_cons_succ, List.getElem_cons_zero]
      refine wpAnyH_ready (rs := [24]) (by as_aux_lemma => kernel_rfl) (by simp) ?_
      refine AllReadyH.cons rfl (fun K hK => ?_) AllReadyH.nil
      have hsz := hHeld.size
      have hV := Lib.hid (hI2.out W.drew)
      go_simp
      refine hV.out.mono ?_
      rintro e w1 ⟨rfl, rfl⟩
      refine hK.out _ _ hHeld (fun hHeld => ?_)
      clear hK K hV hsz
      simp only [List.setIfInBounds_toArray, List.set_cons_zero, List.set_cons_succ]
      refine wpAnyH_take (i := 25) (v := .bool true) rfl (by as_aux_lemma => kernel_rfl) (by as_aux_lemma => kernel_rfl) (by as_aux_lemma => kernel_rfl) (fun _ _ _ h => h) (Or.inl ⟨by rfl, ?_⟩) hHeld ?_
      · intro w' hSw; go_simp
      simp only [Act.put, List.setIfInBounds_toArray, List.set_cons_zero, List.set_cons_succ, List.getElem_toArray, List.getElem_cons_succ, List.getElem_cons_zero]
      refine wpAnyH_take (i := 26) (v := .bool true) rfl (by as_aux_lemma => kernel_rfl) (by as_aux_lemma => kernel_rfl) (by as_aux_lemma => kernel_rfl) (fun _ _ _ h => h) (Or.inl ⟨by rfl, ?_⟩) hHeld ?_
      · intro w' hSw; go_simp
      simp only [Act.put, List.setIfInBounds_toArray, List.set_cons_zero, List.set_cons_succ, List.getElem_toArray, List.getElem_cons_succ, List.getElem_cons_zero]
      refine wpAnyH_take (i := 27) (v := .agg #[.int .i64 s.P, .slice ja nj jc, .slice oa m oc]) rfl (by as_aux_lemma => kernel_rfl) (by as_aux_lemma => kernel_rfl) (by as_aux_lemma => kernel_rfl) (fun _ _ _ h => h) (Or.inl ⟨by rfl, ?_⟩) hHeld ?_
      · intro w' hSw; have a0 := (hSw.cell (p := ⟨w.heap.size, 0, none⟩) hB0.out).trans u0; have a1 := (hSw.cell (p := ⟨w.heap.size, 1, none⟩) hB0.out).trans u1; have a2 := (hSw.cell (p := ⟨w.heap.size, 2, none⟩) hB0.out).trans u2; go_simp
      simp only [Act.put, List.setIfInBounds_toArray, List.set_cons_zero, List.set_cons_succ, List.getElem_toArray, List.getElem_cons_succ, List.getElem_cons_zero]
      refine wpAnyH_take (i := 28) (v := .pointer (some ⟨w.heap.size + 1, 2, none⟩)) rfl (by as_aux_lemma => kernel_rfl) (by as_aux_lemma => kernel_rfl) (by as_aux_lemma => kernel_rfl) (fun _ _ _ h => h) (Or.inl ⟨by rfl, ?_⟩) hHeld ?_
      · intro w' hSw; go_simp
      simp only [Act.put, List.setIfInBounds_toArray, List.set_cons_zero, List.set_cons_succ, List.getElem_toArray, List.getElem_cons_succ, List.getElem_cons_zero]
      refine wpAnyH_take (i := 29) (v := .int .i64 a) rfl (by as_aux_lemma => kernel_rfl) (by as_aux_lemma => kernel_rfl) (by as_aux_lemma => kernel_rfl) (fun _ _ _ h => h) (Or.inl ⟨by rfl, ?_⟩) hHeld ?_
      · intro w' hSw; have a1 := (hSw.cell (p := ⟨w.heap.size + 1, 2, none⟩) hB1.out).trans m2; go_simp
      simp only [Act.put, List.setIfInBounds_toArray, List.set_cons_zero, List.set_cons_succ, List.getElem_toArray, List.getElem_cons_succ, List.getElem_cons_zero]
      refine wpAnyH_take (i := 30) (v := .pointer (some ⟨w.heap.size + 1, 3, none⟩)) rfl (by as_aux_lemma => kernel_rfl) (by as_aux_lemma => kernel_rfl) (by as_aux_lemma => kernel_rfl) (fun _ _ _ h => h) (Or.inl ⟨by rfl, ?_⟩) hHeld ?_
      · intro w' hSw; go_simp
      simp only [Act.put, List.setIfInBounds_toArray, List.set_cons_zero, List.set_cons_succ, List.getElem_toArray, List.getElem_cons_succ, List.getElem_cons_zero]
      refine wpAnyH_take (i := 31) (v := .int .i64 b) rfl (by as_aux_lemma => kernel_rfl) (by as_aux_lemma => kernel_rfl) (by as_aux_lemma => kernel_rfl) (fun _ _ _ h => h) (Or.inl ⟨by rfl, ?_⟩) hHeld ?_
      · intro w' hSw; have a1 := (hSw.cell (p := ⟨w.heap.size + 1, 3, none⟩) hB1.out).trans m3; go_simp
      simp only [Act.put, List.setIfInBounds_toArray, List.set_cons_zero, List.set_cons_succ, List.getElem_toArray, List.getElem_cons_succ, List.getElem_cons_zero]
      refine wpAnyH_take (i := 33) (v := .pointer (some ⟨w.heap.size, 0, none⟩)) rfl (by as_aux_lemma => kernel_rfl) (by as_aux_lemma => kernel_rfl) (by as_aux_lemma => kernel_rfl) (fun _ _ _ h => h) (Or.inl ⟨by rfl, ?_⟩) hHeld ?_
      · intro w' hSw; go_simp
      simp only [Act.put, List.setIfInBounds_toArray, List.set_cons_zero, List.set_cons_succ, List.getElem_toArray, List.getElem_cons_succ, List.getElem_cons_zero]
      refine wpAnyH_take (i := 34) (v := .int .i64 s.P) rfl (by as_aux_lemma => kernel_rfl) (by as_aux_lemma => kernel_rfl) (by as_aux_lemma => kernel_rfl) (fun _ _ _ h => h) (Or.inl ⟨by rfl, ?_⟩) hHeld ?_
      · intro w' hSw; have a0 := (hSw.cell (p := ⟨w.heap.size, 0, none⟩) hB0.out).trans u0; go_simp
      simp only [Act.put, List.setIfInBounds_toArray, List.set_cons_zero, List.set_cons_succ, List.getElem_toArray, List.getElem_cons_succ, List.getElem_cons_zero]
      refine wpAnyH_take (i := 35) (v := .pointer (some ⟨w.heap.size + 1, 3, none⟩)) rfl (by as_aux_lemma => kernel_rfl) (by as_aux_lemma => kernel_rfl) (by as_aux_lemma => kernel_rfl) (fun _ _ _ h => h) (Or.inl ⟨by rfl, ?_⟩) hHeld ?_
      · intro w' hSw; go_simp
      simp only [Act.put, List.setIfInBounds_toArray, List.set_cons_zero, List.set_cons_succ, List.getElem_toArray, List.getElem_cons_succ, List.getElem_cons_zero]
      refine wpAnyH_take (i := 36) (v := .int .i64 b) rfl (by as_aux_lemma => kernel_rfl) (by as_aux_lemma => kernel_rfl) (by as_aux_lemma => kernel_rfl) (fun _ _ _ h => h) (Or.inl ⟨by rfl, ?_⟩) hHeld ?_
      · intro w' hSw; have a1 := (hSw.cell (p := ⟨w.heap.size + 1, 3, none⟩) hB1.out).trans m3; go_simp
      simp only [Act.put, List.setIfInBounds_toArray, List.set_cons_zero, List.set_cons_succ, List.getElem_toArray, List.getElem_cons_succ, List.getElem_cons_zero]
      refine wpAnyH_take (i := 37) (v := .pointer (some ⟨w.heap.size + 1, 2, none⟩)) rfl (by as_aux_lemma => kernel_rfl) (by as_aux_lemma => kernel_rfl) (by as_aux_lemma => kernel_rfl) (fun _ _ _ h => h) (Or.inl ⟨by rfl, ?_⟩) hHeld ?_
      · intro w' hSw; go_simp
      simp only [Act.put, List.setIfInBounds_toArray, List.set_cons_zero, List.set_cons_succ, List.getElem_toArray, List.getElem_cons_succ, List.getElem_cons_zero]
      refine wpAnyH_take (i := 38) (v := .int .i64 a) rfl (by as_aux_lemma => kernel_rfl) (by as_aux_lemma => kernel_rfl) (by as_aux_lemma => kernel_rfl) (fun _ _ _ h => h) (Or.inl ⟨by rfl, ?_⟩) hHeld ?_
      · intro w' hSw; have a1 := (hSw.cell (p := ⟨w.heap.size + 1, 2, none⟩) hB1.out).trans m2; go_simp
      simp only [Act.put, List.setIfInBounds_toArray, List.set_cons_zero, List.set_cons_succ, List.getElem_toArray, List.getElem_cons_succ, List.getElem_cons_zero]
      refine wpAnyH_take (i := 39) (v := .int .i64 (b - a)) rfl (by as_aux_lemma => kernel_rfl) (by as_aux_lemma => kernel_rfl) (by as_aux_lemma => kernel_rfl) (fun _ _ _ h => h) (Or.inl ⟨by rfl, ?_⟩) hHeld ?_
      · intro w' hSw; have a1 := sw1.out; go_simp
      simp only [Act.put, List.setIfInBounds_toArray, List.set_cons_zero, List.set_cons_succ, List.getElem_toArray, List.getElem_cons_succ, List.getElem_cons_zero]
      refine wpAnyH_take (i := 40) (v := .int .i64 (s.P * (b - a))) rfl (by as_aux_lemma => kernel_rfl) (by as_aux_lemma => kernel_rfl) (by as_aux_lemma => kernel_rfl) (fun _ _ _ h => h) (Or.inl ⟨by rfl, ?_⟩) hHeld ?_
      · intro w' hSw; have a1 := sw2.out; go_simp
      simp only [Act.put, List.setIfInBounds_toArray, List.set_cons_zero, List.set_cons_succ, List.getElem_toArray, List.getElem_cons_succ, List.getElem_cons_zero]
      refine wpAnyH_ready (rs := [32]) (by as_aux_lemma => kernel_rfl) (by simp) ?_
      refine AllReadyH.cons rfl (fun K hK => ?_) AllReadyH.nil
      have hsz := hHeld.size
      have hV := Lib.hid (hcn.out)
      go_simp
      refine hV.out.mono ?_
      rintro e w1 ⟨rfl, hb1⟩
      refine hK.out _ _ (hHeld.trans (hb1.mono hsz)) (fun hHeld => ?_)
      clear hK K hV hsz
      simp only [List.setIfInBounds_toArray, List.set_cons_zero, List.set_cons_succ]
      refine wpAnyH_take (i := 41) (v := .bool (decide (s.P * (b - a) < z))) rfl (by as_aux_lemma => kernel_rfl) (by as_aux_lemma => kernel_rfl) (by as_aux_lemma => kernel_rfl) (fun _ _ _ h => h) (Or.inl ⟨by rfl, ?_⟩) hHeld ?_
      · intro w' hSw; go_simp
      simp only [Act.put, List.setIfInBounds_toArray, List.set_cons_zero, List.set_cons_succ, List.getElem_toArray, List.getElem_cons_succ, List.getElem_cons_zero]
      refine wpAnyH_take (i := 42) (v := .bool (decide (s.P * (b - a) < z))) rfl (by as_aux_lemma => kernel_rfl) (by as_aux_lemma => kernel_rfl) (by as_aux_lemma => kernel_rfl) (fun _ _ _ h => h) (Or.inl ⟨by rfl, ?_⟩) hHeld ?_
      · intro w' hSw; go_simp
      simp only [Act.put, List.setIfInBounds_toArray, List.set_cons_zero, List.set_cons_succ, List.getElem_toArray, List.getElem_cons_succ, List.getElem_cons_zero]
      refine wpAnyH_take (i := 43) (v := .bool (decide (s.P * (b - a) < z))) rfl (by as_aux_lemma => kernel_rfl) (by as_aux_lemma => kernel_rfl) (by as_aux_lemma => kernel_rfl) (fun _ _ _ h => h) (Or.inl ⟨by rfl, ?_⟩) hHeld ?_
      · intro w' hSw; go_simp
      simp only [Act.put, List.setIfInBounds_toArray, List.set_cons_zero, List.set_cons_succ, List.getElem_toArray, List.getElem_cons_succ, List.getElem_cons_zero]
      refine wpAnyH_done (by kernel_rfl) ?_ _
      refine NoPanic.normal ?_
      go_wp2_with fail
      go_ret
      rw [hdf.out]
      exact hEnd.out _ hHeld _
    · have hI2 := Lib.hid (fun (W' : World) => (in41 (w := W') b (a + 1) 24).mono (R' := fun e w' => e = .returned (.bool false) ∧ W' = w') (fun e w' he => by
        rw [show (decide (a + 1 ≤ b) && decide (b ≤ 24)) = false from by rw [Bool.eq_false_iff]; intro hc; simp only [Bool.and_eq_true, decide_eq_true_eq] at hc; exact q5 hc] at he; exact he))
      have hib : intB a b = false := by rw [Bool.eq_false_iff]; intro hc; have := intB_iff.1 hc; exact q5 ⟨by omega, this.2.2⟩
      have hdf := Lib.hid (show d = false by rw [hd'.out, enB, hib]; simp)
      have sw3 := Lib.hid (show IntKind.i64.wrap (a + 1) = a + 1 from IntWalk.i64_in _ (by omega))
      clear hd' hnd hns hov h7 hpw hib q5
      as_aux_lemma =>
      go_upto_region 7 with fail
      refine wp_region_noPanic ?_
      refine wp_region_any (by kernel_rfl) (wpAny_of_held (S := fun w' => Below W.heap.size W w') _ _ _ _ ?_)
      have hHeld : Below W.heap.size W W.drew := (Below.refl _ _).drew
      change wpAnyH _ _ _ _ _ _ _ _ W.drew
      simp only [List.size_toArray, List.length_cons, List.length_nil, Nat.reduceAdd, Array.replicate_succ, Array.replicate_zero, List.push_toArray, List.nil_append, List.cons_append]
      refine wpAnyH_take (i := 0) (v := .pointer (some ⟨w.heap.size + 1, 1, none⟩)) rfl (by as_aux_lemma => kernel_rfl) (by as_aux_lemma => kernel_rfl) (by as_aux_lemma => kernel_rfl) (fun _ _ _ h => h) (Or.inl ⟨by rfl, ?_⟩) hHeld ?_
      · intro w' hSw; go_simp
      simp only [Act.put, List.setIfInBounds_toArray, List.set_cons_zero, List.set_cons_succ, List.getElem_toArray, List.getElem_cons_zero]
      refine wpAnyH_take (i := 1) (v := .int .i64 0) rfl (by as_aux_lemma => kernel_rfl) (by as_aux_lemma => kernel_rfl) (by as_aux_lemma => kernel_rfl) (fun _ _ _ h => h) (Or.inl ⟨by rfl, ?_⟩) hHeld ?_
      · intro w' hSw; have a1 := (hSw.cell (p := ⟨w.heap.size + 1, 1, none⟩) hB1.out).trans m1; go_simp
      simp only [Act.put, List.setIfInBounds_toArray, List.set_cons_zero, List.set_cons_succ, List.getElem_toArray, List.getElem_cons_succ, List.getElem_cons_zero]
      refine wpAnyH_take (i := 2) (v := .bool true) rfl (by as_aux_lemma => kernel_rfl) (by as_aux_lemma => kernel_rfl) (by as_aux_lemma => kernel_rfl) (fun _ _ _ h => h) (Or.inl ⟨by rfl, ?_⟩) hHeld ?_
      · intro w' hSw; go_simp
      simp only [Act.put, List.setIfInBounds_toArray, List.set_cons_zero, List.set_cons_succ, List.getElem_toArray, List.getElem_cons_succ, List.getElem_cons_zero]
      refine wpAnyH_take (i := 3) (v := .bool true) rfl (by as_aux_lemma => kernel_rfl) (by as_aux_lemma => kernel_rfl) (by as_aux_lemma => kernel_rfl) (fun _ _ _ h => h) (Or.inl ⟨by rfl, ?_⟩) hHeld ?_
      · intro w' hSw; go_simp
      simp only [Act.put, List.setIfInBounds_toArray, List.set_cons_zero, List.set_cons_succ, List.getElem_toArray, List.getElem_cons_succ, List.getElem_cons_zero]
      refine wpAnyH_take (i := 4) (v := .pointer (some ⟨w.heap.size + 1, 4, none⟩)) rfl (by as_aux_lemma => kernel_rfl) (by as_aux_lemma => kernel_rfl) (by as_aux_lemma => kernel_rfl) (fun _ _ _ h => h) (Or.inl ⟨by rfl, ?_⟩) hHeld ?_
      · intro w' hSw; go_simp
      simp only [Act.put, List.setIfInBounds_toArray, List.set_cons_zero, List.set_cons_succ, List.getElem_toArray, List.getElem_cons_succ, List.getElem_cons_zero]
      refine wpAnyH_take (i := 5) (v := .int .i64 0) rfl (by as_aux_lemma => kernel_rfl) (by as_aux_lemma => kernel_rfl) (by as_aux_lemma => kernel_rfl) (fun _ _ _ h => h) (Or.inl ⟨by rfl, ?_⟩) hHeld ?_
      · intro w' hSw; have a1 := (hSw.cell (p := ⟨w.heap.size + 1, 4, none⟩) hB1.out).trans m4; go_simp
      simp only [Act.put, List.setIfInBounds_toArray, List.set_cons_zero, List.set_cons_succ, List.getElem_toArray, List.getElem_cons_succ, List.getElem_cons_zero]
      refine wpAnyH_take (i := 6) (v := .bool true) rfl (by as_aux_lemma => kernel_rfl) (by as_aux_lemma => kernel_rfl) (by as_aux_lemma => kernel_rfl) (fun _ _ _ h => h) (Or.inl ⟨by rfl, ?_⟩) hHeld ?_
      · intro w' hSw; go_simp
      simp only [Act.put, List.setIfInBounds_toArray, List.set_cons_zero, List.set_cons_succ, List.getElem_toArray, List.getElem_cons_succ, List.getElem_cons_zero]
      refine wpAnyH_take (i := 7) (v := .bool true) rfl (by as_aux_lemma => kernel_rfl) (by as_aux_lemma => kernel_rfl) (by as_aux_lemma => kernel_rfl) (fun _ _ _ h => h) (Or.inl ⟨by rfl, ?_⟩) hHeld ?_
      · intro w' hSw; go_simp
      simp only [Act.put, List.setIfInBounds_toArray, List.set_cons_zero, List.set_cons_succ, List.getElem_toArray, List.getElem_cons_succ, List.getElem_cons_zero]
      refine wpAnyH_take (i := 8) (v := .bool true) rfl (by as_aux_lemma => kernel_rfl) (by as_aux_lemma => kernel_rfl) (by as_aux_lemma => kernel_rfl) (fun _ _ _ h => h) (Or.inl ⟨by rfl, ?_⟩) hHeld ?_
      · intro w' hSw; go_simp
      simp only [Act.put, List.setIfInBounds_toArray, List.set_cons_zero, List.set_cons_succ, List.getElem_toArray, List.getElem_cons_succ, List.getElem_cons_zero]
      refine wpAnyH_take (i := 9) (v := .pointer (some ⟨w.heap.size + 1, 5, none⟩)) rfl (by as_aux_lemma => kernel_rfl) (by as_aux_lemma => kernel_rfl) (by as_aux_lemma => kernel_rfl) (fun _ _ _ h => h) (Or.inl ⟨by rfl, ?_⟩) hHeld ?_
      · intro w' hSw; go_simp
      simp only [Act.put, List.setIfInBounds_toArray, List.set_cons_zero, List.set_cons_succ, List.getElem_toArray, List.getElem_cons_succ, List.getElem_cons_zero]
      refine wpAnyH_take (i := 10) (v := .int .i64 0) rfl (by as_aux_lemma => kernel_rfl) (by as_aux_lemma => kernel_rfl) (by as_aux_lemma => kernel_rfl) (fun _ _ _ h => h) (Or.inl ⟨by rfl, ?_⟩) hHeld ?_
      · intro w' hSw; have a1 := (hSw.cell (p := ⟨w.heap.size + 1, 5, none⟩) hB1.out).trans m5; go_simp
      simp only [Act.put, List.setIfInBounds_toArray, List.set_cons_zero, List.set_cons_succ, List.getElem_toArray, List.getElem_cons_succ, List.getElem_cons_zero]
      refine wpAnyH_take (i := 11) (v := .bool true) rfl (by as_aux_lemma => kernel_rfl) (by as_aux_lemma => kernel_rfl) (by as_aux_lemma => kernel_rfl) (fun _ _ _ h => h) (Or.inl ⟨by rfl, ?_⟩) hHeld ?_
      · intro w' hSw; go_simp
      simp only [Act.put, List.setIfInBounds_toArray, List.set_cons_zero, List.set_cons_succ, List.getElem_toArray, List.getElem_cons_succ, List.getElem_cons_zero]
      refine wpAnyH_take (i := 12) (v := .bool true) rfl (by as_aux_lemma => kernel_rfl) (by as_aux_lemma => kernel_rfl) (by as_aux_lemma => kernel_rfl) (fun _ _ _ h => h) (Or.inl ⟨by rfl, ?_⟩) hHeld ?_
      · intro w' hSw; go_simp
      simp only [Act.put, List.setIfInBounds_toArray, List.set_cons_zero, List.set_cons_succ, List.getElem_toArray, List.getElem_cons_succ, List.getElem_cons_zero]
      refine wpAnyH_take (i := 13) (v := .bool true) rfl (by as_aux_lemma => kernel_rfl) (by as_aux_lemma => kernel_rfl) (by as_aux_lemma => kernel_rfl) (fun _ _ _ h => h) (Or.inl ⟨by rfl, ?_⟩) hHeld ?_
      · intro w' hSw; go_simp
      simp only [Act.put, List.setIfInBounds_toArray, List.set_cons_zero, List.set_cons_succ, List.getElem_toArray, List.getElem_cons_succ, List.getElem_cons_zero]
      refine wpAnyH_take (i := 14) (v := .pointer (some ⟨w.heap.size + 1, 2, none⟩)) rfl (by as_aux_lemma => kernel_rfl) (by as_aux_lemma => kernel_rfl) (by as_aux_lemma => kernel_rfl) (fun _ _ _ h => h) (Or.inl ⟨by rfl, ?_⟩) hHeld ?_
      · intro w' hSw; go_simp
      simp only [Act.put, List.setIfInBounds_toArray, List.set_cons_zero, List.set_cons_succ, List.getElem_toArray, List.getElem_cons_succ, List.getElem_cons_zero]
      refine wpAnyH_take (i := 15) (v := .int .i64 a) rfl (by as_aux_lemma => kernel_rfl) (by as_aux_lemma => kernel_rfl) (by as_aux_lemma => kernel_rfl) (fun _ _ _ h => h) (Or.inl ⟨by rfl, ?_⟩) hHeld ?_
      · intro w' hSw; have a1 := (hSw.cell (p := ⟨w.heap.size + 1, 2, none⟩) hB1.out).trans m2; go_simp
      simp only [Act.put, List.setIfInBounds_toArray, List.set_cons_zero, List.set_cons_succ, List.getElem_toArray, List.getElem_cons_succ, List.getElem_cons_zero]
      refine wpAnyH_ready (rs := [16]) (by as_aux_lemma => kernel_rfl) (by simp) ?_
      refine AllReadyH.cons rfl (fun K hK => ?_) AllReadyH.nil
      have hsz := hHeld.size
      have hV := Lib.hid (hI1.out W.drew)
      go_simp
      refine hV.out.mono ?_
      rintro e w1 ⟨rfl, rfl⟩
      refine hK.out _ _ hHeld (fun hHeld => ?_)
      clear hK K hV hsz
      simp only [List.setIfInBounds_toArray, List.set_cons_zero, List.set_cons_succ]
      refine wpAnyH_take (i := 17) (v := .bool true) rfl (by as_aux_lemma => kernel_rfl) (by as_aux_lemma => kernel_rfl) (by as_aux_lemma => kernel_rfl) (fun _ _ _ h => h) (Or.inl ⟨by rfl, ?_⟩) hHeld ?_
      · intro w' hSw; go_simp
      simp only [Act.put, List.setIfInBounds_toArray, List.set_cons_zero, List.set_cons_succ, List.getElem_toArray, List.getElem_cons_succ, List.getElem_cons_zero]
      refine wpAnyH_take (i := 18) (v := .bool true) rfl (by as_aux_lemma => kernel_rfl) (by as_aux_lemma => kernel_rfl) (by as_aux_lemma => kernel_rfl) (fun _ _ _ h => h) (Or.inl ⟨by rfl, ?_⟩) hHeld ?_
      · intro w' hSw; go_simp
      simp only [Act.put, List.setIfInBounds_toArray, List.set_cons_zero, List.set_cons_succ, List.getElem_toArray, List.getElem_cons_succ, List.getElem_cons_zero]
      refine wpAnyH_take (i := 19) (v := .pointer (some ⟨w.heap.size + 1, 3, none⟩)) rfl (by as_aux_lemma => kernel_rfl) (by as_aux_lemma => kernel_rfl) (by as_aux_lemma => kernel_rfl) (fun _ _ _ h => h) (Or.inl ⟨by rfl, ?_⟩) hHeld ?_
      · intro w' hSw; go_simp
      simp only [Act.put, List.setIfInBounds_toArray, List.set_cons_zero, List.set_cons_succ, List.getElem_toArray, List.getElem_cons_succ, List.getElem_cons_zero]
      refine wpAnyH_take (i := 20) (v := .int .i64 b) rfl (by as_aux_lemma => kernel_rfl) (by as_aux_lemma => kernel_rfl) (by as_aux_lemma => kernel_rfl) (fun _ _ _ h => h) (Or.inl ⟨by rfl, ?_⟩) hHeld ?_
      · intro w' hSw; have a1 := (hSw.cell (p := ⟨w.heap.size + 1, 3, none⟩) hB1.out).trans m3; go_simp
      simp only [Act.put, List.setIfInBounds_toArray, List.set_cons_zero, List.set_cons_succ, List.getElem_toArray, List.getElem_cons_succ, List.getElem_cons_zero]
      refine wpAnyH_take (i := 21) (v := .pointer (some ⟨w.heap.size + 1, 2, none⟩)) rfl (by as_aux_lemma => kernel_rfl) (by as_aux_lemma => kernel_rfl) (by as_aux_lemma => kernel_rfl) (fun _ _ _ h => h) (Or.inl ⟨by rfl, ?_⟩) hHeld ?_
      · intro w' hSw; go_simp
      simp only [Act.put, List.setIfInBounds_toArray, List.set_cons_zero, List.set_cons_succ, List.getElem_toArray, List.getElem_cons_succ, List.getElem_cons_zero]
      refine wpAnyH_take (i := 22) (v := .int .i64 a) rfl (by as_aux_lemma => kernel_rfl) (by as_aux_lemma => kernel_rfl) (by as_aux_lemma => kernel_rfl) (fun _ _ _ h => h) (Or.inl ⟨by rfl, ?_⟩) hHeld ?_
      · intro w' hSw; have a1 := (hSw.cell (p := ⟨w.heap.size + 1, 2, none⟩) hB1.out).trans m2; go_simp
      simp only [Act.put, List.setIfInBounds_toArray, List.set_cons_zero, List.set_cons_succ, List.getElem_toArray, List.getElem_cons_succ, List.getElem_cons_zero]
      refine wpAnyH_take (i := 23) (v := .int .i64 (a + 1)) rfl (by as_aux_lemma => kernel_rfl) (by as_aux_lemma => kernel_rfl) (by as_aux_lemma => kernel_rfl) (fun _ _ _ h => h) (Or.inl ⟨by rfl, ?_⟩) hHeld ?_
      · intro w' hSw; have a1 := sw3.out; go_simp
      simp only [Act.put, List.setIfInBounds_toArray, List.set_cons_zero, List.set_cons_succ, List.getElem_toArray, List.getElem_cons_succ, List.getElem_cons_zero]
      refine wpAnyH_ready (rs := [24]) (by as_aux_lemma => kernel_rfl) (by simp) ?_
      refine AllReadyH.cons rfl (fun K hK => ?_) AllReadyH.nil
      have hsz := hHeld.size
      have hV := Lib.hid (hI2.out W.drew)
      go_simp
      refine hV.out.mono ?_
      rintro e w1 ⟨rfl, rfl⟩
      refine hK.out _ _ hHeld (fun hHeld => ?_)
      clear hK K hV hsz
      simp only [List.setIfInBounds_toArray, List.set_cons_zero, List.set_cons_succ]
      refine wpAnyH_take (i := 25) (v := .bool false) rfl (by as_aux_lemma => kernel_rfl) (by as_aux_lemma => kernel_rfl) (by as_aux_lemma => kernel_rfl) (fun _ _ _ h => h) (Or.inl ⟨by rfl, ?_⟩) hHeld ?_
      · intro w' hSw; go_simp
      simp only [Act.put, List.setIfInBounds_toArray, List.set_cons_zero, List.set_cons_succ, List.getElem_toArray, List.getElem_cons_succ, List.getElem_cons_zero]
      refine wpAnyH_take (i := 26) (v := .bool false) rfl (by as_aux_lemma => kernel_rfl) (by as_aux_lemma => kernel_rfl) (by as_aux_lemma => kernel_rfl) (fun _ _ _ h => h) (Or.inl ⟨by rfl, ?_⟩) hHeld ?_
      · intro w' hSw; go_simp
      simp only [Act.put, List.setIfInBounds_toArray, List.set_cons_zero, List.set_cons_succ, List.getElem_toArray, List.getElem_cons_succ, List.getElem_cons_zero]
      refine wpAnyH_take (i := 27) (v := undef) rfl (by as_aux_lemma => kernel_rfl) (by as_aux_lemma => kernel_rfl) (by as_aux_lemma => kernel_rfl) (fun _ _ _ h => h) (Or.inr ⟨by rfl, rfl⟩) hHeld ?_
      simp only [Act.put, List.setIfInBounds_toArray, List.set_cons_zero, List.set_cons_succ, List.getElem_toArray, List.getElem_cons_succ, List.getElem_cons_zero]
      refine wpAnyH_take (i := 28) (v := undef) rfl (by as_aux_lemma => kernel_rfl) (by as_aux_lemma => kernel_rfl) (by as_aux_lemma => kernel_rfl) (fun _ _ _ h => h) (Or.inr ⟨by rfl, rfl⟩) hHeld ?_
      simp only [Act.put, List.setIfInBounds_toArray, List.set_cons_zero, List.set_cons_succ, List.getElem_toArray, List.getElem_cons_succ, List.getElem_cons_zero]
      refine wpAnyH_take (i := 29) (v := undef) rfl (by as_aux_lemma => kernel_rfl) (by as_aux_lemma => kernel_rfl) (by as_aux_lemma => kernel_rfl) (fun _ _ _ h => h) (Or.inr ⟨by rfl, rfl⟩) hHeld ?_
      simp only [Act.put, List.setIfInBounds_toArray, List.set_cons_zero, List.set_cons_succ, List.getElem_toArray, List.getElem_cons_succ, List.getElem_cons_zero]
      refine wpAnyH_take (i := 30) (v := undef) rfl (by as_aux_lemma => kernel_rfl) (by as_aux_lemma => kernel_rfl) (by as_aux_lemma => kernel_rfl) (fun _ _ _ h => h) (Or.inr ⟨by rfl, rfl⟩) hHeld ?_
      simp only [Act.put, List.setIfInBounds_toArray, List.set_cons_zero, List.set_cons_succ, List.getElem_toArray, List.getElem_cons_succ, List.getElem_cons_zero]
      refine wpAnyH_take (i := 31) (v := undef) rfl (by as_aux_lemma => kernel_rfl) (by as_aux_lemma => kernel_rfl) (by as_aux_lemma => kernel_rfl) (fun _ _ _ h => h) (Or.inr ⟨by rfl, rfl⟩) hHeld ?_
      simp only [Act.put, List.setIfInBounds_toArray, List.set_cons_zero, List.set_cons_succ, List.getElem_toArray, List.getElem_cons_succ, List.getElem_cons_zero]
      refine wpAnyH_take (i := 32) (v := undef) rfl (by as_aux_lemma => kernel_rfl) (by as_aux_lemma => kernel_rfl) (by as_aux_lemma => kernel_rfl) (fun _ _ _ h => h) (Or.inr ⟨by rfl, rfl⟩) hHeld ?_
      simp only [Act.put, List.setIfInBounds_toArray, List.set_cons_zero, List.set_cons_succ, List.getElem_toArray, List.getElem_cons_succ, List.getElem_cons_zero]
      refine wpAnyH_take (i := 33) (v := undef) rfl (by as_aux_lemma => kernel_rfl) (by as_aux_lemma => kernel_rfl) (by as_aux_lemma => kernel_rfl) (fun _ _ _ h => h) (Or.inr ⟨by rfl, rfl⟩) hHeld ?_
      simp only [Act.put, List.setIfInBounds_toArray, List.set_cons_zero, List.set_cons_succ, List.getElem_toArray, List.getElem_cons_succ, List.getElem_cons_zero]
      refine wpAnyH_take (i := 34) (v := undef) rfl (by as_aux_lemma => kernel_rfl) (by as_aux_lemma => kernel_rfl) (by as_aux_lemma => kernel_rfl) (fun _ _ _ h => h) (Or.inr ⟨by rfl, rfl⟩) hHeld ?_
      simp only [Act.put, List.setIfInBounds_toArray, List.set_cons_zero, List.set_cons_succ, List.getElem_toArray, List.getElem_cons_succ, List.getElem_cons_zero]
      refine wpAnyH_take (i := 35) (v := undef) rfl (by as_aux_lemma => kernel_rfl) (by as_aux_lemma => kernel_rfl) (by as_aux_lemma => kernel_rfl) (fun _ _ _ h => h) (Or.inr ⟨by rfl, rfl⟩) hHeld ?_
      simp only [Act.put, List.setIfInBounds_toArray, List.set_cons_zero, List.set_cons_succ, List.getElem_toArray, List.getElem_cons_succ, List.getElem_cons_zero]
      refine wpAnyH_take (i := 36) (v := undef) rfl (by as_aux_lemma => kernel_rfl) (by as_aux_lemma => kernel_rfl) (by as_aux_lemma => kernel_rfl) (fun _ _ _ h => h) (Or.inr ⟨by rfl, rfl⟩) hHeld ?_
      simp only [Act.put, List.setIfInBounds_toArray, List.set_cons_zero, List.set_cons_succ, List.getElem_toArray, List.getElem_cons_succ, List.getElem_cons_zero]
      refine wpAnyH_take (i := 37) (v := undef) rfl (by as_aux_lemma => kernel_rfl) (by as_aux_lemma => kernel_rfl) (by as_aux_lemma => kernel_rfl) (fun _ _ _ h => h) (Or.inr ⟨by rfl, rfl⟩) hHeld ?_
      simp only [Act.put, List.setIfInBounds_toArray, List.set_cons_zero, List.set_cons_succ, List.getElem_toArray, List.getElem_cons_succ, List.getElem_cons_zero]
      refine wpAnyH_take (i := 38) (v := undef) rfl (by as_aux_lemma => kernel_rfl) (by as_aux_lemma => kernel_rfl) (by as_aux_lemma => kernel_rfl) (fun _ _ _ h => h) (Or.inr ⟨by rfl, rfl⟩) hHeld ?_
      simp only [Act.put, List.setIfInBounds_toArray, List.set_cons_zero, List.set_cons_succ, List.getElem_toArray, List.getElem_cons_succ, List.getElem_cons_zero]
      refine wpAnyH_take (i := 39) (v := undef) rfl (by as_aux_lemma => kernel_rfl) (by as_aux_lemma => kernel_rfl) (by as_aux_lemma => kernel_rfl) (fun _ _ _ h => h) (Or.inr ⟨by rfl, rfl⟩) hHeld ?_
      simp only [Act.put, List.setIfInBounds_toArray, List.set_cons_zero, List.set_cons_succ, List.getElem_toArray, List.getElem_cons_succ, List.getElem_cons_zero]
      refine wpAnyH_take (i := 40) (v := undef) rfl (by as_aux_lemma => kernel_rfl) (by as_aux_lemma => kernel_rfl) (by as_aux_lemma => kernel_rfl) (fun _ _ _ h => h) (Or.inr ⟨by rfl, rfl⟩) hHeld ?_
      simp only [Act.put, List.setIfInBounds_toArray, List.set_cons_zero, List.set_cons_succ, List.getElem_toArray, List.getElem_cons_succ, List.getElem_cons_zero]
      refine wpAnyH_take (i := 41) (v := undef) rfl (by as_aux_lemma => kernel_rfl) (by as_aux_lemma => kernel_rfl) (by as_aux_lemma => kernel_rfl) (fun _ _ _ h => h) (Or.inr ⟨by rfl, rfl⟩) hHeld ?_
      simp only [Act.put, List.setIfInBounds_toArray, List.set_cons_zero, List.set_cons_succ, List.getElem_toArray, List.getElem_cons_succ, List.getElem_cons_zero]
      refine wpAnyH_take (i := 42) (v := .bool false) rfl (by as_aux_lemma => kernel_rfl) (by as_aux_lemma => kernel_rfl) (by as_aux_lemma => kernel_rfl) (fun _ _ _ h => h) (Or.inl ⟨by rfl, ?_⟩) hHeld ?_
      · intro w' hSw; go_simp
      simp only [Act.put, List.setIfInBounds_toArray, List.set_cons_zero, List.set_cons_succ, List.getElem_toArray, List.getElem_cons_succ, List.getElem_cons_zero]
      refine wpAnyH_take (i := 43) (v := .bool false) rfl (by as_aux_lemma => kernel_rfl) (by as_aux_lemma => kernel_rfl) (by as_aux_lemma => kernel_rfl) (fun _ _ _ h => h) (Or.inl ⟨by rfl, ?_⟩) hHeld ?_
      · intro w' hSw; go_simp
      simp only [Act.put, List.setIfInBounds_toArray, List.set_cons_zero, List.set_cons_succ, List.getElem_toArray, List.getElem_cons_succ, List.getElem_cons_zero]
      refine wpAnyH_done (by kernel_rfl) ?_ _
      refine NoPanic.normal ?_
      go_wp2_with fail
      go_ret
      rw [hdf.out]
      exact hEnd.out _ hHeld false
  · have hI1 := Lib.hid (fun (W' : World) => (in41 (w := W') a 0 23).mono (R' := fun e w' => e = .returned (.bool false) ∧ W' = w') (fun e w' he => by
      rw [show (decide (0 ≤ a) && decide (a ≤ 23)) = false from by rw [Bool.eq_false_iff]; intro hc; simp only [Bool.and_eq_true, decide_eq_true_eq] at hc; exact q4 hc] at he; exact he))
    have hib : intB a b = false := by rw [Bool.eq_false_iff]; intro hc; have := intB_iff.1 hc; exact q4 ⟨by omega, by omega⟩
    have hdf := Lib.hid (show d = false by rw [hd'.out, enB, hib]; simp)
    clear hd' hnd hns hov h7 hpw hib q4
    as_aux_lemma =>
    go_upto_region 7 with fail
    refine wp_region_noPanic ?_
    refine wp_region_any (by kernel_rfl) (wpAny_of_held (S := fun w' => Below W.heap.size W w') _ _ _ _ ?_)
    have hHeld : Below W.heap.size W W.drew := (Below.refl _ _).drew
    change wpAnyH _ _ _ _ _ _ _ _ W.drew
    simp only [List.size_toArray, List.length_cons, List.length_nil, Nat.reduceAdd, Array.replicate_succ, Array.replicate_zero, List.push_toArray, List.nil_append, List.cons_append]
    refine wpAnyH_take (i := 0) (v := .pointer (some ⟨w.heap.size + 1, 1, none⟩)) rfl (by as_aux_lemma => kernel_rfl) (by as_aux_lemma => kernel_rfl) (by as_aux_lemma => kernel_rfl) (fun _ _ _ h => h) (Or.inl ⟨by rfl, ?_⟩) hHeld ?_
    · intro w' hSw; go_simp
    simp only [Act.put, List.setIfInBounds_toArray, List.set_cons_zero, List.set_cons_succ, List.getElem_toArray, List.getElem_cons_zero]
    refine wpAnyH_take (i := 1) (v := .int .i64 0) rfl (by as_aux_lemma => kernel_rfl) (by as_aux_lemma => kernel_rfl) (by as_aux_lemma => kernel_rfl) (fun _ _ _ h => h) (Or.inl ⟨by rfl, ?_⟩) hHeld ?_
    · intro w' hSw; have a1 := (hSw.cell (p := ⟨w.heap.size + 1, 1, none⟩) hB1.out).trans m1; go_simp
    simp only [Act.put, List.setIfInBounds_toArray, List.set_cons_zero, List.set_cons_succ, List.getElem_toArray, List.getElem_cons_succ, List.getElem_cons_zero]
    refine wpAnyH_take (i := 2) (v := .bool true) rfl (by as_aux_lemma => kernel_rfl) (by as_aux_lemma => kernel_rfl) (by as_aux_lemma => kernel_rfl) (fun _ _ _ h => h) (Or.inl ⟨by rfl, ?_⟩) hHeld ?_
    · intro w' hSw; go_simp
    simp only [Act.put, List.setIfInBounds_toArray, List.set_cons_zero, List.set_cons_succ, List.getElem_toArray, List.getElem_cons_succ, List.getElem_cons_zero]
    refine wpAnyH_take (i := 3) (v := .bool true) rfl (by as_aux_lemma => kernel_rfl) (by as_aux_lemma => kernel_rfl) (by as_aux_lemma => kernel_rfl) (fun _ _ _ h => h) (Or.inl ⟨by rfl, ?_⟩) hHeld ?_
    · intro w' hSw; go_simp
    simp only [Act.put, List.setIfInBounds_toArray, List.set_cons_zero, List.set_cons_succ, List.getElem_toArray, List.getElem_cons_succ, List.getElem_cons_zero]
    refine wpAnyH_take (i := 4) (v := .pointer (some ⟨w.heap.size + 1, 4, none⟩)) rfl (by as_aux_lemma => kernel_rfl) (by as_aux_lemma => kernel_rfl) (by as_aux_lemma => kernel_rfl) (fun _ _ _ h => h) (Or.inl ⟨by rfl, ?_⟩) hHeld ?_
    · intro w' hSw; go_simp
    simp only [Act.put, List.setIfInBounds_toArray, List.set_cons_zero, List.set_cons_succ, List.getElem_toArray, List.getElem_cons_succ, List.getElem_cons_zero]
    refine wpAnyH_take (i := 5) (v := .int .i64 0) rfl (by as_aux_lemma => kernel_rfl) (by as_aux_lemma => kernel_rfl) (by as_aux_lemma => kernel_rfl) (fun _ _ _ h => h) (Or.inl ⟨by rfl, ?_⟩) hHeld ?_
    · intro w' hSw; have a1 := (hSw.cell (p := ⟨w.heap.size + 1, 4, none⟩) hB1.out).trans m4; go_simp
    simp only [Act.put, List.setIfInBounds_toArray, List.set_cons_zero, List.set_cons_succ, List.getElem_toArray, List.getElem_cons_succ, List.getElem_cons_zero]
    refine wpAnyH_take (i := 6) (v := .bool true) rfl (by as_aux_lemma => kernel_rfl) (by as_aux_lemma => kernel_rfl) (by as_aux_lemma => kernel_rfl) (fun _ _ _ h => h) (Or.inl ⟨by rfl, ?_⟩) hHeld ?_
    · intro w' hSw; go_simp
    simp only [Act.put, List.setIfInBounds_toArray, List.set_cons_zero, List.set_cons_succ, List.getElem_toArray, List.getElem_cons_succ, List.getElem_cons_zero]
    refine wpAnyH_take (i := 7) (v := .bool true) rfl (by as_aux_lemma => kernel_rfl) (by as_aux_lemma => kernel_rfl) (by as_aux_lemma => kernel_rfl) (fun _ _ _ h => h) (Or.inl ⟨by rfl, ?_⟩) hHeld ?_
    · intro w' hSw; go_simp
    simp only [Act.put, List.setIfInBounds_toArray, List.set_cons_zero, List.set_cons_succ, List.getElem_toArray, List.getElem_cons_succ, List.getElem_cons_zero]
    refine wpAnyH_take (i := 8) (v := .bool true) rfl (by as_aux_lemma => kernel_rfl) (by as_aux_lemma => kernel_rfl) (by as_aux_lemma => kernel_rfl) (fun _ _ _ h => h) (Or.inl ⟨by rfl, ?_⟩) hHeld ?_
    · intro w' hSw; go_simp
    simp only [Act.put, List.setIfInBounds_toArray, List.set_cons_zero, List.set_cons_succ, List.getElem_toArray, List.getElem_cons_succ, List.getElem_cons_zero]
    refine wpAnyH_take (i := 9) (v := .pointer (some ⟨w.heap.size + 1, 5, none⟩)) rfl (by as_aux_lemma => kernel_rfl) (by as_aux_lemma => kernel_rfl) (by as_aux_lemma => kernel_rfl) (fun _ _ _ h => h) (Or.inl ⟨by rfl, ?_⟩) hHeld ?_
    · intro w' hSw; go_simp
    simp only [Act.put, List.setIfInBounds_toArray, List.set_cons_zero, List.set_cons_succ, List.getElem_toArray, List.getElem_cons_succ, List.getElem_cons_zero]
    refine wpAnyH_take (i := 10) (v := .int .i64 0) rfl (by as_aux_lemma => kernel_rfl) (by as_aux_lemma => kernel_rfl) (by as_aux_lemma => kernel_rfl) (fun _ _ _ h => h) (Or.inl ⟨by rfl, ?_⟩) hHeld ?_
    · intro w' hSw; have a1 := (hSw.cell (p := ⟨w.heap.size + 1, 5, none⟩) hB1.out).trans m5; go_simp
    simp only [Act.put, List.setIfInBounds_toArray, List.set_cons_zero, List.set_cons_succ, List.getElem_toArray, List.getElem_cons_succ, List.getElem_cons_zero]
    refine wpAnyH_take (i := 11) (v := .bool true) rfl (by as_aux_lemma => kernel_rfl) (by as_aux_lemma => kernel_rfl) (by as_aux_lemma => kernel_rfl) (fun _ _ _ h => h) (Or.inl ⟨by rfl, ?_⟩) hHeld ?_
    · intro w' hSw; go_simp
    simp only [Act.put, List.setIfInBounds_toArray, List.set_cons_zero, List.set_cons_succ, List.getElem_toArray, List.getElem_cons_succ, List.getElem_cons_zero]
    refine wpAnyH_take (i := 12) (v := .bool true) rfl (by as_aux_lemma => kernel_rfl) (by as_aux_lemma => kernel_rfl) (by as_aux_lemma => kernel_rfl) (fun _ _ _ h => h) (Or.inl ⟨by rfl, ?_⟩) hHeld ?_
    · intro w' hSw; go_simp
    simp only [Act.put, List.setIfInBounds_toArray, List.set_cons_zero, List.set_cons_succ, List.getElem_toArray, List.getElem_cons_succ, List.getElem_cons_zero]
    refine wpAnyH_take (i := 13) (v := .bool true) rfl (by as_aux_lemma => kernel_rfl) (by as_aux_lemma => kernel_rfl) (by as_aux_lemma => kernel_rfl) (fun _ _ _ h => h) (Or.inl ⟨by rfl, ?_⟩) hHeld ?_
    · intro w' hSw; go_simp
    simp only [Act.put, List.setIfInBounds_toArray, List.set_cons_zero, List.set_cons_succ, List.getElem_toArray, List.getElem_cons_succ, List.getElem_cons_zero]
    refine wpAnyH_take (i := 14) (v := .pointer (some ⟨w.heap.size + 1, 2, none⟩)) rfl (by as_aux_lemma => kernel_rfl) (by as_aux_lemma => kernel_rfl) (by as_aux_lemma => kernel_rfl) (fun _ _ _ h => h) (Or.inl ⟨by rfl, ?_⟩) hHeld ?_
    · intro w' hSw; go_simp
    simp only [Act.put, List.setIfInBounds_toArray, List.set_cons_zero, List.set_cons_succ, List.getElem_toArray, List.getElem_cons_succ, List.getElem_cons_zero]
    refine wpAnyH_take (i := 15) (v := .int .i64 a) rfl (by as_aux_lemma => kernel_rfl) (by as_aux_lemma => kernel_rfl) (by as_aux_lemma => kernel_rfl) (fun _ _ _ h => h) (Or.inl ⟨by rfl, ?_⟩) hHeld ?_
    · intro w' hSw; have a1 := (hSw.cell (p := ⟨w.heap.size + 1, 2, none⟩) hB1.out).trans m2; go_simp
    simp only [Act.put, List.setIfInBounds_toArray, List.set_cons_zero, List.set_cons_succ, List.getElem_toArray, List.getElem_cons_succ, List.getElem_cons_zero]
    refine wpAnyH_ready (rs := [16]) (by as_aux_lemma => kernel_rfl) (by simp) ?_
    refine AllReadyH.cons rfl (fun K hK => ?_) AllReadyH.nil
    have hsz := hHeld.size
    have hV := Lib.hid (hI1.out W.drew)
    go_simp
    refine hV.out.mono ?_
    rintro e w1 ⟨rfl, rfl⟩
    refine hK.out _ _ hHeld (fun hHeld => ?_)
    clear hK K hV hsz
    simp only [List.setIfInBounds_toArray, List.set_cons_zero, List.set_cons_succ]
    refine wpAnyH_take (i := 17) (v := .bool false) rfl (by as_aux_lemma => kernel_rfl) (by as_aux_lemma => kernel_rfl) (by as_aux_lemma => kernel_rfl) (fun _ _ _ h => h) (Or.inl ⟨by rfl, ?_⟩) hHeld ?_
    · intro w' hSw; go_simp
    simp only [Act.put, List.setIfInBounds_toArray, List.set_cons_zero, List.set_cons_succ, List.getElem_toArray, List.getElem_cons_succ, List.getElem_cons_zero]
    refine wpAnyH_take (i := 18) (v := .bool false) rfl (by as_aux_lemma => kernel_rfl) (by as_aux_lemma => kernel_rfl) (by as_aux_lemma => kernel_rfl) (fun _ _ _ h => h) (Or.inl ⟨by rfl, ?_⟩) hHeld ?_
    · intro w' hSw; go_simp
    simp only [Act.put, List.setIfInBounds_toArray, List.set_cons_zero, List.set_cons_succ, List.getElem_toArray, List.getElem_cons_succ, List.getElem_cons_zero]
    refine wpAnyH_take (i := 19) (v := undef) rfl (by as_aux_lemma => kernel_rfl) (by as_aux_lemma => kernel_rfl) (by as_aux_lemma => kernel_rfl) (fun _ _ _ h => h) (Or.inr ⟨by rfl, rfl⟩) hHeld ?_
    simp only [Act.put, List.setIfInBounds_toArray, List.set_cons_zero, List.set_cons_succ, List.getElem_toArray, List.getElem_cons_succ, List.getElem_cons_zero]
    refine wpAnyH_take (i := 20) (v := undef) rfl (by as_aux_lemma => kernel_rfl) (by as_aux_lemma => kernel_rfl) (by as_aux_lemma => kernel_rfl) (fun _ _ _ h => h) (Or.inr ⟨by rfl, rfl⟩) hHeld ?_
    simp only [Act.put, List.setIfInBounds_toArray, List.set_cons_zero, List.set_cons_succ, List.getElem_toArray, List.getElem_cons_succ, List.getElem_cons_zero]
    refine wpAnyH_take (i := 21) (v := undef) rfl (by as_aux_lemma => kernel_rfl) (by as_aux_lemma => kernel_rfl) (by as_aux_lemma => kernel_rfl) (fun _ _ _ h => h) (Or.inr ⟨by rfl, rfl⟩) hHeld ?_
    simp only [Act.put, List.setIfInBounds_toArray, List.set_cons_zero, List.set_cons_succ, List.getElem_toArray, List.getElem_cons_succ, List.getElem_cons_zero]
    refine wpAnyH_take (i := 22) (v := undef) rfl (by as_aux_lemma => kernel_rfl) (by as_aux_lemma => kernel_rfl) (by as_aux_lemma => kernel_rfl) (fun _ _ _ h => h) (Or.inr ⟨by rfl, rfl⟩) hHeld ?_
    simp only [Act.put, List.setIfInBounds_toArray, List.set_cons_zero, List.set_cons_succ, List.getElem_toArray, List.getElem_cons_succ, List.getElem_cons_zero]
    refine wpAnyH_take (i := 23) (v := undef) rfl (by as_aux_lemma => kernel_rfl) (by as_aux_lemma => kernel_rfl) (by as_aux_lemma => kernel_rfl) (fun _ _ _ h => h) (Or.inr ⟨by rfl, rfl⟩) hHeld ?_
    simp only [Act.put, List.setIfInBounds_toArray, List.set_cons_zero, List.set_cons_succ, List.getElem_toArray, List.getElem_cons_succ, List.getElem_cons_zero]
    refine wpAnyH_take (i := 24) (v := undef) rfl (by as_aux_lemma => kernel_rfl) (by as_aux_lemma => kernel_rfl) (by as_aux_lemma => kernel_rfl) (fun _ _ _ h => h) (Or.inr ⟨by rfl, rfl⟩) hHeld ?_
    simp only [Act.put, List.setIfInBounds_toArray, List.set_cons_zero, List.set_cons_succ, List.getElem_toArray, List.getElem_cons_succ, List.getElem_cons_zero]
    refine wpAnyH_take (i := 25) (v := .bool false) rfl (by as_aux_lemma => kernel_rfl) (by as_aux_lemma => kernel_rfl) (by as_aux_lemma => kernel_rfl) (fun _ _ _ h => h) (Or.inl ⟨by rfl, ?_⟩) hHeld ?_
    · intro w' hSw; go_simp
    simp only [Act.put, List.setIfInBounds_toArray, List.set_cons_zero, List.set_cons_succ, List.getElem_toArray, List.getElem_cons_succ, List.getElem_cons_zero]
    refine wpAnyH_take (i := 26) (v := .bool false) rfl (by as_aux_lemma => kernel_rfl) (by as_aux_lemma => kernel_rfl) (by as_aux_lemma => kernel_rfl) (fun _ _ _ h => h) (Or.inl ⟨by rfl, ?_⟩) hHeld ?_
    · intro w' hSw; go_simp
    simp only [Act.put, List.setIfInBounds_toArray, List.set_cons_zero, List.set_cons_succ, List.getElem_toArray, List.getElem_cons_succ, List.getElem_cons_zero]
    refine wpAnyH_take (i := 27) (v := undef) rfl (by as_aux_lemma => kernel_rfl) (by as_aux_lemma => kernel_rfl) (by as_aux_lemma => kernel_rfl) (fun _ _ _ h => h) (Or.inr ⟨by rfl, rfl⟩) hHeld ?_
    simp only [Act.put, List.setIfInBounds_toArray, List.set_cons_zero, List.set_cons_succ, List.getElem_toArray, List.getElem_cons_succ, List.getElem_cons_zero]
    refine wpAnyH_take (i := 28) (v := undef) rfl (by as_aux_lemma => kernel_rfl) (by as_aux_lemma => kernel_rfl) (by as_aux_lemma => kernel_rfl) (fun _ _ _ h => h) (Or.inr ⟨by rfl, rfl⟩) hHeld ?_
    simp only [Act.put, List.setIfInBounds_toArray, List.set_cons_zero, List.set_cons_succ, List.getElem_toArray, List.getElem_cons_succ, List.getElem_cons_zero]
    refine wpAnyH_take (i := 29) (v := undef) rfl (by as_aux_lemma => kernel_rfl) (by as_aux_lemma => kernel_rfl) (by as_aux_lemma => kernel_rfl) (fun _ _ _ h => h) (Or.inr ⟨by rfl, rfl⟩) hHeld ?_
    simp only [Act.put, List.setIfInBounds_toArray, List.set_cons_zero, List.set_cons_succ, List.getElem_toArray, List.getElem_cons_succ, List.getElem_cons_zero]
    refine wpAnyH_take (i := 30) (v := undef) rfl (by as_aux_lemma => kernel_rfl) (by as_aux_lemma => kernel_rfl) (by as_aux_lemma => kernel_rfl) (fun _ _ _ h => h) (Or.inr ⟨by rfl, rfl⟩) hHeld ?_
    simp only [Act.put, List.setIfInBounds_toArray, List.set_cons_zero, List.set_cons_succ, List.getElem_toArray, List.getElem_cons_succ, List.getElem_cons_zero]
    refine wpAnyH_take (i := 31) (v := undef) rfl (by as_aux_lemma => kernel_rfl) (by as_aux_lemma => kernel_rfl) (by as_aux_lemma => kernel_rfl) (fun _ _ _ h => h) (Or.inr ⟨by rfl, rfl⟩) hHeld ?_
    simp only [Act.put, List.setIfInBounds_toArray, List.set_cons_zero, List.set_cons_succ, List.getElem_toArray, List.getElem_cons_succ, List.getElem_cons_zero]
    refine wpAnyH_take (i := 32) (v := undef) rfl (by as_aux_lemma => kernel_rfl) (by as_aux_lemma => kernel_rfl) (by as_aux_lemma => kernel_rfl) (fun _ _ _ h => h) (Or.inr ⟨by rfl, rfl⟩) hHeld ?_
    simp only [Act.put, List.setIfInBounds_toArray, List.set_cons_zero, List.set_cons_succ, List.getElem_toArray, List.getElem_cons_succ, List.getElem_cons_zero]
    refine wpAnyH_take (i := 33) (v := undef) rfl (by as_aux_lemma => kernel_rfl) (by as_aux_lemma => kernel_rfl) (by as_aux_lemma => kernel_rfl) (fun _ _ _ h => h) (Or.inr ⟨by rfl, rfl⟩) hHeld ?_
    simp only [Act.put, List.setIfInBounds_toArray, List.set_cons_zero, List.set_cons_succ, List.getElem_toArray, List.getElem_cons_succ, List.getElem_cons_zero]
    refine wpAnyH_take (i := 34) (v := undef) rfl (by as_aux_lemma => kernel_rfl) (by as_aux_lemma => kernel_rfl) (by as_aux_lemma => kernel_rfl) (fun _ _ _ h => h) (Or.inr ⟨by rfl, rfl⟩) hHeld ?_
    simp only [Act.put, List.setIfInBounds_toArray, List.set_cons_zero, List.set_cons_succ, List.getElem_toArray, List.getElem_cons_succ, List.getElem_cons_zero]
    refine wpAnyH_take (i := 35) (v := undef) rfl (by as_aux_lemma => kernel_rfl) (by as_aux_lemma => kernel_rfl) (by as_aux_lemma => kernel_rfl) (fun _ _ _ h => h) (Or.inr ⟨by rfl, rfl⟩) hHeld ?_
    simp only [Act.put, List.setIfInBounds_toArray, List.set_cons_zero, List.set_cons_succ, List.getElem_toArray, List.getElem_cons_succ, List.getElem_cons_zero]
    refine wpAnyH_take (i := 36) (v := undef) rfl (by as_aux_lemma => kernel_rfl) (by as_aux_lemma => kernel_rfl) (by as_aux_lemma => kernel_rfl) (fun _ _ _ h => h) (Or.inr ⟨by rfl, rfl⟩) hHeld ?_
    simp only [Act.put, List.setIfInBounds_toArray, List.set_cons_zero, List.set_cons_succ, List.getElem_toArray, List.getElem_cons_succ, List.getElem_cons_zero]
    refine wpAnyH_take (i := 37) (v := undef) rfl (by as_aux_lemma => kernel_rfl) (by as_aux_lemma => kernel_rfl) (by as_aux_lemma => kernel_rfl) (fun _ _ _ h => h) (Or.inr ⟨by rfl, rfl⟩) hHeld ?_
    simp only [Act.put, List.setIfInBounds_toArray, List.set_cons_zero, List.set_cons_succ, List.getElem_toArray, List.getElem_cons_succ, List.getElem_cons_zero]
    refine wpAnyH_take (i := 38) (v := undef) rfl (by as_aux_lemma => kernel_rfl) (by as_aux_lemma => kernel_rfl) (by as_aux_lemma => kernel_rfl) (fun _ _ _ h => h) (Or.inr ⟨by rfl, rfl⟩) hHeld ?_
    simp only [Act.put, List.setIfInBounds_toArray, List.set_cons_zero, List.set_cons_succ, List.getElem_toArray, List.getElem_cons_succ, List.getElem_cons_zero]
    refine wpAnyH_take (i := 39) (v := undef) rfl (by as_aux_lemma => kernel_rfl) (by as_aux_lemma => kernel_rfl) (by as_aux_lemma => kernel_rfl) (fun _ _ _ h => h) (Or.inr ⟨by rfl, rfl⟩) hHeld ?_
    simp only [Act.put, List.setIfInBounds_toArray, List.set_cons_zero, List.set_cons_succ, List.getElem_toArray, List.getElem_cons_succ, List.getElem_cons_zero]
    refine wpAnyH_take (i := 40) (v := undef) rfl (by as_aux_lemma => kernel_rfl) (by as_aux_lemma => kernel_rfl) (by as_aux_lemma => kernel_rfl) (fun _ _ _ h => h) (Or.inr ⟨by rfl, rfl⟩) hHeld ?_
    simp only [Act.put, List.setIfInBounds_toArray, List.set_cons_zero, List.set_cons_succ, List.getElem_toArray, List.getElem_cons_succ, List.getElem_cons_zero]
    refine wpAnyH_take (i := 41) (v := undef) rfl (by as_aux_lemma => kernel_rfl) (by as_aux_lemma => kernel_rfl) (by as_aux_lemma => kernel_rfl) (fun _ _ _ h => h) (Or.inr ⟨by rfl, rfl⟩) hHeld ?_
    simp only [Act.put, List.setIfInBounds_toArray, List.set_cons_zero, List.set_cons_succ, List.getElem_toArray, List.getElem_cons_succ, List.getElem_cons_zero]
    refine wpAnyH_take (i := 42) (v := .bool false) rfl (by as_aux_lemma => kernel_rfl) (by as_aux_lemma => kernel_rfl) (by as_aux_lemma => kernel_rfl) (fun _ _ _ h => h) (Or.inl ⟨by rfl, ?_⟩) hHeld ?_
    · intro w' hSw; go_simp
    simp only [Act.put, List.setIfInBounds_toArray, List.set_cons_zero, List.set_cons_succ, List.getElem_toArray, List.getElem_cons_succ, List.getElem_cons_zero]
    refine wpAnyH_take (i := 43) (v := .bool false) rfl (by as_aux_lemma => kernel_rfl) (by as_aux_lemma => kernel_rfl) (by as_aux_lemma => kernel_rfl) (fun _ _ _ h => h) (Or.inl ⟨by rfl, ?_⟩) hHeld ?_
    · intro w' hSw; go_simp
    simp only [Act.put, List.setIfInBounds_toArray, List.set_cons_zero, List.set_cons_succ, List.getElem_toArray, List.getElem_cons_succ, List.getElem_cons_zero]
    refine wpAnyH_done (by kernel_rfl) ?_ _
    refine NoPanic.normal ?_
    go_wp2_with fail
    go_ret
    rw [hdf.out]
    exact hEnd.out _ hHeld false

set_option maxHeartbeats 8000000 in
set_option maxRecDepth 100000 in
theorem lateNo52 {w : World} {ge i : Nat} {s : Sh} {v pv : Value} {ns : List Nd} {sn : Nat → Bool} (hs : Loose s) (hv : ShF w ge v s) (hp : NdF w ge pv ns) (hS : SnR w ge ns.length sn) (hi : i < ns.length) (hsn : sn i = false) (hk : (ns.getD i N0).k = 3) (hno : (ns.getD i N0).a ≠ 0 ∨ (ns.getD i N0).b ≠ 0 ∨ (ns.getD i N0).l ≠ 0 ∨ (ns.getD i N0).r ≠ 0 ∨ ¬ (0 ≤ (ns.getD i N0).j ∧ (ns.getD i N0).j < s.os.length)) :
    Calls Try.prog 52 #[v, pv, .int .i64 i, .slice (some ⟨ge, 0, none⟩) ns.length ns.length] w (RpEnd w ge ns.length (false, seeN sn i)) := by
  obtain ⟨ja, jc, oa, oc, rfl, rj, ro, fj, fo⟩ := hv
  obtain ⟨⟨pa, pc, rfl, hpc, hpat⟩, hpf⟩ := hp
  obtain ⟨n, hn⟩ : ∃ n, n = ns.length := ⟨_, rfl⟩
  obtain ⟨g, rfl, hg, n0, n1, n2, n3, n4, n5⟩ := hpat i hi
  have hgg : g ≠ ge := hpf g _ _ rfl
  obtain ⟨nj, hnj⟩ : ∃ nj, nj = s.js.length := ⟨_, rfl⟩
  obtain ⟨m, hm⟩ : ∃ m, m = (osI s).length := ⟨_, rfl⟩
  have hgew := hS.hgw
  have hb1 := below_alloc1 w (.cells #[.int .i64 s.P, .slice ja s.js.length jc, .slice oa (osI s).length oc] 25)
  have hS1 := hS.below hb1
  have s0 := hS1.seen i hi
  have f0 := hS1.fg i
  rw [hsn] at s0
  obtain ⟨⟨k, j, a, b, l, r⟩, hx⟩ : ∃ x, x = ns.getD i N0 := ⟨_, rfl⟩
  rw [← hx] at hk hno n0 n1 n2 n3 n4 n5
  try rw [← hx]
  simp only at hk hno n0 n1 n2 n3 n4 n5
  obtain ⟨W2, hW2⟩ : ∃ W2, W2 = (w.setCell ⟨ge, i, none⟩ (.bool true)).alloc (.cells #[.int .i64 s.P, .slice ja s.js.length jc, .slice oa (osI s).length oc] 25) := ⟨_, rfl⟩
  have hK2 : Kq ge w W2 := by rw [hW2]; exact (Kq.set ge i _ _).trans (Kq.of_below (below_alloc1 _ _))
  have hs2 : W2.heap.size = w.heap.size + 1 := by rw [hW2, World.size_alloc, World.size_setCell]
  have y0 := (hK2.cell hg hgg).trans n0
  have y1 := (hK2.cell hg hgg).trans n1
  have y2 := (hK2.cell hg hgg).trans n2
  have y3 := (hK2.cell hg hgg).trans n3
  have y4 := (hK2.cell hg hgg).trans n4
  have y5 := (hK2.cell hg hgg).trans n5
  have hS2 : SnR W2 ge ns.length (seeN sn i) := by rw [hW2]; exact (hS.see hi).below (below_alloc1 _ _)
  have z0 : W2.cell? ⟨w.heap.size, 0, none⟩ = some (.int .i64 s.P) := by rw [hW2, World.cell?_alloc_at (hn := by rw [World.size_setCell])]; rfl
  have z1 : W2.cell? ⟨w.heap.size, 1, none⟩ = some (.slice ja s.js.length jc) := by rw [hW2, World.cell?_alloc_at (hn := by rw [World.size_setCell])]; rfl
  have z2 : W2.cell? ⟨w.heap.size, 2, none⟩ = some (.slice oa (osI s).length oc) := by rw [hW2, World.cell?_alloc_at (hn := by rw [World.size_setCell])]; rfl
  obtain ⟨W, hW⟩ : ∃ W, W = W2.alloc (.cells #[.int .i64 k, .int .i64 j, .int .i64 a, .int .i64 b, .int .i64 l, .int .i64 r] 72) := ⟨_, rfl⟩
  have hbW : Below W2.heap.size W2 W := by rw [hW]; exact below_alloc1 _ _
  obtain ⟨m0, m1, m2, m3, m4, m5⟩ : W.cell? ⟨w.heap.size + 1, 0, none⟩ = some (.int .i64 k) ∧ W.cell? ⟨w.heap.size + 1, 1, none⟩ = some (.int .i64 j) ∧ W.cell? ⟨w.heap.size + 1, 2, none⟩ = some (.int .i64 a) ∧ W.cell? ⟨w.heap.size + 1, 3, none⟩ = some (.int .i64 b) ∧ W.cell? ⟨w.heap.size + 1, 4, none⟩ = some (.int .i64 l) ∧ W.cell? ⟨w.heap.size + 1, 5, none⟩ = some (.int .i64 r) := by
    rw [hW, ← hs2]; exact nd_new W2 _ _ _ _ _ _
  have u0 := (hbW.cell (p := ⟨w.heap.size, 0, none⟩) (by rw [hs2]; simp)).trans z0
  have u1 := (hbW.cell (p := ⟨w.heap.size, 1, none⟩) (by rw [hs2]; simp)).trans z1
  have u2 := (hbW.cell (p := ⟨w.heap.size, 2, none⟩) (by rw [hs2]; simp)).trans z2
  have hKW := hK2.trans (Kq.of_below hbW)
  have hSW := hS2.below hbW
  have hWs : W.heap.size = w.heap.size + 2 := by rw [hW]; simp [hs2]
  have hShW := Lib.hid (show ShV W (.agg #[.int .i64 s.P, .slice ja s.js.length jc, .slice oa (osI s).length oc]) s.P s.js (osI s) from ⟨_, _, rfl, rj.kp fj hKW, ro.kp fo hKW⟩)
  have hEnd := Lib.hid (fun (W' : World) (hb : Below W.heap.size W W') (d : Bool) => (show RpEnd w ge ns.length (d, seeN sn i) (.returned (.bool d)) W' from ⟨rfl, hSW.below hb, hKW.trans (Kq.of_below hb)⟩))
  have hin' : (i : Int) < (n : Int) := by omega
  have hge2 : ¬ (w.heap.size = ge) := by omega
  subst hk
  rw [← osI_len, ← hm] at hno
  have h20 : m ≤ 20 := by rw [hm, osI_len]; exact hs.few
  rw [← hnj, ← hm] at s0 f0 hW2 hShW
  rw [← hnj] at u1
  rw [← hm] at u2
  rw [← hn] at hEnd hi
  rw [← hnj, ← hm, ← hn]
  clear hpat hn hS hS1 hb1 n0 n1 n2 n3 n4 n5 z0 z1 z2 hpf hx hS2 hKW hSW hK2 hbW
  clear rj ro fj fo hs hnj hm hShW
  go_enter Try.func52, Try.ntmps52
  go_upto_region 4 with fail
  rw [← hW2]
  clear hW2 s0 f0
  go_upto_region 5 with fail
  rw [← hW]
  clear hW y0 y1 y2 y3 y4 y5
  clear hge2 hin' hi hsn hgew hg hgg hpc hs2 hWs
  by_cases q1 : a ≠ 0
  · have e1 : (a != 0) = true := by simpa using q1
    clear hno h20
    as_aux_lemma =>
    go_wp2_with fail
    go_ret
    exact hEnd.out _ (Below.refl _ _) false
  have q1 := Decidable.not_not.1 q1
  subst q1
  by_cases q2 : b ≠ 0
  · have e1 : (b != 0) = true := by simpa using q2
    clear hno h20
    as_aux_lemma =>
    go_wp2_with fail
    go_ret
    exact hEnd.out _ (Below.refl _ _) false
  have q2 := Decidable.not_not.1 q2
  subst q2
  by_cases q3 : l ≠ 0
  · have e1 : (l != 0) = true := by simpa using q3
    clear hno h20
    as_aux_lemma =>
    go_wp2_with fail
    go_ret
    exact hEnd.out _ (Below.refl _ _) false
  have q3 := Decidable.not_not.1 q3
  subst q3
  by_cases q4 : r ≠ 0
  · have e1 : (r != 0) = true := by simpa using q4
    clear hno h20
    as_aux_lemma =>
    go_wp2_with fail
    go_ret
    exact hEnd.out _ (Below.refl _ _) false
  have q4 := Decidable.not_not.1 q4
  subst q4
  have hj : ¬ (0 ≤ j ∧ j < (m : Int)) := by rcases hno with h | h | h | h | h <;> first | exact h | exact absurd rfl h
  clear hno
  have sw : IntKind.i64.wrap ((m : Int) - 1) = (m : Int) - 1 := IntWalk.i64_in _ (by omega)
  have hI1 := Lib.hid (fun (W' : World) => (in41 (w := W') j 0 ((m : Int) - 1)).mono (R' := fun e w' => e = .returned (.bool false) ∧ W' = w') (fun e w' he => by
      rw [show (decide (0 ≤ j) && decide (j ≤ (m : Int) - 1)) = false from by rw [Bool.eq_false_iff]; intro hc; simp only [Bool.and_eq_true, decide_eq_true_eq] at hc; exact hj ⟨hc.1, by omega⟩] at he; exact he))
  clear hj h20
  go_wp2_with (go_at_call 41; refine (hI1.out _).mono ?_; rintro e w2 ⟨rfl, rfl⟩)
  go_ret
  exact hEnd.out _ (Below.refl _ _) false

theorem laB_false {s : Sh} {x : Nd} (h : x.a ≠ 0 ∨ x.b ≠ 0 ∨ x.l ≠ 0 ∨ x.r ≠ 0 ∨ ¬ (0 ≤ x.j ∧ x.j < s.os.length)) : laB s x = false := by
  rw [Bool.eq_false_iff]
  intro hc
  unfold laB at hc
  simp only [Bool.and_eq_true, beq_iff_eq, decide_eq_true_eq] at hc
  obtain ⟨h1, h2, h3, h4, h5, h6, _⟩ := hc
  rcases h with h | h | h | h | h
  · exact h h1
  · exact h h2
  · exact h h3
  · exact h h4
  · exact h ⟨h5, h6⟩
theorem laB_true {s : Sh} {x : Nd} (h : x.a = 0 ∧ x.b = 0 ∧ x.l = 0 ∧ x.r = 0 ∧ 0 ≤ x.j ∧ x.j < s.os.length) : laB s x = lateO s x.j.toNat := by
  obtain ⟨h1, h2, h3, h4, h5, h6⟩ := h
  unfold laB
  simp [h1, h2, h3, h4, h5, h6]
/-- The reference's walk over a proof, from any node that is there. -/
theorem node52 {ge : Nat} {pv : Value} {ns : List Nd} (h5 : ns.length ≤ 100000) : ∀ (f i : Nat) (w : World) (s : Sh) (v : Value) (sn : Nat → Bool), Loose s → ShF w ge v s → NdF w ge pv ns → SnR w ge ns.length sn → i < ns.length → ns.length ≤ i + f →
    Calls Try.prog 52 #[v, pv, .int .i64 i, .slice (some ⟨ge, 0, none⟩) ns.length ns.length] w (RpEnd w ge ns.length (rp ns f i s sn)) := by
  intro f
  induction f with
  | zero => intro i w s v sn _ _ _ _ hi hf; omega
  | succ f ih =>
    intro i w s v sn hs hv hp hS hi hf
    cases hsn : sn i with
    | true =>
      rw [rp, if_pos hsn]
      exact seen52 hv hp hS hi hsn
    | false =>
      rw [rp_step hsn]
      simp only
      by_cases h2 : (ns.getD i N0).k = 2
      · rw [if_pos h2]
        exact energy52 hs hv hp hS hi hsn h2
      · rw [if_neg h2]
        by_cases h3 : (ns.getD i N0).k = 3
        · rw [if_pos h3]
          by_cases hy : (ns.getD i N0).a = 0 ∧ (ns.getD i N0).b = 0 ∧ (ns.getD i N0).l = 0 ∧ (ns.getD i N0).r = 0 ∧ 0 ≤ (ns.getD i N0).j ∧ (ns.getD i N0).j < s.os.length
          · rw [laB_true hy]
            exact lateYes52 hs hv hp hS hi hsn h3 hy
          · have hno : (ns.getD i N0).a ≠ 0 ∨ (ns.getD i N0).b ≠ 0 ∨ (ns.getD i N0).l ≠ 0 ∨ (ns.getD i N0).r ≠ 0 ∨ ¬ (0 ≤ (ns.getD i N0).j ∧ (ns.getD i N0).j < s.os.length) := by
              by_cases q1 : (ns.getD i N0).a = 0
              · by_cases q2 : (ns.getD i N0).b = 0
                · by_cases q3 : (ns.getD i N0).l = 0
                  · by_cases q4 : (ns.getD i N0).r = 0
                    · exact .inr (.inr (.inr (.inr fun h => hy ⟨q1, q2, q3, q4, h.1, h.2⟩)))
                    · exact .inr (.inr (.inr (.inl q4)))
                  · exact .inr (.inr (.inl q3))
                · exact .inr (.inl q2)
              · exact .inl q1
            rw [laB_false hno]
            exact lateNo52 hs hv hp hS hi hsn h3 hno
        · rw [if_neg h3]
          by_cases h1 : (ns.getD i N0).k = 1
          · rw [if_pos h1]
            by_cases hb : spB s ns.length i (ns.getD i N0) = true
            · rw [if_pos hb]
              have hb' := hb
              unfold spB inL at hb'
              simp only [Bool.and_eq_true, decide_eq_true_eq, beq_iff_eq] at hb'
              obtain ⟨_, ⟨j0, j1⟩, ⟨l0, l1⟩, ⟨r0, r1⟩, fa, ta⟩ := hb'
              have hJ : (ns.getD i N0).j.toNat < s.n := by omega
              have eL : (((ns.getD i N0).l.toNat : Nat) : Int) = (ns.getD i N0).l := by omega
              have eR : (((ns.getD i N0).r.toNat : Nat) : Int) = (ns.getD i N0).r := by omega
              refine splitYes52 hs hv hp hS hi h5 hsn h1 hb (pL := rp ns f (ns.getD i N0).l.toNat (till s (ns.getD i N0).j.toNat (ns.getD i N0).a) (seeN sn i)) ?_ ?_
              · intro W' v' g1 g2 g3
                have := ih (ns.getD i N0).l.toNat W' _ v' _ (loose_till hs hJ fa (by omega)) g1 g2 g3 (by omega) (by omega)
                rw [eL] at this
                exact this
              · intro _ W' v' g1 g2 g3
                have := ih (ns.getD i N0).r.toNat W' _ v' _ (loose_later hs hJ fa ta) g1 g2 g3 (by omega) (by omega)
                rw [eR] at this
                exact this
            · rw [if_neg hb]
              exact splitNo52 hs hv hp hS hi h5 hsn h1 (by simpa using hb)
          · rw [if_neg h1]
            exact none52 hv hp hS hi hsn ⟨h2, h3, h1⟩

theorem prB_nil (s : Sh) (a b : Nat) : prB s a b [] = false := by
  unfold prB
  rw [pz, if_pos (.inl (by simp))]
  rfl
theorem own_block {w : World} {B e z n g m c : Nat} {v : Value} {xs : List Value} (h : w.ownsRow B e z v n xs) (hv : v = .slice (some ⟨g, 0, none⟩) m c) : g < w.heap.size := by
  subst hv
  rcases h.2 with ⟨h, _⟩ | ⟨g', cap, cur, h, _, hg, _⟩
  · cases h
  · injection h with h; injection h with h; injection h with h _
    subst h
    exact (Array.getElem?_eq_some_iff.1 hg).1
/-- What the reference answers of a proof. -/
theorem refProves31 {w : World} {B : Nat} {jv ov pv : Value} {s : Sh} {ns : List Nd} (hs : Loose s) (hj : OwnJ w B jv s.js) (ho : OwnO w B ov (osI s)) (hp : OwnN w B pv ns) (h5 : ns.length ≤ 20000) :
    Calls Try.prog 31 #[.agg #[.int .i64 s.P, jv, ov], pv] w fun e w' => e = .returned (.bool (prB s s.n s.os.length ns)) ∧ Below w.heap.size w w' := by
  obtain ⟨ja, jc, rfl, hjc, x1⟩ := own_cells hj
  obtain ⟨oa, oc, rfl, hoc, x2⟩ := own_cells ho
  obtain ⟨pa, pc, rfl, hpc, x3⟩ := own_cells hp
  obtain ⟨n, hn⟩ : ∃ n, n = ns.length := ⟨_, rfl⟩
  obtain ⟨nj, hnj⟩ : ∃ nj, nj = s.js.length := ⟨_, rfl⟩
  obtain ⟨m, hm⟩ : ∃ m, m = (osI s).length := ⟨_, rfl⟩
  obtain ⟨W, hW⟩ : ∃ W, W = w.alloc (.cells #[.int .i64 s.P, .slice ja s.js.length jc, .slice oa (osI s).length oc] 25) := ⟨_, rfl⟩
  have hb : Below w.heap.size w W := by rw [hW]; exact below_alloc1 _ _
  have hWs : W.heap.size = w.heap.size + 1 := by rw [hW]; simp
  have c0 : W.cell? ⟨w.heap.size, 0, none⟩ = some (.int .i64 s.P) := by rw [hW, World.cell?_alloc_at (hn := rfl)]; rfl
  have c1 : W.cell? ⟨w.heap.size, 1, none⟩ = some (.slice ja s.js.length jc) := by rw [hW, World.cell?_alloc_at (hn := rfl)]; rfl
  have c2 : W.cell? ⟨w.heap.size, 2, none⟩ = some (.slice oa (osI s).length oc) := by rw [hW, World.cell?_alloc_at (hn := rfl)]; rfl
  have hSh := Lib.hid (fun (V : World) (hV : Below W.heap.size W V) (ge : Nat) (hge : W.heap.size ≤ ge) => (show ShF V ge (.agg #[.int .i64 s.P, .slice ja s.js.length jc, .slice oa (osI s).length oc]) s from
    ⟨ja, jc, oa, oc, rfl, (hj.reads.below hb).below hV, (ho.reads.below hb).below hV, fun g e => by have := own_block hj (by rw [e]); omega, fun g e => by have := own_block ho (by rw [e]); omega⟩))
  have hNd := Lib.hid (fun (V : World) (hV : Below W.heap.size W V) (ge : Nat) (hge : W.heap.size ≤ ge) => (show NdF V ge (.slice pa ns.length pc) ns from
    ⟨(hp.reads.below hb).below hV, fun g k c e => by have := own_block hp e; omega⟩))
  have hKb := Lib.hid (fun (V : World) (hV : Kq W.heap.size W V) => hV.below hb (by omega) (by omega))
  have hs' := Lib.hid hs
  have hn' := Lib.hid hn
  have hbW := Lib.hid (show w.heap.size < W.heap.size by omega)
  rw [← hnj] at c1 hW hSh
  rw [← hm] at c2 hW hSh
  rw [← hn] at hNd h5
  rw [← hnj, ← hm, ← hn]
  clear x1 x2 x3 hj ho hp hs hnj hm hb hWs hn
  by_cases q : n ≠ 0
  · obtain ⟨r, hr⟩ : ∃ r, r = prB s s.n s.os.length ns := ⟨_, rfl⟩
    rw [← hr]
    have h52 := Lib.hid (fun (ge : Nat) (V : World) (v : Value) (h1 : ShF V ge v s) (h2 : NdF V ge (.slice pa n pc) ns) (h3 : SnR V ge n fun _ => false) => (show Calls Try.prog 52 #[v, .slice pa n pc, .int .i64 0, .slice (some ⟨ge, 0, none⟩) n n] V fun e w' => e = .returned (.bool r) ∧ Kq ge V w' from by
      have := node52 (by rw [← hn'.out]; omega) (ns.length + 1) 0 V s v (fun _ => false) hs'.out h1 h2 (by rw [← hn'.out]; exact h3) (by rw [← hn'.out]; omega) (by omega)
      rw [← hn'.out] at this
      refine this.mono ?_
      rintro e w' ⟨he, _, hk⟩
      refine ⟨?_, hk⟩
      rw [he, hr]
      congr 2
      unfold prB
      rw [(rp_pz ns (ns.length + 1) 0 s (fun _ => false) (by rw [← hn'.out]; omega)).1, hn'.out]))
    clear hs' hr hn'
    have hp0 : (0 : Int) < (n : Int) := by omega
    have hpn : 0 < n := by omega
    have hmk := Lib.hid (fun (V : World) => make103 V n (by omega))
    go_enter Try.func31, Try.ntmps31
    go_upto_region 1 with fail
    rw [← hW]
    clear hW
    refine wp_region_noPanic ?_
    refine wp_region_any (by kernel_rfl) (wpAny_of_held (S := fun w' => Kq W.heap.size W w') _ _ _ _ ?_)
    have hHeld : Kq W.heap.size W W.drew := ⟨Nat.le_refl _, fun _ _ _ => rfl, rfl, rfl, rfl⟩
    change wpAnyH _ _ _ _ _ _ _ _ W.drew
    simp only [List.size_toArray, List.length_cons, List.length_nil, Nat.reduceAdd, Array.replicate_succ, Array.replicate_zero, List.push_toArray, List.nil_append, List.cons_append]
    refine wpAnyH_take (i := 0) (v := .slice pa n pc) rfl (by as_aux_lemma => kernel_rfl) (by as_aux_lemma => kernel_rfl) (by as_aux_lemma => kernel_rfl) (fun _ _ _ h => h) (Or.inl ⟨by rfl, ?_⟩) hHeld ?_
    · intro w' hSw; go_simp
    simp only [Act.put, List.setIfInBounds_toArray, List.set_cons_zero, List.set_cons_succ, List.getElem_toArray, List.getElem_cons_zero]
    refine wpAnyH_take (i := 1) (v := .int .i64 n) rfl (by as_aux_lemma => kernel_rfl) (by as_aux_lemma => kernel_rfl) (by as_aux_lemma => kernel_rfl) (fun _ _ _ h => h) (Or.inl ⟨by rfl, ?_⟩) hHeld ?_
    · intro w' hSw; go_simp
    simp only [Act.put, List.setIfInBounds_toArray, List.set_cons_zero, List.set_cons_succ, List.getElem_toArray, List.getElem_cons_succ, List.getElem_cons_zero]
    refine wpAnyH_take (i := 2) (v := .bool true) rfl (by as_aux_lemma => kernel_rfl) (by as_aux_lemma => kernel_rfl) (by as_aux_lemma => kernel_rfl) (fun _ _ _ h => h) (Or.inl ⟨by rfl, ?_⟩) hHeld ?_
    · intro w' hSw; go_simp
    simp only [Act.put, List.setIfInBounds_toArray, List.set_cons_zero, List.set_cons_succ, List.getElem_toArray, List.getElem_cons_succ, List.getElem_cons_zero]
    refine wpAnyH_take (i := 3) (v := .bool true) rfl (by as_aux_lemma => kernel_rfl) (by as_aux_lemma => kernel_rfl) (by as_aux_lemma => kernel_rfl) (fun _ _ _ h => h) (Or.inl ⟨by rfl, ?_⟩) hHeld ?_
    · intro w' hSw; go_simp
    simp only [Act.put, List.setIfInBounds_toArray, List.set_cons_zero, List.set_cons_succ, List.getElem_toArray, List.getElem_cons_succ, List.getElem_cons_zero]
    refine wpAnyH_take (i := 4) (v := .agg #[.int .i64 s.P, .slice ja nj jc, .slice oa m oc]) rfl (by as_aux_lemma => kernel_rfl) (by as_aux_lemma => kernel_rfl) (by as_aux_lemma => kernel_rfl) (fun _ _ _ h => h) (Or.inl ⟨by rfl, ?_⟩) hHeld ?_
    · intro w' hSw; have hbW2 := hbW.out; have a0 := (hSw.cell (k := 0) hbW.out (by omega)).trans c0; have a1 := (hSw.cell (k := 1) hbW.out (by omega)).trans c1; have a2 := (hSw.cell (k := 2) hbW.out (by omega)).trans c2; go_simp
    simp only [Act.put, List.setIfInBounds_toArray, List.set_cons_zero, List.set_cons_succ, List.getElem_toArray, List.getElem_cons_succ, List.getElem_cons_zero]
    refine wpAnyH_take (i := 5) (v := .slice pa n pc) rfl (by as_aux_lemma => kernel_rfl) (by as_aux_lemma => kernel_rfl) (by as_aux_lemma => kernel_rfl) (fun _ _ _ h => h) (Or.inl ⟨by rfl, ?_⟩) hHeld ?_
    · intro w' hSw; go_simp
    simp only [Act.put, List.setIfInBounds_toArray, List.set_cons_zero, List.set_cons_succ, List.getElem_toArray, List.getElem_cons_succ, List.getElem_cons_zero]
    refine wpAnyH_take (i := 6) (v := .slice pa n pc) rfl (by as_aux_lemma => kernel_rfl) (by as_aux_lemma => kernel_rfl) (by as_aux_lemma => kernel_rfl) (fun _ _ _ h => h) (Or.inl ⟨by rfl, ?_⟩) hHeld ?_
    · intro w' hSw; go_simp
    simp only [Act.put, List.setIfInBounds_toArray, List.set_cons_zero, List.set_cons_succ, List.getElem_toArray, List.getElem_cons_succ, List.getElem_cons_zero]
    refine wpAnyH_take (i := 7) (v := .int .i64 n) rfl (by as_aux_lemma => kernel_rfl) (by as_aux_lemma => kernel_rfl) (by as_aux_lemma => kernel_rfl) (fun _ _ _ h => h) (Or.inl ⟨by rfl, ?_⟩) hHeld ?_
    · intro w' hSw; go_simp
    simp only [Act.put, List.setIfInBounds_toArray, List.set_cons_zero, List.set_cons_succ, List.getElem_toArray, List.getElem_cons_succ, List.getElem_cons_zero]
    refine wpAnyH_ready (rs := [8]) (by kernel_rfl) (by simp) ?_
    refine AllReadyH.cons rfl (fun K hK => ?_) AllReadyH.nil
    have hm := hmk.out W.drew
    go_simp
    obtain ⟨V, hV⟩ : ∃ x, x = (W.alloc (.cells (madeCells #[Value.bool false] n) 4)).drew := ⟨_, rfl⟩
    have hbV : Below W.heap.size W V := by rw [hV]; exact (below_alloc1 _ _).drew
    have hSn : SnR V W.heap.size n (fun _ => false) := by rw [hV]; exact ⟨by simp, fun i hi => madeB_new W n i hi, fun j => alloc_fz _ _ _ _⟩
    rw [← hV]
    refine hK.out _ _ (Kq.of_below hbV) (fun hHeld => ?_)
    clear hK K hm
    simp only [List.setIfInBounds_toArray, List.set_cons_zero, List.set_cons_succ]
    have hc := Lib.hid (h52.out W.heap.size V _ (hSh.out V hbV _ (Nat.le_refl _)) (hNd.out V hbV _ (Nat.le_refl _)) hSn)
    clear hV hSn h52 hSh hNd
    have hbV' := Lib.hid hbV
    clear hbV
    refine wpAnyH_ready (rs := [9]) (by kernel_rfl) (by simp) ?_
    refine AllReadyH.cons rfl (fun K hK => ?_) AllReadyH.nil
    go_simp
    refine hc.out.mono ?_
    rintro e w2 ⟨rfl, hk2⟩
    refine hK.out _ _ (Kq.trans (Kq.of_below hbV'.out) hk2) (fun hHeld => ?_)
    clear hK K hc hk2
    simp only [List.setIfInBounds_toArray, List.set_cons_zero, List.set_cons_succ]
    refine wpAnyH_take (i := 10) (v := .bool r) rfl (by as_aux_lemma => kernel_rfl) (by as_aux_lemma => kernel_rfl) (by as_aux_lemma => kernel_rfl) (fun _ _ _ h => h) (Or.inl ⟨by rfl, ?_⟩) hHeld ?_
    · intro w' hSw; go_simp
    simp only [Act.put, List.setIfInBounds_toArray, List.set_cons_zero, List.set_cons_succ, List.getElem_toArray, List.getElem_cons_succ, List.getElem_cons_zero]
    refine wpAnyH_take (i := 11) (v := .bool r) rfl (by as_aux_lemma => kernel_rfl) (by as_aux_lemma => kernel_rfl) (by as_aux_lemma => kernel_rfl) (fun _ _ _ h => h) (Or.inl ⟨by rfl, ?_⟩) hHeld ?_
    · intro w' hSw; go_simp
    simp only [Act.put, List.setIfInBounds_toArray, List.set_cons_zero, List.set_cons_succ, List.getElem_toArray, List.getElem_cons_succ, List.getElem_cons_zero]
    refine wpAnyH_done (by kernel_rfl) ?_ _
    refine NoPanic.normal ?_
    go_wp2_with fail
    go_ret
    exact ⟨rfl, hKb.out _ hHeld⟩
  · have q := Decidable.not_not.1 q
    subst q
    have hns : ns = [] := List.length_eq_zero_iff.1 hn'.out.symm
    have hpr : prB s s.n s.os.length ns = false := by rw [hns]; exact prB_nil _ _ _
    rw [hpr]
    have hfin := Lib.hid (fun (k : Nat) => below_drewN (hKb.out W (Kq.refl _ _)) k)
    clear hSh hNd hKb hs' hn' hpr hns
    go_enter Try.func31, Try.ntmps31
    go_upto_region 1 with fail
    rw [← hW]
    clear hW
    go_quiet (fail)
    go_wp2_with fail
    go_ret
    exact ⟨rfl, hfin.out _⟩

theorem one_nodes (ns : List Nd) : ∀ u ∈ flat encN ns, u.oneCell' = true := fun u hu => by
  unfold flat at hu
  obtain ⟨x, _, hx⟩ := List.mem_flatMap.1 hu
  simp only [encN, List.mem_cons, List.not_mem_nil, or_false] at hx
  rcases hx with rfl | rfl | rfl | rfl | rfl | rfl <;> rfl
/-- The two copies that a law over nodes begins with. -/
def Cut1N (w : World) (P : Int) (js : List J) (os : List (Int × Int)) (ns : List Nd) (p q : Value) (wx : World) : Prop :=
  ∃ b ja jc oa oc, p = .pointer (some ⟨b, 0, none⟩) ∧ w.heap.size ≤ b ∧ Three wx b (.int .i64 P) (.slice ja (js.take 7).length jc) (.slice oa (os.take 21).length oc) ∧ b < wx.heap.size ∧ OwnJ wx w.heap.size (.slice ja (js.take 7).length jc) (js.take 7) ∧ OwnO wx w.heap.size (.slice oa (os.take 21).length oc) (os.take 21) ∧ OwnN wx w.heap.size q (ns.take 20001) ∧ Below w.heap.size w wx
theorem cut1N_end {w W wk : World} {B0 gt q jn jc on oc : Nat} {ja oa : Option Addr} {lv z0 z1 z2 : Value} {P : Int} {js : List J} {os : List (Int × Int)} {ns : List Nd} (hW : Below w.heap.size w W) (hb : w.heap.size ≤ B0) (hH : Below B0 W wk) (hgt : B0 ≤ gt) (hql : (ns.take 20001).length = q)
    (fJ : OwnJ wk B0 (.slice ja jn jc) (js.take 7)) (fO : OwnO wk B0 (.slice oa on oc) (os.take 21)) (fI : wk.ownsRow B0 72 6 lv q (flat encN (ns.take 20001))) (fT : wk.ownsRow B0 25 3 (.slice (some ⟨gt, 0, none⟩) 1 1) 1 [z0, z1, z2]) :
    Cut1N w P js os ns (.pointer (some ⟨gt, 0, none⟩)) lv (wk.setCells gt 0 [.int .i64 P, .slice ja jn jc, .slice oa on oc]) ∧ Below B0 W (wk.setCells gt 0 [.int .i64 P, .slice ja jn jc, .slice oa on oc]) := by
  obtain rfl : jn = (js.take 7).length := by obtain ⟨_, _, e, _⟩ := own_cells fJ; injection e
  obtain rfl : on = (os.take 21).length := by obtain ⟨_, _, e, _⟩ := own_cells fO; injection e
  have hB : Below B0 W (wk.setCells gt 0 [.int .i64 P, .slice ja (js.take 7).length jc, .slice oa (os.take 21).length oc]) := below_setC hgt _ _ _ hH
  have t1 := (fT.stored 0 (.int .i64 P)).1
  have t2 := (t1.stored 1 (.slice ja (js.take 7).length jc)).1
  have t3 := (t2.stored 2 (.slice oa (os.take 21).length oc)).1
  have lift : ∀ {B2 e2 z2' n2 : Nat} {u : Value} {ys : List Value}, wk.ownsRow B2 e2 z2' u n2 ys → e2 ≠ 25 → (wk.setCells gt 0 [.int .i64 P, .slice ja (js.take 7).length jc, .slice oa (os.take 21).length oc]).ownsRow B2 e2 z2' u n2 ys := fun h hne =>
    own_set_other t2 (own_set_other t1 (own_set_other fT h hne 0 _) hne 1 _) hne 2 _
  have t3' : (wk.setCells gt 0 [.int .i64 P, .slice ja (js.take 7).length jc, .slice oa (os.take 21).length oc]).ownsRow B0 25 3 (.slice (some ⟨gt, 0, none⟩) 1 1) 1 [.int .i64 P, .slice ja (js.take 7).length jc, .slice oa (os.take 21).length oc] := t3
  refine ⟨⟨gt, ja, jc, oa, oc, rfl, Nat.le_trans hb hgt, ⟨⟨?_, ?_, ?_⟩, fun j => t3'.frozenAt j⟩, (World.ownsRow.lt t3' gt rfl).2, own_base (lift fJ (by decide)) hb, own_base (lift fO (by decide)) hb, ?_, hW.trans (hB.mono hb)⟩, hB⟩
  · rw [t3'.cellAt 0 (by decide)]; rfl
  · rw [t3'.cellAt 1 (by decide)]; rfl
  · rw [t3'.cellAt 2 (by decide)]; rfl
  · unfold OwnN
    rw [hql]
    exact own_base (lift fI (by decide)) hb
theorem proves32' {w : World} {v pv : Value} {P : Int} {js : List J} {os : List (Int × Int)} {ns : List Nd} (h : ShV w v P js os) (h7 : js.length ≤ 7) (h21 : os.length ≤ 21) (hp : ReadsNd w pv ns) {d : Bool} {err : Int} (hd : provesB P js os ns = d) (he : provesE P js os ns = err) :
    Calls Try.prog 32 #[v, pv] w fun e w' => e = .returned (.tuple #[.bool d, .int .i64 err]) ∧ Below w.heap.size w w' := by subst hd he; exact proves32 h h7 h21 hp
theorem refProves31' {w : World} {B nj m n jc oc pc : Nat} {ja oa pa : Option Addr} {P : Int} {js : List J} {os : List (Int × Int)} {ns : List Nd} (hv : validB P js os = true) (hj : OwnJ w B (.slice ja nj jc) js) (ho : OwnO w B (.slice oa m oc) os) (hp : OwnN w B (.slice pa n pc) ns) (h5 : ns.length ≤ 20000) {d : Bool} (hd : prB (shOf P js os) js.length os.length ns = d) :
    Calls Try.prog 31 #[.agg #[.int .i64 P, .slice ja nj jc, .slice oa m oc], .slice pa n pc] w fun e w' => e = .returned (.bool d) ∧ Below w.heap.size w w' := by
  have hval := valid_sh hv
  have hol : (shOf P js os).os.length = os.length := by
    have := congrArg List.length hval.2
    unfold osI at this
    rw [List.length_map] at this
    exact this
  have := refProves31 (s := shOf P js os) hval.1.loose hj (by rw [hval.2]; exact ho) hp h5
  rw [hol] at this
  subst hd
  exact this
set_option maxHeartbeats 8000000 in
set_option maxRecDepth 100000 in
theorem walk7 {w : World} {v u : Value} {P : Int} {js : List J} {os : List (Int × Int)} {ns : List Nd} (h : InSh w v P js os) (hx : InNd w u ns) :
    Calls Try.prog 7 #[v, u] w fun e w' => e = .returned (.bool true) ∧ Below w.heap.size w w' := by
  have hfw := fun (W : World) (hb : Below w.heap.size w W) => few15 (w := W) (v := v) (P := P) (js := js) (os := os) (by
    obtain ⟨jv, ov, e, h1, h2, h3, h4⟩ := h
    exact ⟨jv, ov, e, h1.below hb, h2.below hb, h3, h4⟩)
  obtain ⟨jv, ov, rfl, hj, ho, hjm, hom⟩ := h
  obtain ⟨ja, jn, jc, rfl⟩ : ∃ a n c, jv = .slice a n c := by obtain ⟨_, a, c, e, _⟩ := hj; exact ⟨_, _, _, e⟩
  obtain ⟨oa, om, oc, rfl⟩ : ∃ a n c, ov = .slice a n c := by obtain ⟨_, a, c, e, _⟩ := ho; exact ⟨_, _, _, e⟩
  have hxf := hx.1
  have hxm := hx.2
  unfold maxLen at hxm
  obtain ⟨n, hn⟩ : ∃ n, n = ns.length := ⟨_, rfl⟩
  rw [← hn] at hxf hxm
  obtain ⟨xa, xc, rfl, hxc⟩ : ∃ a c, u = .slice a n c ∧ n ≤ c := by obtain ⟨_, a, c, e, h, _⟩ := hxf; exact ⟨a, c, e, h⟩
  obtain ⟨q, hq⟩ : ∃ q, q = min n 20001 := ⟨_, rfl⟩
  have hxt := Lib.hid (hxf.take (m := q) (by omega))
  rw [← flat_take encN_len, show ns.take q = ns.take 20001 by rw [hq, hn, List.take_eq_take_min (i := 20001), Nat.min_comm]] at hxt
  have hql := Lib.hid (show (ns.take 20001).length = q by rw [List.length_take, hq, hn]; exact Nat.min_comm _ _)
  have hq7 : (if (20001 : Int) < (n : Int) then 20001 else (n : Int)) = (q : Int) := by split <;> omega
  have hq7' : min (n : Int) 20001 = (q : Int) := by omega
  have hqc : (q : Int) ≤ (xc : Int) := by omega
  have hqn : q ≤ 20001 := by omega
  have hn' := Lib.hid hn
  obtain ⟨iI, hiI, hI0, hI1, hI2⟩ := info_parts info72
  have hone := Lib.hid (one_nodes (ns.take 20001))
  have hfw' := Lib.hid hfw
  clear hj ho hjm hom hx hxf hfw hn hq
  go_enter Try.func7, Try.ntmps7
  go_wp2_with fail
  obtain ⟨W, hW⟩ : ∃ W, W = w.alloc (Obj.cells #[Value.int IntKind.i64 P, Value.slice ja jn jc, Value.slice oa om oc] 25) := ⟨_, rfl⟩
  rw [← hW]
  have c0 : W.cell? ⟨w.heap.size, 0, none⟩ = some (.int .i64 P) := by rw [hW]; rw [World.cell?_alloc_at (hn := rfl)]; rfl
  have c1 : W.cell? ⟨w.heap.size, 1, none⟩ = some (.slice ja jn jc) := by rw [hW]; rw [World.cell?_alloc_at (hn := rfl)]; rfl
  have c2 : W.cell? ⟨w.heap.size, 2, none⟩ = some (.slice oa om oc) := by rw [hW]; rw [World.cell?_alloc_at (hn := rfl)]; rfl
  have hWb : Below w.heap.size w W := by rw [hW]; exact below_alloc1 _ _
  have hWs : W.heap.size = w.heap.size + 1 := by rw [hW]; simp
  obtain ⟨b1, hb1⟩ : ∃ b1, b1 = w.heap.size := ⟨_, rfl⟩
  rw [← hb1] at c0 c1 c2 hWs ⊢
  obtain ⟨B0, hB0⟩ : ∃ B0, B0 = W.heap.size := ⟨_, rfl⟩
  have hsW : B0 ≤ W.heap.size := Nat.le_of_eq hB0
  have hb12 : b1 < B0 := by omega
  have hbB := Lib.hid (show w.heap.size ≤ B0 by omega)
  have hfew := Lib.hid (fun (V : World) (hb : Below B0 W V) => hfw'.out V (hWb.trans (hb.mono hbB.out)))
  have hxs := Lib.hid (fun (V : World) (hb : Below B0 W V) => hxt.out.below (hWb.trans (hb.mono hbB.out)))
  have hb1' := Lib.hid hb1
  have hWb' := Lib.hid hWb
  have hB0' := Lib.hid hB0
  clear hW hWb hb1 hWs hB0
  go_cut [5, 6] from 10 to 18 (fun p q wx => ∃ w4 : World, w4 = wx ∧ Cut1N w P js os ns p q w4)
  case rest =>
    obtain ⟨w4, rfl, b, ja', jc', oa', oc', rfl, hb, hT, hbw, oj, oo, oN, hbe⟩ := hcut
    obtain ⟨js', hjs⟩ : ∃ x, x = js.take 7 := ⟨_, rfl⟩
    obtain ⟨os', hos⟩ : ∃ x, x = os.take 21 := ⟨_, rfl⟩
    obtain ⟨ns', hns⟩ : ∃ x, x = ns.take 20001 := ⟨_, rfl⟩
    rw [← hjs] at hT oj
    rw [← hos] at hT oo
    rw [← hns] at oN
    have h7 := Lib.hid (show js'.length ≤ 7 by rw [hjs, List.length_take]; omega)
    have h21 := Lib.hid (show os'.length ≤ 21 by rw [hos, List.length_take]; omega)
    have hn20 : ns'.length ≤ 20001 := by rw [hns, List.length_take]; omega
    have hsh := Lib.hid (fun (W : World) (hb : Below w4.heap.size w4 W) => (show ShV W (.agg #[.int .i64 P, .slice ja' js'.length jc', .slice oa' os'.length oc']) P js' os' from ⟨_, _, rfl, oj.reads.below hb, oo.reads.below hb⟩))
    obtain ⟨pa, pc, rfl, hpc, _⟩ := own_cells oN
    have hnd := Lib.hid (fun (W : World) (hb : Below w4.heap.size w4 W) => (show ReadsNd W (.slice pa ns'.length pc) ns' from oN.reads.below hb))
    have hoj := Lib.hid (fun (W : World) (hb : Below w4.heap.size w4 W) => oj.below hb)
    have hoo := Lib.hid (fun (W : World) (hb : Below w4.heap.size w4 W) => own_below oo hb)
    have hoN := Lib.hid (fun (W : World) (hb : Below w4.heap.size w4 W) => own_below oN hb)
    obtain ⟨jl, hjl⟩ : ∃ x, x = js'.length := ⟨_, rfl⟩
    obtain ⟨ol, hol⟩ : ∃ x, x = os'.length := ⟨_, rfl⟩
    obtain ⟨nl, hnl⟩ : ∃ x, x = ns'.length := ⟨_, rfl⟩
    rw [← hjl] at hT hsh
    rw [← hol] at hT hsh
    rw [← hnl] at hnd hn20 ⊢
    have hT' := Lib.hid hT
    have hbw' := Lib.hid hbw
    have hbe' := Lib.hid hbe
    have hjl' := Lib.hid hjl
    have hol' := Lib.hid hol
    have hnl' := Lib.hid hnl
    obtain ⟨⟨z0, z1, z2⟩, -⟩ := hT
    clear hjs hos hns hbe hjl hol hnl oj oo oN hb hpc
    cases hv : validB P js' os' with
    | false =>
      have hL := Lib.hid (proves32' (hsh.out w4 (Below.refl _ _)) h7.out h21.out (hnd.out w4 (Below.refl _ _)) (d := false) (err := 1) (by unfold provesB; rw [hv]; rfl) (by unfold provesE; rw [hv]; rfl))
      have hV := Lib.hid (fun (W : World) (hb : Below w4.heap.size w4 W) => valid17' (hsh.out W hb) h7.out h21.out hv)
      clear hv hbw hoj hoo hoN
      go_wp2_with (
        first
        | (go_at_call 32; refine (hL.out).mono ?_; rintro e w5 ⟨rfl, hb5⟩
           have hb5' := Lib.hid hb5
           have hbe5 := Lib.hid (below_call hbe'.out hb5)
           obtain ⟨⟨y0, y1, y2⟩, -⟩ := hT'.out.keep hb5 hbw'.out
           have hV5 := Lib.hid (hV.out _ hb5)
           clear hb5)
        | (go_at_call 17; refine (hV5.out).mono ?_; rintro e w6 ⟨rfl, hb6⟩
           have hb6' := Lib.hid (below_call hbe5.out hb6)
           have hbx := Lib.hid (below_call hb5'.out hb6)
           obtain ⟨⟨y0, y1, y2⟩, -⟩ := hT'.out.keep hbx.out hbw'.out
           have hl6 := Lib.hid (lives18 (w := w6))
           clear hb6)
        | (go_at_call 18; refine (hl6.out).mono ?_; rintro e w7 ⟨rfl, hb7⟩; have hb7' := Lib.hid (below_call hb6'.out hb7); clear hb7))
      go_ret
      exact ⟨rfl, hb7'.out⟩
    | true =>
      have hV := Lib.hid (fun (W : World) (hb : Below w4.heap.size w4 W) => valid17' (hsh.out W hb) h7.out h21.out hv)
      by_cases hq : nl ≤ 20000
      · obtain ⟨d0, hd⟩ : ∃ d0, d0 = prB (shOf P js' os') js'.length os'.length ns' := ⟨_, rfl⟩
        have hL := Lib.hid (proves32' (hsh.out w4 (Below.refl _ _)) h7.out h21.out (hnd.out w4 (Below.refl _ _)) (d := d0) (err := 0) (by unfold provesB; rw [hv, ← hd, ← hnl'.out]; simp [hq]) (by unfold provesE; rw [hv, ← hnl'.out]; rw [if_pos rfl, if_neg (by omega)]))
        have hrfF := Lib.hid (fun (W : World) (hb : Below w4.heap.size w4 W) => (show Calls Try.prog 31 #[.agg #[.int .i64 P, .slice ja' jl jc', .slice oa' ol oc'], .slice pa nl pc] W fun e w' => e = .returned (.bool d0) ∧ Below W.heap.size W w' from refProves31' (w := W) (B := w.heap.size) hv (by rw [hjl'.out]; exact hoj.out W hb) (by rw [hol'.out]; exact hoo.out W hb) (by rw [hnl'.out]; exact hoN.out W hb) (by rw [← hnl'.out]; exact hq) hd.symm))
        have hng : ¬ ((20000 : Int) < (nl : Int)) := by omega
        have hng2 : decide ((20000 : Int) < (nl : Int)) = false := by simpa using hng
        have hq' := Lib.hid hq
        clear hv hbw hd hq hng hoj hoo hoN
        cases d0
        all_goals
          go_wp2_with (
            first
            | (go_at_call 32; refine (hL.out).mono ?_; rintro e w5 ⟨rfl, hb5⟩
               have hb5' := Lib.hid hb5
               have hbe5 := Lib.hid (below_call hbe'.out hb5)
               obtain ⟨⟨y0, y1, y2⟩, -⟩ := hT'.out.keep hb5 hbw'.out
               have hV5 := Lib.hid (hV.out _ hb5)
               clear hb5)
            | (go_at_call 17; refine (hV5.out).mono ?_; rintro e w6 ⟨rfl, hb6⟩
               have hb6' := Lib.hid (below_call hbe5.out hb6)
               have hbx := Lib.hid (below_call hb5'.out hb6)
               obtain ⟨⟨y0, y1, y2⟩, -⟩ := hT'.out.keep hbx.out hbw'.out
               have hl6 := Lib.hid (lives18 (w := w6))
               have hrf := Lib.hid (hrfF.out _ hbx.out)
               clear hb6)
            | (go_at_call 31; refine (hrf.out).mono ?_; rintro e w7 ⟨rfl, hb7⟩; have hb7' := Lib.hid (below_call hb6'.out hb7); have hl7 := Lib.hid (lives18 (w := w7)); clear hb7)
            | (go_at_call 18; refine (hl7.out).mono ?_; rintro e w8 ⟨rfl, hb8⟩; have hb8' := Lib.hid (below_call hb7'.out hb8); clear hb8))
          go_ret
          exact ⟨rfl, hb8'.out⟩
      · have hL := Lib.hid (proves32' (hsh.out w4 (Below.refl _ _)) h7.out h21.out (hnd.out w4 (Below.refl _ _)) (d := false) (err := 3) (by unfold provesB; rw [hv, ← hnl'.out]; simp [hq]) (by unfold provesE; rw [hv, ← hnl'.out]; rw [if_pos rfl, if_pos (by omega)]))
        have hng : (20000 : Int) < (nl : Int) := by omega
        have hng2 : decide ((20000 : Int) < (nl : Int)) = true := by simpa using hng
        have hq' := Lib.hid hq
        clear hv hbw hq hng hoj hoo hoN
        go_wp2_with (
          first
          | (go_at_call 32; refine (hL.out).mono ?_; rintro e w5 ⟨rfl, hb5⟩
             have hb5' := Lib.hid hb5
             have hbe5 := Lib.hid (below_call hbe'.out hb5)
             obtain ⟨⟨y0, y1, y2⟩, -⟩ := hT'.out.keep hb5 hbw'.out
             have hV5 := Lib.hid (hV.out _ hb5)
             clear hb5)
          | (go_at_call 17; refine (hV5.out).mono ?_; rintro e w6 ⟨rfl, hb6⟩
             have hb6' := Lib.hid (below_call hbe5.out hb6)
             have hbx := Lib.hid (below_call hb5'.out hb6)
             obtain ⟨⟨y0, y1, y2⟩, -⟩ := hT'.out.keep hbx.out hbw'.out
             have hl6 := Lib.hid (lives18 (w := w6))
             clear hb6)
          | (go_at_call 18; refine (hl6.out).mono ?_; rintro e w7 ⟨rfl, hb7⟩; have hb7' := Lib.hid (below_call hb6'.out hb7); clear hb7))
        go_ret
        exact ⟨rfl, hb7'.out⟩
  case first =>
    refine wp_region_noPanic ?_
    refine wp_region_any (by kernel_rfl) (wpAny_of_held (S := fun w' => Below B0 W w') _ _ _ _ ?_)
    have hHeld : Below B0 W W.drew := (Below.refl _ _).drew
    change wpAnyH _ _ _ _ _ _ _ _ W.drew
    simp only [List.size_toArray, List.length_cons, List.length_nil, Nat.reduceAdd, Array.replicate_succ, Array.replicate_zero, List.push_toArray, List.nil_append, List.cons_append]
    refine wpAnyH_take (i := 0) (v := .agg #[.int .i64 P, .slice ja jn jc, .slice oa om oc]) rfl (by kernel_rfl) (by kernel_rfl) (by kernel_rfl) (fun _ _ _ h => h) (Or.inl ⟨by rfl, ?_⟩) hHeld ?_
    · intro w' hSw; have a0 := (hSw.cell (p := ⟨b1, 0, none⟩) hb12).trans c0; have a1 := (hSw.cell (p := ⟨b1, 1, none⟩) hb12).trans c1; have a2 := (hSw.cell (p := ⟨b1, 2, none⟩) hb12).trans c2; go_simp
    simp only [Act.put, List.setIfInBounds_toArray, List.set_cons_zero, List.set_cons_succ, List.getElem_toArray, List.getElem_cons_zero]
    refine wpAnyH_take (i := 3) (v := .slice xa n xc) rfl (by kernel_rfl) (by kernel_rfl) (by kernel_rfl) (fun _ _ _ h => h) (Or.inl ⟨by rfl, ?_⟩) hHeld ?_
    · intro w' hSw; go_simp
    simp only [Act.put, List.setIfInBounds_toArray, List.set_cons_zero, List.set_cons_succ, List.getElem_toArray, List.getElem_cons_succ, List.getElem_cons_zero]
    refine wpAnyH_take (i := 4) (v := .slice xa n xc) rfl (by kernel_rfl) (by kernel_rfl) (by kernel_rfl) (fun _ _ _ h => h) (Or.inl ⟨by rfl, ?_⟩) hHeld ?_
    · intro w' hSw; go_simp
    simp only [Act.put, List.setIfInBounds_toArray, List.set_cons_zero, List.set_cons_succ, List.getElem_toArray, List.getElem_cons_succ, List.getElem_cons_zero]
    refine wpAnyH_take (i := 5) (v := .int .i64 n) rfl (by kernel_rfl) (by kernel_rfl) (by kernel_rfl) (fun _ _ _ h => h) (Or.inl ⟨by rfl, ?_⟩) hHeld ?_
    · intro w' hSw; go_simp
    simp only [Act.put, List.setIfInBounds_toArray, List.set_cons_zero, List.set_cons_succ, List.getElem_toArray, List.getElem_cons_succ, List.getElem_cons_zero]
    refine wpAnyH_take (i := 6) (v := .int .i64 q) rfl (by kernel_rfl) (by kernel_rfl) (by kernel_rfl) (fun _ _ _ h => h) (Or.inl ⟨by rfl, ?_⟩) hHeld ?_
    · intro w' hSw; go_simp
    simp only [Act.put, List.setIfInBounds_toArray, List.set_cons_zero, List.set_cons_succ, List.getElem_toArray, List.getElem_cons_succ, List.getElem_cons_zero]
    refine wpAnyH_take (i := 7) (v := .slice xa q xc) rfl (by kernel_rfl) (by kernel_rfl) (by kernel_rfl) (fun _ _ _ h => h) (Or.inl ⟨by rfl, ?_⟩) hHeld ?_
    · intro w' hSw; go_simp
    simp only [Act.put, List.setIfInBounds_toArray, List.set_cons_zero, List.set_cons_succ, List.getElem_toArray, List.getElem_cons_succ, List.getElem_cons_zero]
    refine wpAnyH_ready (rs := [1, 2, 9]) (by kernel_rfl) (by simp) ?_
    refine AllReadyH.cons rfl (fun K hK => ?_) (AllReadyH.cons rfl (fun K hK => ?_) (AllReadyH.cons rfl (fun K hK => ?_) AllReadyH.nil))
    · have hV := Lib.hid (hfew.out W.drew (Below.refl _ _).drew)
      go_simp
      refine hV.out.mono ?_
      rintro e w1 ⟨jvw1, ovw1, rfl, oj, oo, hbc⟩
      have halw1 : Below B0 W w1 := ((Below.refl _ _).drew).trans (hbc.mono hsW)
      have fJw1 := own_base oj (show B0 ≤ _ from hsW)
      have fOw1 := own_base oo (show B0 ≤ _ from hsW)
      refine hK.out _ _ halw1 (fun hHeld => ?_)
      clear hK K halw1 oj oo hbc hV
      simp only [List.setIfInBounds_toArray, List.set_cons_zero, List.set_cons_succ]
      have hsw1 : B0 ≤ w1.heap.size := Nat.le_trans hsW hHeld.size
      refine wpAnyH_ready (rs := [2, 9]) (by kernel_rfl) (by simp) ?_
      refine AllReadyH.cons rfl (fun K hK => ?_) (AllReadyH.cons rfl (fun K hK => ?_) AllReadyH.nil)
      · have halw2 : Below B0 W (w1.alloc (.cells #[] 72)) := ((hHeld).alloc hsw1 _)
        have fIw2 := lit_own w1 B0 w1.heap.size 6 72 hsw1 rfl
        have fJw2 := own_alloc fJw1 (.cells #[] 72)
        have fOw2 := own_alloc fOw1 (.cells #[] 72)
        go_simp
        refine hK.out _ _ halw2 (fun hHeld => ?_)
        clear hK K halw2
        simp only [List.setIfInBounds_toArray, List.set_cons_zero, List.set_cons_succ]
        change Below B0 W (w1.alloc (.cells #[] 72)) at hHeld
        change wpAnyH _ _ _ _ _ _ _ _ (w1.alloc (.cells #[] 72))
        obtain ⟨w2, hqw2⟩ : ∃ x, x = w1.alloc (.cells #[] 72) := ⟨_, rfl⟩
        rw [← hqw2] at hHeld fIw2 fJw2 fOw2 ⊢
        clear hqw2
        obtain ⟨g3, hqg3⟩ : ∃ x, x = w1.heap.size := ⟨_, rfl⟩
        rw [← hqg3] at fIw2 ⊢
        clear hqg3
        have hsw2 : B0 ≤ w2.heap.size := Nat.le_trans hsW hHeld.size
        refine wpAnyH_ready (rs := [8, 9]) (by kernel_rfl) (by simp) ?_
        refine AllReadyH.cons rfl (fun K hK => ?_) (AllReadyH.cons rfl (fun K hK => ?_) AllReadyH.nil)
        · refine step_flat Try.underlying52 hiI hI0 hI1 hI2 rfl (by decide) (by decide) rfl (.tmp 12) (.tmp 17) rfl fIw2 (by simp [Act.eval]) (by simp [Act.eval]) (hxs.out w2 hHeld) hone.out (by omega) hsw2 ?_
          intro lv5 w4 fIw4 hbq hkp
          simp only [Nat.zero_add, List.nil_append] at fIw4
          have fJw4 := hkp _ _ _ _ _ _ (by decide) fJw2
          have fOw4 := hkp _ _ _ _ _ _ (by decide) fOw2
          refine hK.out _ _ (hHeld.trans hbq) (fun hHeld => ?_)
          clear hK K hbq hkp
          simp only [Act.put, List.setIfInBounds_toArray, List.set_cons_zero, List.set_cons_succ, List.getElem_toArray, List.getElem_cons_succ, List.getElem_cons_zero]
          have hsw4 : B0 ≤ w4.heap.size := Nat.le_trans hsW hHeld.size
          refine wpAnyH_ready (rs := [9]) (by kernel_rfl) (by simp) ?_
          refine AllReadyH.cons rfl (fun K hK => ?_) AllReadyH.nil
          have halw6 : Below B0 W (w4.alloc (.cells #[.int .i64 0, .slice none 0 0, .slice none 0 0] 25)) := ((hHeld).alloc hsw4 _)
          have fTw6 := own_struct w4 B0 (.int .i64 0) (.slice none 0 0) (.slice none 0 0) hsw4
          have fIw6 := own_alloc fIw4 (.cells #[.int .i64 0, .slice none 0 0, .slice none 0 0] 25)
          have fJw6 := own_alloc fJw4 (.cells #[.int .i64 0, .slice none 0 0, .slice none 0 0] 25)
          have fOw6 := own_alloc fOw4 (.cells #[.int .i64 0, .slice none 0 0, .slice none 0 0] 25)
          go_simp
          refine hK.out _ _ halw6 (fun hHeld => ?_)
          clear hK K halw6
          simp only [List.setIfInBounds_toArray, List.set_cons_zero, List.set_cons_succ]
          change Below B0 W (w4.alloc (.cells #[.int .i64 0, .slice none 0 0, .slice none 0 0] 25)) at hHeld
          change wpAnyH _ _ _ _ _ _ _ _ (w4.alloc (.cells #[.int .i64 0, .slice none 0 0, .slice none 0 0] 25))
          obtain ⟨w6, hqw6⟩ : ∃ x, x = w4.alloc (.cells #[.int .i64 0, .slice none 0 0, .slice none 0 0] 25) := ⟨_, rfl⟩
          rw [← hqw6] at hHeld fTw6 fIw6 fJw6 fOw6 ⊢
          clear hqw6
          obtain ⟨g7, hqg7⟩ : ∃ x, x = w4.heap.size := ⟨_, rfl⟩
          rw [← hqg7] at fTw6 ⊢
          clear hqg7
          have hsw6 : B0 ≤ w6.heap.size := Nat.le_trans hsW hHeld.size
          obtain ⟨ja', jl, jc', rfl, -⟩ := own_len fJw6
          obtain ⟨oa', ol, oc', rfl, -⟩ := own_len fOw6
          have hgt := (World.ownsRow.lt fTw6 g7 rfl).1
          have hfin := Lib.hid (cut1N_end (P := P) hWb'.out hbB.out hHeld hgt hql.out fJw6 fOw6 fIw6 fTw6)
          refine wpAnyH_ready (rs := [10]) (by kernel_rfl) (by simp) ?_
          refine AllReadyH.cons rfl (fun K hK => ?_) AllReadyH.nil
          refine wp_store_mid 25 (.tmp 5) (.tmp 11) rfl g7 0 [.int .i64 P, .slice ja' jl jc', .slice oa' ol oc'].toArray (by rfl) (by rfl) (struct_there fTw6) (by kernel_rfl) one3 ?_
          refine hK.out _ _ hfin.out.2 (fun hHeld => ?_)
          clear hK K
          simp only [Act.put, List.setIfInBounds_toArray, List.set_cons_zero, List.set_cons_succ, List.getElem_toArray, List.getElem_cons_succ, List.getElem_cons_zero]
          refine wpAnyH_ready (rs := [11]) (by kernel_rfl) (by simp) ?_
          refine AllReadyH.cons rfl (fun K hK => ?_) AllReadyH.nil
          go_simp
          refine hK.out _ _ hfin.out.2 (fun hHeld => ?_)
          clear hK K
          simp only [List.setIfInBounds_toArray, List.set_cons_zero, List.set_cons_succ]
          refine wpAnyH_done (by kernel_rfl) ?_ _
          refine NoPanic.normal ?_
          go_wp2_with fail
          go_meet
          exact ⟨_, rfl, hfin.out.1⟩
        · have halw8 : Below B0 W (w2.alloc (.cells #[.int .i64 0, .slice none 0 0, .slice none 0 0] 25)) := ((hHeld).alloc hsw2 _)
          have fTw8 := own_struct w2 B0 (.int .i64 0) (.slice none 0 0) (.slice none 0 0) hsw2
          have fIw8 := own_alloc fIw2 (.cells #[.int .i64 0, .slice none 0 0, .slice none 0 0] 25)
          have fJw8 := own_alloc fJw2 (.cells #[.int .i64 0, .slice none 0 0, .slice none 0 0] 25)
          have fOw8 := own_alloc fOw2 (.cells #[.int .i64 0, .slice none 0 0, .slice none 0 0] 25)
          go_simp
          refine hK.out _ _ halw8 (fun hHeld => ?_)
          clear hK K halw8
          simp only [List.setIfInBounds_toArray, List.set_cons_zero, List.set_cons_succ]
          change Below B0 W (w2.alloc (.cells #[.int .i64 0, .slice none 0 0, .slice none 0 0] 25)) at hHeld
          change wpAnyH _ _ _ _ _ _ _ _ (w2.alloc (.cells #[.int .i64 0, .slice none 0 0, .slice none 0 0] 25))
          obtain ⟨w8, hqw8⟩ : ∃ x, x = w2.alloc (.cells #[.int .i64 0, .slice none 0 0, .slice none 0 0] 25) := ⟨_, rfl⟩
          rw [← hqw8] at hHeld fTw8 fIw8 fJw8 fOw8 ⊢
          clear hqw8
          obtain ⟨g9, hqg9⟩ : ∃ x, x = w2.heap.size := ⟨_, rfl⟩
          rw [← hqg9] at fTw8 ⊢
          clear hqg9
          have hsw8 : B0 ≤ w8.heap.size := Nat.le_trans hsW hHeld.size
          refine wpAnyH_ready (rs := [8]) (by kernel_rfl) (by simp) ?_
          refine AllReadyH.cons rfl (fun K hK => ?_) AllReadyH.nil
          refine step_flat Try.underlying52 hiI hI0 hI1 hI2 rfl (by decide) (by decide) rfl (.tmp 12) (.tmp 17) rfl fIw8 (by simp [Act.eval]) (by simp [Act.eval]) (hxs.out w8 hHeld) hone.out (by omega) hsw8 ?_
          intro lv11 w10 fIw10 hbq hkp
          simp only [Nat.zero_add, List.nil_append] at fIw10
          have fTw10 := hkp _ _ _ _ _ _ (by decide) fTw8
          have fJw10 := hkp _ _ _ _ _ _ (by decide) fJw8
          have fOw10 := hkp _ _ _ _ _ _ (by decide) fOw8
          refine hK.out _ _ (hHeld.trans hbq) (fun hHeld => ?_)
          clear hK K hbq hkp
          simp only [Act.put, List.setIfInBounds_toArray, List.set_cons_zero, List.set_cons_succ, List.getElem_toArray, List.getElem_cons_succ, List.getElem_cons_zero]
          have hsw10 : B0 ≤ w10.heap.size := Nat.le_trans hsW hHeld.size
          obtain ⟨ja', jl, jc', rfl, -⟩ := own_len fJw10
          obtain ⟨oa', ol, oc', rfl, -⟩ := own_len fOw10
          have hgt := (World.ownsRow.lt fTw10 g9 rfl).1
          have hfin := Lib.hid (cut1N_end (P := P) hWb'.out hbB.out hHeld hgt hql.out fJw10 fOw10 fIw10 fTw10)
          refine wpAnyH_ready (rs := [10]) (by kernel_rfl) (by simp) ?_
          refine AllReadyH.cons rfl (fun K hK => ?_) AllReadyH.nil
          refine wp_store_mid 25 (.tmp 5) (.tmp 11) rfl g9 0 [.int .i64 P, .slice ja' jl jc', .slice oa' ol oc'].toArray (by rfl) (by rfl) (struct_there fTw10) (by kernel_rfl) one3 ?_
          refine hK.out _ _ hfin.out.2 (fun hHeld => ?_)
          clear hK K
          simp only [Act.put, List.setIfInBounds_toArray, List.set_cons_zero, List.set_cons_succ, List.getElem_toArray, List.getElem_cons_succ, List.getElem_cons_zero]
          refine wpAnyH_ready (rs := [11]) (by kernel_rfl) (by simp) ?_
          refine AllReadyH.cons rfl (fun K hK => ?_) AllReadyH.nil
          go_simp
          refine hK.out _ _ hfin.out.2 (fun hHeld => ?_)
          clear hK K
          simp only [List.setIfInBounds_toArray, List.set_cons_zero, List.set_cons_succ]
          refine wpAnyH_done (by kernel_rfl) ?_ _
          refine NoPanic.normal ?_
          go_wp2_with fail
          go_meet
          exact ⟨_, rfl, hfin.out.1⟩
      · have halw12 : Below B0 W (w1.alloc (.cells #[.int .i64 0, .slice none 0 0, .slice none 0 0] 25)) := ((hHeld).alloc hsw1 _)
        have fTw12 := own_struct w1 B0 (.int .i64 0) (.slice none 0 0) (.slice none 0 0) hsw1
        have fJw12 := own_alloc fJw1 (.cells #[.int .i64 0, .slice none 0 0, .slice none 0 0] 25)
        have fOw12 := own_alloc fOw1 (.cells #[.int .i64 0, .slice none 0 0, .slice none 0 0] 25)
        go_simp
        refine hK.out _ _ halw12 (fun hHeld => ?_)
        clear hK K halw12
        simp only [List.setIfInBounds_toArray, List.set_cons_zero, List.set_cons_succ]
        change Below B0 W (w1.alloc (.cells #[.int .i64 0, .slice none 0 0, .slice none 0 0] 25)) at hHeld
        change wpAnyH _ _ _ _ _ _ _ _ (w1.alloc (.cells #[.int .i64 0, .slice none 0 0, .slice none 0 0] 25))
        obtain ⟨w12, hqw12⟩ : ∃ x, x = w1.alloc (.cells #[.int .i64 0, .slice none 0 0, .slice none 0 0] 25) := ⟨_, rfl⟩
        rw [← hqw12] at hHeld fTw12 fJw12 fOw12 ⊢
        clear hqw12
        obtain ⟨g13, hqg13⟩ : ∃ x, x = w1.heap.size := ⟨_, rfl⟩
        rw [← hqg13] at fTw12 ⊢
        clear hqg13
        have hsw12 : B0 ≤ w12.heap.size := Nat.le_trans hsW hHeld.size
        refine wpAnyH_ready (rs := [2]) (by kernel_rfl) (by simp) ?_
        refine AllReadyH.cons rfl (fun K hK => ?_) AllReadyH.nil
        have halw14 : Below B0 W (w12.alloc (.cells #[] 72)) := ((hHeld).alloc hsw12 _)
        have fIw14 := lit_own w12 B0 w12.heap.size 6 72 hsw12 rfl
        have fTw14 := own_alloc fTw12 (.cells #[] 72)
        have fJw14 := own_alloc fJw12 (.cells #[] 72)
        have fOw14 := own_alloc fOw12 (.cells #[] 72)
        go_simp
        refine hK.out _ _ halw14 (fun hHeld => ?_)
        clear hK K halw14
        simp only [List.setIfInBounds_toArray, List.set_cons_zero, List.set_cons_succ]
        change Below B0 W (w12.alloc (.cells #[] 72)) at hHeld
        change wpAnyH _ _ _ _ _ _ _ _ (w12.alloc (.cells #[] 72))
        obtain ⟨w14, hqw14⟩ : ∃ x, x = w12.alloc (.cells #[] 72) := ⟨_, rfl⟩
        rw [← hqw14] at hHeld fIw14 fTw14 fJw14 fOw14 ⊢
        clear hqw14
        obtain ⟨g15, hqg15⟩ : ∃ x, x = w12.heap.size := ⟨_, rfl⟩
        rw [← hqg15] at fIw14 ⊢
        clear hqg15
        have hsw14 : B0 ≤ w14.heap.size := Nat.le_trans hsW hHeld.size
        refine wpAnyH_ready (rs := [8]) (by kernel_rfl) (by simp) ?_
        refine AllReadyH.cons rfl (fun K hK => ?_) AllReadyH.nil
        refine step_flat Try.underlying52 hiI hI0 hI1 hI2 rfl (by decide) (by decide) rfl (.tmp 12) (.tmp 17) rfl fIw14 (by simp [Act.eval]) (by simp [Act.eval]) (hxs.out w14 hHeld) hone.out (by omega) hsw14 ?_
        intro lv17 w16 fIw16 hbq hkp
        simp only [Nat.zero_add, List.nil_append] at fIw16
        have fTw16 := hkp _ _ _ _ _ _ (by decide) fTw14
        have fJw16 := hkp _ _ _ _ _ _ (by decide) fJw14
        have fOw16 := hkp _ _ _ _ _ _ (by decide) fOw14
        refine hK.out _ _ (hHeld.trans hbq) (fun hHeld => ?_)
        clear hK K hbq hkp
        simp only [Act.put, List.setIfInBounds_toArray, List.set_cons_zero, List.set_cons_succ, List.getElem_toArray, List.getElem_cons_succ, List.getElem_cons_zero]
        have hsw16 : B0 ≤ w16.heap.size := Nat.le_trans hsW hHeld.size
        obtain ⟨ja', jl, jc', rfl, -⟩ := own_len fJw16
        obtain ⟨oa', ol, oc', rfl, -⟩ := own_len fOw16
        have hgt := (World.ownsRow.lt fTw16 g13 rfl).1
        have hfin := Lib.hid (cut1N_end (P := P) hWb'.out hbB.out hHeld hgt hql.out fJw16 fOw16 fIw16 fTw16)
        refine wpAnyH_ready (rs := [10]) (by kernel_rfl) (by simp) ?_
        refine AllReadyH.cons rfl (fun K hK => ?_) AllReadyH.nil
        refine wp_store_mid 25 (.tmp 5) (.tmp 11) rfl g13 0 [.int .i64 P, .slice ja' jl jc', .slice oa' ol oc'].toArray (by rfl) (by rfl) (struct_there fTw16) (by kernel_rfl) one3 ?_
        refine hK.out _ _ hfin.out.2 (fun hHeld => ?_)
        clear hK K
        simp only [Act.put, List.setIfInBounds_toArray, List.set_cons_zero, List.set_cons_succ, List.getElem_toArray, List.getElem_cons_succ, List.getElem_cons_zero]
        refine wpAnyH_ready (rs := [11]) (by kernel_rfl) (by simp) ?_
        refine AllReadyH.cons rfl (fun K hK => ?_) AllReadyH.nil
        go_simp
        refine hK.out _ _ hfin.out.2 (fun hHeld => ?_)
        clear hK K
        simp only [List.setIfInBounds_toArray, List.set_cons_zero, List.set_cons_succ]
        refine wpAnyH_done (by kernel_rfl) ?_ _
        refine NoPanic.normal ?_
        go_wp2_with fail
        go_meet
        exact ⟨_, rfl, hfin.out.1⟩
    · have halw18 : Below B0 W ((W.alloc (.cells #[] 72)).drew) := ((Below.refl _ _).alloc hsW _).drew
      have fIw18 := own_drew (lit_own W B0 W.heap.size 6 72 hsW rfl)
      go_simp
      refine hK.out _ _ halw18 (fun hHeld => ?_)
      clear hK K halw18
      simp only [List.setIfInBounds_toArray, List.set_cons_zero, List.set_cons_succ]
      change Below B0 W ((W.alloc (.cells #[] 72)).drew) at hHeld
      change wpAnyH _ _ _ _ _ _ _ _ ((W.alloc (.cells #[] 72)).drew)
      obtain ⟨w18, hqw18⟩ : ∃ x, x = (W.alloc (.cells #[] 72)).drew := ⟨_, rfl⟩
      rw [← hqw18] at hHeld fIw18 ⊢
      clear hqw18
      obtain ⟨g19, hqg19⟩ : ∃ x, x = W.heap.size := ⟨_, rfl⟩
      rw [← hqg19] at fIw18 ⊢
      clear hqg19
      have hsw18 : B0 ≤ w18.heap.size := Nat.le_trans hsW hHeld.size
      refine wpAnyH_ready (rs := [1, 9]) (by kernel_rfl) (by simp) ?_
      refine AllReadyH.cons rfl (fun K hK => ?_) (AllReadyH.cons rfl (fun K hK => ?_) AllReadyH.nil)
      · have hV := Lib.hid (hfew.out w18 hHeld)
        go_simp
        refine hV.out.mono ?_
        rintro e w20 ⟨jvw20, ovw20, rfl, oj, oo, hbc⟩
        have halw20 : Below B0 W w20 := hHeld.trans (hbc.mono hsw18)
        have fJw20 := own_base oj (show B0 ≤ _ from hsw18)
        have fOw20 := own_base oo (show B0 ≤ _ from hsw18)
        have fIw20 := own_below fIw18 hbc
        refine hK.out _ _ halw20 (fun hHeld => ?_)
        clear hK K halw20 oj oo hbc hV
        simp only [List.setIfInBounds_toArray, List.set_cons_zero, List.set_cons_succ]
        have hsw20 : B0 ≤ w20.heap.size := Nat.le_trans hsW hHeld.size
        refine wpAnyH_ready (rs := [8, 9]) (by kernel_rfl) (by simp) ?_
        refine AllReadyH.cons rfl (fun K hK => ?_) (AllReadyH.cons rfl (fun K hK => ?_) AllReadyH.nil)
        · refine step_flat Try.underlying52 hiI hI0 hI1 hI2 rfl (by decide) (by decide) rfl (.tmp 12) (.tmp 17) rfl fIw20 (by simp [Act.eval]) (by simp [Act.eval]) (hxs.out w20 hHeld) hone.out (by omega) hsw20 ?_
          intro lv22 w21 fIw21 hbq hkp
          simp only [Nat.zero_add, List.nil_append] at fIw21
          have fJw21 := hkp _ _ _ _ _ _ (by decide) fJw20
          have fOw21 := hkp _ _ _ _ _ _ (by decide) fOw20
          refine hK.out _ _ (hHeld.trans hbq) (fun hHeld => ?_)
          clear hK K hbq hkp
          simp only [Act.put, List.setIfInBounds_toArray, List.set_cons_zero, List.set_cons_succ, List.getElem_toArray, List.getElem_cons_succ, List.getElem_cons_zero]
          have hsw21 : B0 ≤ w21.heap.size := Nat.le_trans hsW hHeld.size
          refine wpAnyH_ready (rs := [9]) (by kernel_rfl) (by simp) ?_
          refine AllReadyH.cons rfl (fun K hK => ?_) AllReadyH.nil
          have halw23 : Below B0 W (w21.alloc (.cells #[.int .i64 0, .slice none 0 0, .slice none 0 0] 25)) := ((hHeld).alloc hsw21 _)
          have fTw23 := own_struct w21 B0 (.int .i64 0) (.slice none 0 0) (.slice none 0 0) hsw21
          have fIw23 := own_alloc fIw21 (.cells #[.int .i64 0, .slice none 0 0, .slice none 0 0] 25)
          have fJw23 := own_alloc fJw21 (.cells #[.int .i64 0, .slice none 0 0, .slice none 0 0] 25)
          have fOw23 := own_alloc fOw21 (.cells #[.int .i64 0, .slice none 0 0, .slice none 0 0] 25)
          go_simp
          refine hK.out _ _ halw23 (fun hHeld => ?_)
          clear hK K halw23
          simp only [List.setIfInBounds_toArray, List.set_cons_zero, List.set_cons_succ]
          change Below B0 W (w21.alloc (.cells #[.int .i64 0, .slice none 0 0, .slice none 0 0] 25)) at hHeld
          change wpAnyH _ _ _ _ _ _ _ _ (w21.alloc (.cells #[.int .i64 0, .slice none 0 0, .slice none 0 0] 25))
          obtain ⟨w23, hqw23⟩ : ∃ x, x = w21.alloc (.cells #[.int .i64 0, .slice none 0 0, .slice none 0 0] 25) := ⟨_, rfl⟩
          rw [← hqw23] at hHeld fTw23 fIw23 fJw23 fOw23 ⊢
          clear hqw23
          obtain ⟨g24, hqg24⟩ : ∃ x, x = w21.heap.size := ⟨_, rfl⟩
          rw [← hqg24] at fTw23 ⊢
          clear hqg24
          have hsw23 : B0 ≤ w23.heap.size := Nat.le_trans hsW hHeld.size
          obtain ⟨ja', jl, jc', rfl, -⟩ := own_len fJw23
          obtain ⟨oa', ol, oc', rfl, -⟩ := own_len fOw23
          have hgt := (World.ownsRow.lt fTw23 g24 rfl).1
          have hfin := Lib.hid (cut1N_end (P := P) hWb'.out hbB.out hHeld hgt hql.out fJw23 fOw23 fIw23 fTw23)
          refine wpAnyH_ready (rs := [10]) (by kernel_rfl) (by simp) ?_
          refine AllReadyH.cons rfl (fun K hK => ?_) AllReadyH.nil
          refine wp_store_mid 25 (.tmp 5) (.tmp 11) rfl g24 0 [.int .i64 P, .slice ja' jl jc', .slice oa' ol oc'].toArray (by rfl) (by rfl) (struct_there fTw23) (by kernel_rfl) one3 ?_
          refine hK.out _ _ hfin.out.2 (fun hHeld => ?_)
          clear hK K
          simp only [Act.put, List.setIfInBounds_toArray, List.set_cons_zero, List.set_cons_succ, List.getElem_toArray, List.getElem_cons_succ, List.getElem_cons_zero]
          refine wpAnyH_ready (rs := [11]) (by kernel_rfl) (by simp) ?_
          refine AllReadyH.cons rfl (fun K hK => ?_) AllReadyH.nil
          go_simp
          refine hK.out _ _ hfin.out.2 (fun hHeld => ?_)
          clear hK K
          simp only [List.setIfInBounds_toArray, List.set_cons_zero, List.set_cons_succ]
          refine wpAnyH_done (by kernel_rfl) ?_ _
          refine NoPanic.normal ?_
          go_wp2_with fail
          go_meet
          exact ⟨_, rfl, hfin.out.1⟩
        · have halw25 : Below B0 W (w20.alloc (.cells #[.int .i64 0, .slice none 0 0, .slice none 0 0] 25)) := ((hHeld).alloc hsw20 _)
          have fTw25 := own_struct w20 B0 (.int .i64 0) (.slice none 0 0) (.slice none 0 0) hsw20
          have fJw25 := own_alloc fJw20 (.cells #[.int .i64 0, .slice none 0 0, .slice none 0 0] 25)
          have fOw25 := own_alloc fOw20 (.cells #[.int .i64 0, .slice none 0 0, .slice none 0 0] 25)
          have fIw25 := own_alloc fIw20 (.cells #[.int .i64 0, .slice none 0 0, .slice none 0 0] 25)
          go_simp
          refine hK.out _ _ halw25 (fun hHeld => ?_)
          clear hK K halw25
          simp only [List.setIfInBounds_toArray, List.set_cons_zero, List.set_cons_succ]
          change Below B0 W (w20.alloc (.cells #[.int .i64 0, .slice none 0 0, .slice none 0 0] 25)) at hHeld
          change wpAnyH _ _ _ _ _ _ _ _ (w20.alloc (.cells #[.int .i64 0, .slice none 0 0, .slice none 0 0] 25))
          obtain ⟨w25, hqw25⟩ : ∃ x, x = w20.alloc (.cells #[.int .i64 0, .slice none 0 0, .slice none 0 0] 25) := ⟨_, rfl⟩
          rw [← hqw25] at hHeld fTw25 fJw25 fOw25 fIw25 ⊢
          clear hqw25
          obtain ⟨g26, hqg26⟩ : ∃ x, x = w20.heap.size := ⟨_, rfl⟩
          rw [← hqg26] at fTw25 ⊢
          clear hqg26
          have hsw25 : B0 ≤ w25.heap.size := Nat.le_trans hsW hHeld.size
          refine wpAnyH_ready (rs := [8]) (by kernel_rfl) (by simp) ?_
          refine AllReadyH.cons rfl (fun K hK => ?_) AllReadyH.nil
          refine step_flat Try.underlying52 hiI hI0 hI1 hI2 rfl (by decide) (by decide) rfl (.tmp 12) (.tmp 17) rfl fIw25 (by simp [Act.eval]) (by simp [Act.eval]) (hxs.out w25 hHeld) hone.out (by omega) hsw25 ?_
          intro lv28 w27 fIw27 hbq hkp
          simp only [Nat.zero_add, List.nil_append] at fIw27
          have fTw27 := hkp _ _ _ _ _ _ (by decide) fTw25
          have fJw27 := hkp _ _ _ _ _ _ (by decide) fJw25
          have fOw27 := hkp _ _ _ _ _ _ (by decide) fOw25
          refine hK.out _ _ (hHeld.trans hbq) (fun hHeld => ?_)
          clear hK K hbq hkp
          simp only [Act.put, List.setIfInBounds_toArray, List.set_cons_zero, List.set_cons_succ, List.getElem_toArray, List.getElem_cons_succ, List.getElem_cons_zero]
          have hsw27 : B0 ≤ w27.heap.size := Nat.le_trans hsW hHeld.size
          obtain ⟨ja', jl, jc', rfl, -⟩ := own_len fJw27
          obtain ⟨oa', ol, oc', rfl, -⟩ := own_len fOw27
          have hgt := (World.ownsRow.lt fTw27 g26 rfl).1
          have hfin := Lib.hid (cut1N_end (P := P) hWb'.out hbB.out hHeld hgt hql.out fJw27 fOw27 fIw27 fTw27)
          refine wpAnyH_ready (rs := [10]) (by kernel_rfl) (by simp) ?_
          refine AllReadyH.cons rfl (fun K hK => ?_) AllReadyH.nil
          refine wp_store_mid 25 (.tmp 5) (.tmp 11) rfl g26 0 [.int .i64 P, .slice ja' jl jc', .slice oa' ol oc'].toArray (by rfl) (by rfl) (struct_there fTw27) (by kernel_rfl) one3 ?_
          refine hK.out _ _ hfin.out.2 (fun hHeld => ?_)
          clear hK K
          simp only [Act.put, List.setIfInBounds_toArray, List.set_cons_zero, List.set_cons_succ, List.getElem_toArray, List.getElem_cons_succ, List.getElem_cons_zero]
          refine wpAnyH_ready (rs := [11]) (by kernel_rfl) (by simp) ?_
          refine AllReadyH.cons rfl (fun K hK => ?_) AllReadyH.nil
          go_simp
          refine hK.out _ _ hfin.out.2 (fun hHeld => ?_)
          clear hK K
          simp only [List.setIfInBounds_toArray, List.set_cons_zero, List.set_cons_succ]
          refine wpAnyH_done (by kernel_rfl) ?_ _
          refine NoPanic.normal ?_
          go_wp2_with fail
          go_meet
          exact ⟨_, rfl, hfin.out.1⟩
      · have halw29 : Below B0 W (w18.alloc (.cells #[.int .i64 0, .slice none 0 0, .slice none 0 0] 25)) := ((hHeld).alloc hsw18 _)
        have fTw29 := own_struct w18 B0 (.int .i64 0) (.slice none 0 0) (.slice none 0 0) hsw18
        have fIw29 := own_alloc fIw18 (.cells #[.int .i64 0, .slice none 0 0, .slice none 0 0] 25)
        go_simp
        refine hK.out _ _ halw29 (fun hHeld => ?_)
        clear hK K halw29
        simp only [List.setIfInBounds_toArray, List.set_cons_zero, List.set_cons_succ]
        change Below B0 W (w18.alloc (.cells #[.int .i64 0, .slice none 0 0, .slice none 0 0] 25)) at hHeld
        change wpAnyH _ _ _ _ _ _ _ _ (w18.alloc (.cells #[.int .i64 0, .slice none 0 0, .slice none 0 0] 25))
        obtain ⟨w29, hqw29⟩ : ∃ x, x = w18.alloc (.cells #[.int .i64 0, .slice none 0 0, .slice none 0 0] 25) := ⟨_, rfl⟩
        rw [← hqw29] at hHeld fTw29 fIw29 ⊢
        clear hqw29
        obtain ⟨g30, hqg30⟩ : ∃ x, x = w18.heap.size := ⟨_, rfl⟩
        rw [← hqg30] at fTw29 ⊢
        clear hqg30
        have hsw29 : B0 ≤ w29.heap.size := Nat.le_trans hsW hHeld.size
        refine wpAnyH_ready (rs := [1]) (by kernel_rfl) (by simp) ?_
        refine AllReadyH.cons rfl (fun K hK => ?_) AllReadyH.nil
        have hV := Lib.hid (hfew.out w29 hHeld)
        go_simp
        refine hV.out.mono ?_
        rintro e w31 ⟨jvw31, ovw31, rfl, oj, oo, hbc⟩
        have halw31 : Below B0 W w31 := hHeld.trans (hbc.mono hsw29)
        have fJw31 := own_base oj (show B0 ≤ _ from hsw29)
        have fOw31 := own_base oo (show B0 ≤ _ from hsw29)
        have fTw31 := own_below fTw29 hbc
        have fIw31 := own_below fIw29 hbc
        refine hK.out _ _ halw31 (fun hHeld => ?_)
        clear hK K halw31 oj oo hbc hV
        simp only [List.setIfInBounds_toArray, List.set_cons_zero, List.set_cons_succ]
        have hsw31 : B0 ≤ w31.heap.size := Nat.le_trans hsW hHeld.size
        refine wpAnyH_ready (rs := [8]) (by kernel_rfl) (by simp) ?_
        refine AllReadyH.cons rfl (fun K hK => ?_) AllReadyH.nil
        refine step_flat Try.underlying52 hiI hI0 hI1 hI2 rfl (by decide) (by decide) rfl (.tmp 12) (.tmp 17) rfl fIw31 (by simp [Act.eval]) (by simp [Act.eval]) (hxs.out w31 hHeld) hone.out (by omega) hsw31 ?_
        intro lv33 w32 fIw32 hbq hkp
        simp only [Nat.zero_add, List.nil_append] at fIw32
        have fJw32 := hkp _ _ _ _ _ _ (by decide) fJw31
        have fOw32 := hkp _ _ _ _ _ _ (by decide) fOw31
        have fTw32 := hkp _ _ _ _ _ _ (by decide) fTw31
        refine hK.out _ _ (hHeld.trans hbq) (fun hHeld => ?_)
        clear hK K hbq hkp
        simp only [Act.put, List.setIfInBounds_toArray, List.set_cons_zero, List.set_cons_succ, List.getElem_toArray, List.getElem_cons_succ, List.getElem_cons_zero]
        have hsw32 : B0 ≤ w32.heap.size := Nat.le_trans hsW hHeld.size
        obtain ⟨ja', jl, jc', rfl, -⟩ := own_len fJw32
        obtain ⟨oa', ol, oc', rfl, -⟩ := own_len fOw32
        have hgt := (World.ownsRow.lt fTw32 g30 rfl).1
        have hfin := Lib.hid (cut1N_end (P := P) hWb'.out hbB.out hHeld hgt hql.out fJw32 fOw32 fIw32 fTw32)
        refine wpAnyH_ready (rs := [10]) (by kernel_rfl) (by simp) ?_
        refine AllReadyH.cons rfl (fun K hK => ?_) AllReadyH.nil
        refine wp_store_mid 25 (.tmp 5) (.tmp 11) rfl g30 0 [.int .i64 P, .slice ja' jl jc', .slice oa' ol oc'].toArray (by rfl) (by rfl) (struct_there fTw32) (by kernel_rfl) one3 ?_
        refine hK.out _ _ hfin.out.2 (fun hHeld => ?_)
        clear hK K
        simp only [Act.put, List.setIfInBounds_toArray, List.set_cons_zero, List.set_cons_succ, List.getElem_toArray, List.getElem_cons_succ, List.getElem_cons_zero]
        refine wpAnyH_ready (rs := [11]) (by kernel_rfl) (by simp) ?_
        refine AllReadyH.cons rfl (fun K hK => ?_) AllReadyH.nil
        go_simp
        refine hK.out _ _ hfin.out.2 (fun hHeld => ?_)
        clear hK K
        simp only [List.setIfInBounds_toArray, List.set_cons_zero, List.set_cons_succ]
        refine wpAnyH_done (by kernel_rfl) ?_ _
        refine NoPanic.normal ?_
        go_wp2_with fail
        go_meet
        exact ⟨_, rfl, hfin.out.1⟩
    · have halw34 : Below B0 W ((W.alloc (.cells #[.int .i64 0, .slice none 0 0, .slice none 0 0] 25)).drew) := ((Below.refl _ _).alloc hsW _).drew
      have fTw34 := own_drew (own_struct W B0 (.int .i64 0) (.slice none 0 0) (.slice none 0 0) hsW)
      go_simp
      refine hK.out _ _ halw34 (fun hHeld => ?_)
      clear hK K halw34
      simp only [List.setIfInBounds_toArray, List.set_cons_zero, List.set_cons_succ]
      change Below B0 W ((W.alloc (.cells #[.int .i64 0, .slice none 0 0, .slice none 0 0] 25)).drew) at hHeld
      change wpAnyH _ _ _ _ _ _ _ _ ((W.alloc (.cells #[.int .i64 0, .slice none 0 0, .slice none 0 0] 25)).drew)
      obtain ⟨w34, hqw34⟩ : ∃ x, x = (W.alloc (.cells #[.int .i64 0, .slice none 0 0, .slice none 0 0] 25)).drew := ⟨_, rfl⟩
      rw [← hqw34] at hHeld fTw34 ⊢
      clear hqw34
      obtain ⟨g35, hqg35⟩ : ∃ x, x = W.heap.size := ⟨_, rfl⟩
      rw [← hqg35] at fTw34 ⊢
      clear hqg35
      have hsw34 : B0 ≤ w34.heap.size := Nat.le_trans hsW hHeld.size
      refine wpAnyH_ready (rs := [1, 2]) (by kernel_rfl) (by simp) ?_
      refine AllReadyH.cons rfl (fun K hK => ?_) (AllReadyH.cons rfl (fun K hK => ?_) AllReadyH.nil)
      · have hV := Lib.hid (hfew.out w34 hHeld)
        go_simp
        refine hV.out.mono ?_
        rintro e w36 ⟨jvw36, ovw36, rfl, oj, oo, hbc⟩
        have halw36 : Below B0 W w36 := hHeld.trans (hbc.mono hsw34)
        have fJw36 := own_base oj (show B0 ≤ _ from hsw34)
        have fOw36 := own_base oo (show B0 ≤ _ from hsw34)
        have fTw36 := own_below fTw34 hbc
        refine hK.out _ _ halw36 (fun hHeld => ?_)
        clear hK K halw36 oj oo hbc hV
        simp only [List.setIfInBounds_toArray, List.set_cons_zero, List.set_cons_succ]
        have hsw36 : B0 ≤ w36.heap.size := Nat.le_trans hsW hHeld.size
        refine wpAnyH_ready (rs := [2]) (by kernel_rfl) (by simp) ?_
        refine AllReadyH.cons rfl (fun K hK => ?_) AllReadyH.nil
        have halw37 : Below B0 W (w36.alloc (.cells #[] 72)) := ((hHeld).alloc hsw36 _)
        have fIw37 := lit_own w36 B0 w36.heap.size 6 72 hsw36 rfl
        have fJw37 := own_alloc fJw36 (.cells #[] 72)
        have fOw37 := own_alloc fOw36 (.cells #[] 72)
        have fTw37 := own_alloc fTw36 (.cells #[] 72)
        go_simp
        refine hK.out _ _ halw37 (fun hHeld => ?_)
        clear hK K halw37
        simp only [List.setIfInBounds_toArray, List.set_cons_zero, List.set_cons_succ]
        change Below B0 W (w36.alloc (.cells #[] 72)) at hHeld
        change wpAnyH _ _ _ _ _ _ _ _ (w36.alloc (.cells #[] 72))
        obtain ⟨w37, hqw37⟩ : ∃ x, x = w36.alloc (.cells #[] 72) := ⟨_, rfl⟩
        rw [← hqw37] at hHeld fIw37 fJw37 fOw37 fTw37 ⊢
        clear hqw37
        obtain ⟨g38, hqg38⟩ : ∃ x, x = w36.heap.size := ⟨_, rfl⟩
        rw [← hqg38] at fIw37 ⊢
        clear hqg38
        have hsw37 : B0 ≤ w37.heap.size := Nat.le_trans hsW hHeld.size
        refine wpAnyH_ready (rs := [8]) (by kernel_rfl) (by simp) ?_
        refine AllReadyH.cons rfl (fun K hK => ?_) AllReadyH.nil
        refine step_flat Try.underlying52 hiI hI0 hI1 hI2 rfl (by decide) (by decide) rfl (.tmp 12) (.tmp 17) rfl fIw37 (by simp [Act.eval]) (by simp [Act.eval]) (hxs.out w37 hHeld) hone.out (by omega) hsw37 ?_
        intro lv40 w39 fIw39 hbq hkp
        simp only [Nat.zero_add, List.nil_append] at fIw39
        have fJw39 := hkp _ _ _ _ _ _ (by decide) fJw37
        have fOw39 := hkp _ _ _ _ _ _ (by decide) fOw37
        have fTw39 := hkp _ _ _ _ _ _ (by decide) fTw37
        refine hK.out _ _ (hHeld.trans hbq) (fun hHeld => ?_)
        clear hK K hbq hkp
        simp only [Act.put, List.setIfInBounds_toArray, List.set_cons_zero, List.set_cons_succ, List.getElem_toArray, List.getElem_cons_succ, List.getElem_cons_zero]
        have hsw39 : B0 ≤ w39.heap.size := Nat.le_trans hsW hHeld.size
        obtain ⟨ja', jl, jc', rfl, -⟩ := own_len fJw39
        obtain ⟨oa', ol, oc', rfl, -⟩ := own_len fOw39
        have hgt := (World.ownsRow.lt fTw39 g35 rfl).1
        have hfin := Lib.hid (cut1N_end (P := P) hWb'.out hbB.out hHeld hgt hql.out fJw39 fOw39 fIw39 fTw39)
        refine wpAnyH_ready (rs := [10]) (by kernel_rfl) (by simp) ?_
        refine AllReadyH.cons rfl (fun K hK => ?_) AllReadyH.nil
        refine wp_store_mid 25 (.tmp 5) (.tmp 11) rfl g35 0 [.int .i64 P, .slice ja' jl jc', .slice oa' ol oc'].toArray (by rfl) (by rfl) (struct_there fTw39) (by kernel_rfl) one3 ?_
        refine hK.out _ _ hfin.out.2 (fun hHeld => ?_)
        clear hK K
        simp only [Act.put, List.setIfInBounds_toArray, List.set_cons_zero, List.set_cons_succ, List.getElem_toArray, List.getElem_cons_succ, List.getElem_cons_zero]
        refine wpAnyH_ready (rs := [11]) (by kernel_rfl) (by simp) ?_
        refine AllReadyH.cons rfl (fun K hK => ?_) AllReadyH.nil
        go_simp
        refine hK.out _ _ hfin.out.2 (fun hHeld => ?_)
        clear hK K
        simp only [List.setIfInBounds_toArray, List.set_cons_zero, List.set_cons_succ]
        refine wpAnyH_done (by kernel_rfl) ?_ _
        refine NoPanic.normal ?_
        go_wp2_with fail
        go_meet
        exact ⟨_, rfl, hfin.out.1⟩
      · have halw41 : Below B0 W (w34.alloc (.cells #[] 72)) := ((hHeld).alloc hsw34 _)
        have fIw41 := lit_own w34 B0 w34.heap.size 6 72 hsw34 rfl
        have fTw41 := own_alloc fTw34 (.cells #[] 72)
        go_simp
        refine hK.out _ _ halw41 (fun hHeld => ?_)
        clear hK K halw41
        simp only [List.setIfInBounds_toArray, List.set_cons_zero, List.set_cons_succ]
        change Below B0 W (w34.alloc (.cells #[] 72)) at hHeld
        change wpAnyH _ _ _ _ _ _ _ _ (w34.alloc (.cells #[] 72))
        obtain ⟨w41, hqw41⟩ : ∃ x, x = w34.alloc (.cells #[] 72) := ⟨_, rfl⟩
        rw [← hqw41] at hHeld fIw41 fTw41 ⊢
        clear hqw41
        obtain ⟨g42, hqg42⟩ : ∃ x, x = w34.heap.size := ⟨_, rfl⟩
        rw [← hqg42] at fIw41 ⊢
        clear hqg42
        have hsw41 : B0 ≤ w41.heap.size := Nat.le_trans hsW hHeld.size
        refine wpAnyH_ready (rs := [1]) (by kernel_rfl) (by simp) ?_
        refine AllReadyH.cons rfl (fun K hK => ?_) AllReadyH.nil
        have hV := Lib.hid (hfew.out w41 hHeld)
        go_simp
        refine hV.out.mono ?_
        rintro e w43 ⟨jvw43, ovw43, rfl, oj, oo, hbc⟩
        have halw43 : Below B0 W w43 := hHeld.trans (hbc.mono hsw41)
        have fJw43 := own_base oj (show B0 ≤ _ from hsw41)
        have fOw43 := own_base oo (show B0 ≤ _ from hsw41)
        have fIw43 := own_below fIw41 hbc
        have fTw43 := own_below fTw41 hbc
        refine hK.out _ _ halw43 (fun hHeld => ?_)
        clear hK K halw43 oj oo hbc hV
        simp only [List.setIfInBounds_toArray, List.set_cons_zero, List.set_cons_succ]
        have hsw43 : B0 ≤ w43.heap.size := Nat.le_trans hsW hHeld.size
        refine wpAnyH_ready (rs := [8]) (by kernel_rfl) (by simp) ?_
        refine AllReadyH.cons rfl (fun K hK => ?_) AllReadyH.nil
        refine step_flat Try.underlying52 hiI hI0 hI1 hI2 rfl (by decide) (by decide) rfl (.tmp 12) (.tmp 17) rfl fIw43 (by simp [Act.eval]) (by simp [Act.eval]) (hxs.out w43 hHeld) hone.out (by omega) hsw43 ?_
        intro lv45 w44 fIw44 hbq hkp
        simp only [Nat.zero_add, List.nil_append] at fIw44
        have fJw44 := hkp _ _ _ _ _ _ (by decide) fJw43
        have fOw44 := hkp _ _ _ _ _ _ (by decide) fOw43
        have fTw44 := hkp _ _ _ _ _ _ (by decide) fTw43
        refine hK.out _ _ (hHeld.trans hbq) (fun hHeld => ?_)
        clear hK K hbq hkp
        simp only [Act.put, List.setIfInBounds_toArray, List.set_cons_zero, List.set_cons_succ, List.getElem_toArray, List.getElem_cons_succ, List.getElem_cons_zero]
        have hsw44 : B0 ≤ w44.heap.size := Nat.le_trans hsW hHeld.size
        obtain ⟨ja', jl, jc', rfl, -⟩ := own_len fJw44
        obtain ⟨oa', ol, oc', rfl, -⟩ := own_len fOw44
        have hgt := (World.ownsRow.lt fTw44 g35 rfl).1
        have hfin := Lib.hid (cut1N_end (P := P) hWb'.out hbB.out hHeld hgt hql.out fJw44 fOw44 fIw44 fTw44)
        refine wpAnyH_ready (rs := [10]) (by kernel_rfl) (by simp) ?_
        refine AllReadyH.cons rfl (fun K hK => ?_) AllReadyH.nil
        refine wp_store_mid 25 (.tmp 5) (.tmp 11) rfl g35 0 [.int .i64 P, .slice ja' jl jc', .slice oa' ol oc'].toArray (by rfl) (by rfl) (struct_there fTw44) (by kernel_rfl) one3 ?_
        refine hK.out _ _ hfin.out.2 (fun hHeld => ?_)
        clear hK K
        simp only [Act.put, List.setIfInBounds_toArray, List.set_cons_zero, List.set_cons_succ, List.getElem_toArray, List.getElem_cons_succ, List.getElem_cons_zero]
        refine wpAnyH_ready (rs := [11]) (by kernel_rfl) (by simp) ?_
        refine AllReadyH.cons rfl (fun K hK => ?_) AllReadyH.nil
        go_simp
        refine hK.out _ _ hfin.out.2 (fun hHeld => ?_)
        clear hK K
        simp only [List.setIfInBounds_toArray, List.set_cons_zero, List.set_cons_succ]
        refine wpAnyH_done (by kernel_rfl) ?_ _
        refine NoPanic.normal ?_
        go_wp2_with fail
        go_meet
        exact ⟨_, rfl, hfin.out.1⟩
end Go.Proofs.Ytjkbhdlbomcbeaa
