import Derived.Test.YtjkbhdlbomcbeaaH
namespace Go.Proofs.Ytjkbhdlbomcbeaa
open Go.RowKit Shf

set_option maxHeartbeats 4000000 in
set_option maxRecDepth 100000 in
theorem after70 {w : World} {v : Value} {P : Int} {js : List J} {os : List (Int × Int)} (h : ShV w v P js os) (h7 : js.length ≤ 7) {i : Nat} (hi : i < js.length) {x : Int} (hx : -1000 ≤ x ∧ x ≤ 1000) :
    Calls Try.prog 70 #[v, .int .i64 i, .int .i64 x] w (ShEnd w P (js.set i (afterJ (js.getD i J0) x)) os) := by
  obtain ⟨jv, ov, rfl, hj, ho⟩ := h
  have hj' := Lib.hid hj
  have ho' := Lib.hid ho
  obtain ⟨oa, m, oc, rfl⟩ : ∃ oa m oc, ov = .slice oa m oc := by obtain ⟨oa, oc, e, _⟩ := ho; exact ⟨oa, _, oc, e⟩
  obtain ⟨ja, q, jc, rfl⟩ : ∃ oa m oc, jv = .slice oa m oc := by obtain ⟨oa, oc, e, _⟩ := hj; exact ⟨oa, _, oc, e⟩
  have hne := Lib.hid (show js ≠ [] by intro e; rw [e] at hi; simp at hi)
  obtain ⟨n, hn⟩ : ∃ n, n = js.length := ⟨_, rfl⟩
  have hn' := Lib.hid hn
  rw [← hn] at h7 hi
  have hwb := Lib.hid (((Below.refl w.heap.size w).alloc (Nat.le_refl _) (.cells #[.int .i64 P, (.slice ja q jc), (.slice oa m oc)] 81)).alloc (by simp) (.cells #[.int .i64 0, .slice none 0 0, .slice none 0 0] 81))
  have ht1 := Lib.hid ((Three.new w (.int .i64 P) (.slice ja q jc) (.slice oa m oc) 81).keep (below_alloc1 _ (.cells #[.int .i64 0, .slice none 0 0, .slice none 0 0] 81)) (by simp))
  have ht2 := Lib.hid (Three.new (w.alloc (.cells #[.int .i64 P, (.slice ja q jc), (.slice oa m oc)] 81)) (.int .i64 0) (.slice none 0 0) (.slice none 0 0) 81)
  rw [World.size_alloc] at ht2
  obtain ⟨⟨f, t, l, p⟩, hjq⟩ : ∃ j, j = js.getD i J0 := ⟨_, rfl⟩
  rw [← hjq]
  have hjq' := Lib.hid hjq
  clear hj ho hn hjq
  have hcl := Lib.hid (fun (W : World) (h : ReadsJ W (.slice ja q jc) js) => clone63 h hne.out (by rw [← hn'.out]; exact h7))
  have hj1 := Lib.hid (hj'.out.below hwb.out)
  have hsz := Lib.hid (show ((w.alloc (.cells #[.int .i64 P, (.slice ja q jc), (.slice oa m oc)] 81)).alloc (.cells #[.int .i64 0, .slice none 0 0, .slice none 0 0] 81)).heap.size = w.heap.size + 1 + 1 by simp)
  obtain ⟨⟨k0, k1, k2⟩, kf⟩ := ht1.out
  go_enter Try.func70, Try.ntmps70
  go_wp2_with (
    go_at_call 63; refine (hcl.out _ hj1.out).mono ?_; rintro e wj ⟨jw, rfl, hown, hbc⟩
    have ht1j := Lib.hid (ht1.out.keep hbc (by rw [hsz.out]; omega))
    have ht2j := Lib.hid (ht2.out.keep hbc (by rw [hsz.out]; omega))
    obtain ⟨⟨x0, x1, x2⟩, xf⟩ := ht1j.out
    have xf1 := xf 1
    obtain ⟨⟨z0, z1, z2⟩, zf⟩ := ht2j.out
    have f0 := zf 0
    have f1 := zf 1
    have f2 := zf 2
    obtain ⟨g, c, rfl, hgc, hgB, hgw, hfz, hat, -, -⟩ := hown.parts hne.out
    rw [hsz.out] at hgB
    have hgw' := Lib.hid hgw
    have hnl := hn'.out.symm
    have d0 := (hat i (by rw [hnl]; exact hi)).1
    have fz := hfz (i * 4)
    have hown' := Lib.hid hown
    have hbc' := Lib.hid hbc
    have hnc : n ≤ c := by omega
    have hic : (i : Int) < (n : Int) := by omega
    have hg1 : ¬ (g = w.heap.size) := by omega
    have hg2 : ¬ (g = w.heap.size + 1) := by omega
    have hg3 : ¬ (w.heap.size = g) := by omega
    have hg4 : ¬ (w.heap.size + 1 = g) := by omega
    clear xf zf hown hbc hat hgw hfz)
  have hb0 := below_set (k := 0) (u := .int .i64 P) (below_set (k := i * 4) (u := .int .i64 (x + 1)) (below_set (k := 1) (u := .slice (some ⟨g, 0, none⟩) n c) (hwb.out.trans (hbc'.out.mono (by rw [hsz.out]; omega))) (Nat.le_refl _)) (show w.heap.size ≤ g by omega)) (show w.heap.size ≤ w.heap.size + 1 by omega)
  have hb := below_set (k := 2) (u := .slice oa m oc) (below_set (k := 1) (u := .slice (some ⟨g, 0, none⟩) n c) hb0 (show w.heap.size ≤ w.heap.size + 1 by omega)) (show w.heap.size ≤ w.heap.size + 1 by omega)
  have hr := (((ht2j.out.other (j := 1) (u := .slice (some ⟨g, 0, none⟩) n c) (show w.heap.size ≠ w.heap.size + 1 by omega)).other (j := i * 4) (u := .int .i64 (x + 1)) hg2).stored (x := .int .i64 P) (y := .slice (some ⟨g, 0, none⟩) n c) (z := .slice oa m oc)).range
  refine bodyPost_ret (results_cell_mid rfl _ _ (w.heap.size + 1) _ _ rfl hr Try.underlying81 rfl (by kernel_rfl)) rfl ?_
  refine ⟨_, rfl, ⟨_, _, rfl, ?_, ho'.out.below hb⟩, hb⟩
  have hJ2 : OwnJ (wj.setCell ⟨w.heap.size, 1, none⟩ (.slice (some ⟨g, 0, none⟩) n c)) (w.heap.size + 2) (.slice (some ⟨g, 0, none⟩) n c) js := by
    have := hown'.out
    rw [hsz.out, hnl] at this
    exact ownsRow_setCell_below this (by show w.heap.size < _; omega) _
  obtain ⟨g', c', e', -, -, -, -, -, hst, -⟩ := hJ2.parts hne.out
  obtain ⟨rfl, rfl⟩ : g = g' ∧ c = c' := by injection e' with a _ b; injection a with a; injection a with a; exact ⟨a, b⟩
  have hJ3 := hst i (x + 1) (by rw [hnl]; exact hi)
  rw [← hjq'.out] at hJ3
  have hs : ∀ k u W, OwnJ W (w.heap.size + 2) (.slice (some ⟨g, 0, none⟩) n c) (js.set i ⟨x + 1, t, l, p⟩) → OwnJ (W.setCell ⟨w.heap.size + 1, k, none⟩ u) (w.heap.size + 2) (.slice (some ⟨g, 0, none⟩) n c) (js.set i ⟨x + 1, t, l, p⟩) := fun k u W h => ownsRow_setCell_below h (by show w.heap.size + 1 < _; omega) u
  exact (hs _ _ _ (hs _ _ _ (hs _ _ _ hJ3))).reads
end Go.Proofs.Ytjkbhdlbomcbeaa
