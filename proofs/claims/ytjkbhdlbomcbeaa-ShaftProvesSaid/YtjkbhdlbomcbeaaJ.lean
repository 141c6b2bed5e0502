import Derived.Test.YtjkbhdlbomcbeaaI
namespace Go.Proofs.Ytjkbhdlbomcbeaa
open Go.RowKit Shf

def capJ (x : Int) (j : J) : J := { j with t := min j.t x }
def capI (x : Int) (js : List J) (i : Nat) : List J := (js.take i).map (capJ x) ++ js.drop i
theorem capI_zero (x : Int) (js : List J) : capI x js 0 = js := by simp [capI]
theorem capI_all (x : Int) (js : List J) : capI x js js.length = js.map (capJ x) := by simp [capI]
theorem capI_len (x : Int) (js : List J) (i : Nat) : (capI x js i).length = js.length := by simp [capI]; omega
theorem capI_get (x : Int) (js : List J) {i : Nat} (_h : i < js.length) : (capI x js i).getD i J0 = js.getD i J0 := by
  unfold capI
  rw [List.getD_eq_getElem?_getD, List.getElem?_append_right (by simp; omega), List.getElem?_drop, List.getD_eq_getElem?_getD]
  congr 2
  simp; omega
theorem capI_succ (x : Int) (js : List J) {i : Nat} (h : i < js.length) : (capI x js i).set i { js.getD i J0 with t := min (js.getD i J0).t x } = capI x js (i + 1) := by
  unfold capI
  rw [List.set_append_right _ _ (by simp; omega), show i - (List.map (capJ x) (js.take i)).length = 0 by simp; omega, List.drop_eq_getElem_cons h, List.set_cons_zero, List.take_succ_eq_append_getElem h, List.map_append, List.append_assoc]
  simp [capJ, List.getD_eq_getElem?_getD, h]
set_option maxHeartbeats 4000000 in
set_option maxRecDepth 100000 in
theorem ending45 {w : World} {v : Value} {P : Int} {js : List J} {os : List (Int × Int)} (h : ShV w v P js os) (h7 : js.length ≤ 7) (hne' : js ≠ []) (x : Int) :
    Calls Try.prog 45 #[v, .int .i64 x] w (ShEnd w P (js.map (capJ x)) os) := by
  obtain ⟨jv, ov, rfl, hj, ho⟩ := h
  have hj' := Lib.hid hj
  have ho' := Lib.hid ho
  obtain ⟨oa, m, oc, rfl⟩ : ∃ oa m oc, ov = .slice oa m oc := by obtain ⟨oa, oc, e, _⟩ := ho; exact ⟨oa, _, oc, e⟩
  obtain ⟨ja, q, jc, rfl⟩ : ∃ oa m oc, jv = .slice oa m oc := by obtain ⟨oa, oc, e, _⟩ := hj; exact ⟨oa, _, oc, e⟩
  have hne := Lib.hid hne'
  obtain ⟨n, hn⟩ : ∃ n, n = js.length := ⟨_, rfl⟩
  have hn' := Lib.hid hn
  rw [← hn] at h7
  have hwb := Lib.hid (((Below.refl w.heap.size w).alloc (Nat.le_refl _) (.cells #[.int .i64 P, (.slice ja q jc), (.slice oa m oc)] 81)).alloc (by simp) (.cells #[.int .i64 0, .slice none 0 0, .slice none 0 0] 81))
  have ht1 := Lib.hid ((Three.new w (.int .i64 P) (.slice ja q jc) (.slice oa m oc) 81).keep (below_alloc1 _ (.cells #[.int .i64 0, .slice none 0 0, .slice none 0 0] 81)) (by simp))
  have ht2 := Lib.hid (Three.new (w.alloc (.cells #[.int .i64 P, (.slice ja q jc), (.slice oa m oc)] 81)) (.int .i64 0) (.slice none 0 0) (.slice none 0 0) 81)
  rw [World.size_alloc] at ht2
  clear hj ho hn hne'
  have hcl := Lib.hid (fun (W : World) (h : ReadsJ W (.slice ja q jc) js) => clone63 h hne.out (by rw [← hn'.out]; exact h7))
  have hj1 := Lib.hid (hj'.out.below hwb.out)
  have hsz := Lib.hid (show ((w.alloc (.cells #[.int .i64 P, (.slice ja q jc), (.slice oa m oc)] 81)).alloc (.cells #[.int .i64 0, .slice none 0 0, .slice none 0 0] 81)).heap.size = w.heap.size + 1 + 1 by simp)
  obtain ⟨⟨k0, k1, k2⟩, kf⟩ := ht1.out
  go_enter Try.func45, Try.ntmps45
  go_wp2_with (
    go_at_call 63; refine (hcl.out _ hj1.out).mono ?_; rintro e wj ⟨jw, rfl, hown, hbc⟩
    have ht1j := Lib.hid (ht1.out.keep hbc (by rw [hsz.out]; omega))
    have ht2j := Lib.hid (ht2.out.keep hbc (by rw [hsz.out]; omega))
    obtain ⟨⟨x0, x1, x2⟩, xf⟩ := ht1j.out
    have xf1 := xf 1
    obtain ⟨g, c, rfl, hgc, hgB, hgw, -, -, -, -⟩ := hown.parts hne.out
    rw [hsz.out] at hgB
    have hgw' := Lib.hid hgw
    have hnl := hn'.out.symm
    have hown' := Lib.hid hown
    have hbc' := Lib.hid hbc
    clear xf hown hbc hgw)
  have hJ0 : OwnJ (wj.setCell ⟨w.heap.size, 1, none⟩ (.slice (some ⟨g, 0, none⟩) n c)) (w.heap.size + 2) (.slice (some ⟨g, 0, none⟩) n c) (capI x js 0) := by
    have := hown'.out
    rw [hsz.out, hnl] at this
    rw [capI_zero]
    exact ownsRow_setCell_below this (by show w.heap.size < _; omega) _
  have hwa := below_set (k := 1) (u := .slice (some ⟨g, 0, none⟩) n c) (hwb.out.trans (hbc'.out.mono (by rw [hsz.out]; omega))) (Nat.le_refl _)
  have hT1 : Three (wj.setCell ⟨w.heap.size, 1, none⟩ (.slice (some ⟨g, 0, none⟩) n c)) w.heap.size (.int .i64 P) (.slice (some ⟨g, 0, none⟩) n c) (.slice oa m oc) := ⟨⟨by rw [World.cell?_setCell_other _ _ _ _ (by simp)]; exact x0, World.cell?_setCell_same' _ _ _ (by rw [x1]; rfl), by rw [World.cell?_setCell_other _ _ _ _ (by simp)]; exact x2⟩, fun j => by simpa using ht1j.out.2 j⟩
  have hT2 : Three (wj.setCell ⟨w.heap.size, 1, none⟩ (.slice (some ⟨g, 0, none⟩) n c)) (w.heap.size + 1) (.int .i64 0) (.slice none 0 0) (.slice none 0 0) := ht2j.out.other (by omega)
  have hnc : n ≤ c := by omega
  have hgb : w.heap.size ≤ g := by omega
  have hg1 : ¬ (g = w.heap.size) := by omega
  have hg2 : ¬ (g = w.heap.size + 1) := by omega
  obtain ⟨wa, hwaq⟩ : ∃ wa, wa = wj.setCell ⟨w.heap.size, 1, none⟩ (.slice (some ⟨g, 0, none⟩) n c) := ⟨_, rfl⟩
  rw [← hwaq] at hJ0 hwa hT1 hT2 ⊢
  clear hwaq hown' ht1j ht2j x0 x1 x2 xf1 kf k0 k1 k2 ht1 ht2 hj1 hcl hgw' hbc' hgB hgc
  go_loopw [13] (fun iv wr => ∃ i : Nat, i ≤ n ∧ iv = .int .i64 i ∧ Hid (OwnJ wr (w.heap.size + 2) (.slice (some ⟨g, 0, none⟩) n c) (capI x js i)) ∧ Hid (Three wr w.heap.size (.int .i64 P) (.slice (some ⟨g, 0, none⟩) n c) (.slice oa m oc)) ∧ Hid (Three wr (w.heap.size + 1) (.int .i64 0) (.slice none 0 0) (.slice none 0 0)) ∧ Hid (Below w.heap.size w wr)) (fun iv _ => n - (intOf iv).toNat)
  case atStart => exact ⟨0, Nat.zero_le _, rfl, Lib.hid hJ0, Lib.hid hT1, Lib.hid hT2, Lib.hid hwa⟩
  case round =>
    clear hJ0 hwa hT1 hT2
    obtain ⟨i, hi, rfl, hJ, hT1, hT2, hbw⟩ := hrel
    by_cases hin : i < n
    · obtain ⟨g', c', e', -, -, -, hfz, hat2, -, hst⟩ := hJ.out.parts (by intro e; have := capI_len x js i; rw [e, hnl] at this; simp at this; omega)
      rw [capI_len, hnl] at e' hat2 hst
      obtain ⟨rfl, rfl⟩ : g = g' ∧ c = c' := by injection e' with a _ b; injection a with a; injection a with a; exact ⟨a, b⟩
      have d1 := (hat2 i hin).2.1
      have hJ3 := Lib.hid (hst i (min (js.getD i J0).t x) hin)
      have fz := hfz (i * 4 + 1)
      rw [capI_get x js (by omega)] at d1 hJ3
      rw [capI_succ x js (by omega)] at hJ3
      obtain ⟨⟨y0, y1, y2⟩, -⟩ := hT1.out
      obtain ⟨t, ht⟩ : ∃ t, t = (js.getD i J0).t := ⟨_, rfl⟩
      rw [← ht] at d1 hJ3
      have hmin : min t x = if x < t then x else t := by split <;> omega
      rw [hmin] at hJ3
      have hic : (i : Int) < (n : Int) := by omega
      have hT1' := Lib.hid (hT1.out.other (j := i * 4 + 1) (u := .int .i64 (if x < t then x else t)) hg1)
      have hT2' := Lib.hid (hT2.out.other (j := i * 4 + 1) (u := .int .i64 (if x < t then x else t)) hg2)
      have hb' := Lib.hid ((below_set (k := i * 4 + 1) (u := .int .i64 (if x < t then x else t)) hbw.out hgb).drew)
      clear e' hst hat2 hfz ht hmin
      go_wp2_with fail
      refine wp_region_still_tail 13 (by kernel_rfl) (by kernel_rfl) ?_
      simp only [List.take_succ_cons, List.take_zero, List.drop_succ_cons, List.drop_zero]
      iterate 13 still_step
      refine wpStill_nil ?_
      go_wp2_with fail
      exact ⟨⟨i + 1, by omega, by go_num, hJ3, hT1', hT2', hb'⟩, by simp [intOf]; omega⟩
    · obtain rfl : i = n := by omega
      obtain ⟨⟨y0, y1, y2⟩, -⟩ := hT1.out
      obtain ⟨⟨z0, z1, z2⟩, zf⟩ := hT2.out
      have f0 := zf 0
      have f1 := zf 1
      have f2 := zf 2
      have hb := below_set (k := 2) (u := .slice oa m oc) (below_set (k := 1) (u := .slice (some ⟨g, 0, none⟩) i c) (below_set (k := 0) (u := .int .i64 P) hbw.out (show w.heap.size ≤ w.heap.size + 1 by omega)) (show w.heap.size ≤ w.heap.size + 1 by omega)) (show w.heap.size ≤ w.heap.size + 1 by omega)
      have hr := (hT2.out.stored (x := .int .i64 P) (y := .slice (some ⟨g, 0, none⟩) i c) (z := .slice oa m oc)).range
      have hb' := Lib.hid hb
      have hr' := Lib.hid hr
      clear hb hr zf
      go_wp2_with fail
      refine bodyPost_ret (results_cell_mid rfl _ _ (w.heap.size + 1) _ _ rfl hr'.out Try.underlying81 rfl (by kernel_rfl)) rfl ?_
      refine ⟨_, rfl, ⟨_, _, rfl, ?_, ho'.out.below hb'.out⟩, hb'.out⟩
      have hJ3 := hJ.out
      rw [← hnl, capI_all, hnl] at hJ3
      have hs : ∀ k u W, OwnJ W (w.heap.size + 2) (.slice (some ⟨g, 0, none⟩) i c) (js.map (capJ x)) → OwnJ (W.setCell ⟨w.heap.size + 1, k, none⟩ u) (w.heap.size + 2) (.slice (some ⟨g, 0, none⟩) i c) (js.map (capJ x)) := fun k u W h => ownsRow_setCell_below h (by show w.heap.size + 1 < _; omega) u
      exact (hs _ _ _ (hs _ _ _ (hs _ _ _ hJ3))).reads
end Go.Proofs.Ytjkbhdlbomcbeaa
