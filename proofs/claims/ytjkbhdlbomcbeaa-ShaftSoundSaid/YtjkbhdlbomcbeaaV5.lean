import Derived.Test.YtjkbhdlbomcbeaaV4
import Derived.StillTailTactics
namespace Go.Proofs.Ytjkbhdlbomcbeaa
open Go.RowKit Shf

/-- Jobs of one's own: where they lie, and what a store into job `i` makes of them. -/
theorem OwnJ.parts {w : World} {B : Nat} {v : Value} {js : List J} (h : OwnJ w B v js) (hne : js ≠ []) : ∃ g c, v = .slice (some ⟨g, 0, none⟩) js.length c ∧ js.length ≤ c ∧ B ≤ g ∧ g < w.heap.size ∧ (∀ j, w.frozen? ⟨g, j, none⟩ = false) ∧
    (∀ i, i < js.length → w.cell? ⟨g, i * 4, none⟩ = some (.int .i64 (js.getD i J0).f) ∧ w.cell? ⟨g, i * 4 + 1, none⟩ = some (.int .i64 (js.getD i J0).t) ∧ w.cell? ⟨g, i * 4 + 2, none⟩ = some (.int .i64 (js.getD i J0).l) ∧ w.cell? ⟨g, i * 4 + 3, none⟩ = some (.int .i64 (js.getD i J0).p)) ∧
    (∀ i y, i < js.length → OwnJ (w.setCell ⟨g, i * 4, none⟩ (.int .i64 y)) B v (js.set i { js.getD i J0 with f := y })) ∧
    (∀ i y, i < js.length → OwnJ (w.setCell ⟨g, i * 4 + 1, none⟩ (.int .i64 y)) B v (js.set i { js.getD i J0 with t := y })) := by
  have hh := h
  unfold OwnJ at hh
  have hr := h.reads
  obtain ⟨ao, c, e, hc, hat⟩ := hr.at
  rcases hh.2 with ⟨_, h0⟩ | ⟨g, cap, cur, e2, hB, hg, hn, _⟩
  · exact absurd (List.length_eq_zero_iff.1 h0) hne
  · rw [e2] at e hh
    obtain ⟨rfl, rfl⟩ : some ⟨g, 0, none⟩ = ao ∧ cap = c := by injection e with a _ b; exact ⟨a, b⟩
    refine ⟨g, cap, e2, hc, hB, (Array.getElem?_eq_some_iff.1 hg).1, fun j => hh.frozenAt j, fun i hi => ?_, fun i y hi => ?_, fun i y hi => ?_⟩
    · obtain ⟨g', e3, _, r⟩ := hat i hi
      obtain rfl : g = g' := by injection e3 with e3; injection e3
      exact r
    · have := (hh.stored (i * 4) (.int .i64 y)).1
      unfold OwnJ
      rw [e2, List.length_set, ← flat_set encJ_len js i 0 { js.getD i J0 with f := y } (.int .i64 y) hi (by omega) (fun a ha => by rw [List.getD_eq_getElem?_getD, ha]; rfl)]
      exact this
    · have := (hh.stored (i * 4 + 1) (.int .i64 y)).1
      unfold OwnJ
      rw [e2, List.length_set, ← flat_set encJ_len js i 1 { js.getD i J0 with t := y } (.int .i64 y) hi (by omega) (fun a ha => by rw [List.getD_eq_getElem?_getD, ha]; rfl)]
      exact this
theorem Three.other {W : World} {g h j : Nat} {a b c u : Value} (ht : Three W g a b c) (hg : h ≠ g) : Three (W.setCell ⟨h, j, none⟩ u) g a b c := by
  obtain ⟨⟨h0, h1, h2⟩, hf⟩ := ht
  have ne : ∀ k, (⟨h, j, none⟩ : Addr) ≠ ⟨g, k, none⟩ := fun k e => hg (by injection e)
  refine ⟨⟨?_, ?_, ?_⟩, fun k => ?_⟩
  · rw [World.cell?_setCell_other _ _ _ _ (by simp)]; exact h0
  · rw [World.cell?_setCell_other _ _ _ _ (by simp)]; exact h1
  · rw [World.cell?_setCell_other _ _ _ _ (by simp)]; exact h2
  · simpa using hf k
/-- A shaft with other jobs. -/
def ShEnd (w : World) (P : Int) (js : List J) (os : List (Int × Int)) (e : Ending) (w' : World) : Prop := ∃ v, e = .returned v ∧ ShV w' v P js os ∧ Below w.heap.size w w'
set_option maxHeartbeats 4000000 in
set_option maxRecDepth 100000 in
theorem until61 {w : World} {v : Value} {P : Int} {js : List J} {os : List (Int × Int)} (h : ShV w v P js os) (h7 : js.length ≤ 7) {i : Nat} (hi : i < js.length) {x : Int} (hx : -1000 ≤ x ∧ x ≤ 1000) (hl : -1000 ≤ (js.getD i J0).l ∧ (js.getD i J0).l ≤ 1000) :
    Calls Try.prog 61 #[v, .int .i64 i, .int .i64 x] w (ShEnd w P (js.set i (tillJ (js.getD i J0) x)) os) := by
  obtain ⟨jv, ov, rfl, hj, ho⟩ := h
  have hj' := Lib.hid hj
  have ho' := Lib.hid ho
  obtain ⟨oa, m, oc, rfl⟩ : ∃ oa m oc, ov = .slice oa m oc := by obtain ⟨oa, oc, e, _⟩ := ho; exact ⟨oa, _, oc, e⟩
  obtain ⟨ja, q, jc, rfl⟩ : ∃ oa m oc, jv = .slice oa m oc := by obtain ⟨oa, oc, e, _⟩ := hj; exact ⟨oa, _, oc, e⟩
  have hne := Lib.hid (show js ≠ [] by intro e; rw [e] at hi; simp at hi)
  obtain ⟨n, hn⟩ : ∃ n, n = js.length := ⟨_, rfl⟩
  have hn' := Lib.hid hn
  rw [← hn] at h7 hi
  have hwb := Lib.hid (((Below.refl w.heap.size w).alloc (Nat.le_refl _) (.cells #[.int .i64 P, (.slice ja q jc), (.slice oa m oc)] 81)).alloc (by simp) (.cells #[.int .i64 0, .slice none 0 0, .slice none 0 0] 81))
  have ht1 := Lib.hid ((Three.new w (.int .i64 P) (.slice ja q jc) (.slice oa m oc) 81).keep (below_alloc1 _ (.cells #[.int .i64 0, .slice none 0 0, .slice none 0 0] 81)) (by simp))
  have ht2 := Lib.hid (Three.new (w.alloc (.cells #[.int .i64 P, (.slice ja q jc), (.slice oa m oc)] 81)) (.int .i64 0) (.slice none 0 0) (.slice none 0 0) 81)
  rw [World.size_alloc] at ht2
  obtain ⟨⟨f, t, l, p⟩, hjq⟩ : ∃ j, j = js.getD i J0 := ⟨_, rfl⟩
  rw [← hjq] at hl ⊢
  simp only at hl
  have hjq' := Lib.hid hjq
  clear hj ho hn hjq
  have hcl := Lib.hid (fun (W : World) (h : ReadsJ W (.slice ja q jc) js) => clone63 h hne.out (by rw [← hn'.out]; exact h7))
  have hj1 := Lib.hid (hj'.out.below hwb.out)
  have hsz := Lib.hid (show ((w.alloc (.cells #[.int .i64 P, (.slice ja q jc), (.slice oa m oc)] 81)).alloc (.cells #[.int .i64 0, .slice none 0 0, .slice none 0 0] 81)).heap.size = w.heap.size + 1 + 1 by simp)
  obtain ⟨⟨k0, k1, k2⟩, kf⟩ := ht1.out
  go_enter Try.func61, Try.ntmps61
  go_wp2_with (
    go_at_call 63; refine (hcl.out _ hj1.out).mono ?_; rintro e wj ⟨jw, rfl, hown, hbc⟩
    have ht1j := Lib.hid (ht1.out.keep hbc (by rw [hsz.out]; omega))
    have ht2j := Lib.hid (ht2.out.keep hbc (by rw [hsz.out]; omega))
    obtain ⟨⟨x0, x1, x2⟩, xf⟩ := ht1j.out
    have xf1 := xf 1
    obtain ⟨g, c, rfl, hgc, hgB, hgw, -, hat, -, -⟩ := hown.parts hne.out
    rw [hsz.out] at hgB
    have hgw' := Lib.hid hgw
    have hat' := Lib.hid hat
    have hnl := hn'.out.symm
    have hown' := Lib.hid hown
    have hbc' := Lib.hid hbc
    clear xf hown hbc hat hgw)
  rename_i K hK0
  have hK := Lib.hid hK0
  clear hK0
  have hJ2 : OwnJ (wj.setCell ⟨w.heap.size, 1, none⟩ (.slice (some ⟨g, 0, none⟩) n c)) (w.heap.size + 2) (.slice (some ⟨g, 0, none⟩) n c) js := by
    have := hown'.out
    rw [hsz.out, hnl] at this
    exact ownsRow_setCell_below this (by show w.heap.size < _; omega) _
  have hwa := Lib.hid (below_set (k := 1) (u := .slice (some ⟨g, 0, none⟩) n c) (hwb.out.trans (hbc'.out.mono (by rw [hsz.out]; omega))) (Nat.le_refl _))
  have y0 : (wj.setCell ⟨w.heap.size, 1, none⟩ (.slice (some ⟨g, 0, none⟩) n c)).cell? ⟨w.heap.size, 0, none⟩ = some (.int .i64 P) := by rw [World.cell?_setCell_other _ _ _ _ (by simp)]; exact x0
  have y1 : (wj.setCell ⟨w.heap.size, 1, none⟩ (.slice (some ⟨g, 0, none⟩) n c)).cell? ⟨w.heap.size, 1, none⟩ = some (.slice (some ⟨g, 0, none⟩) n c) := World.cell?_setCell_same' _ _ _ (by rw [x1]; rfl)
  have y2 : (wj.setCell ⟨w.heap.size, 1, none⟩ (.slice (some ⟨g, 0, none⟩) n c)).cell? ⟨w.heap.size, 2, none⟩ = some (.slice oa m oc) := by rw [World.cell?_setCell_other _ _ _ _ (by simp)]; exact x2
  have hz2 := Lib.hid (show Three (wj.setCell ⟨w.heap.size, 1, none⟩ (.slice (some ⟨g, 0, none⟩) n c)) (w.heap.size + 1) (.int .i64 0) (.slice none 0 0) (.slice none 0 0) from ht2j.out.other (by simp))
  obtain ⟨wa, hwaq⟩ : ∃ wa, wa = wj.setCell ⟨w.heap.size, 1, none⟩ (.slice (some ⟨g, 0, none⟩) n c) := ⟨_, rfl⟩
  rw [← hwaq] at hJ2 hwa y0 y1 y2 hz2 ⊢
  obtain ⟨g', c', e', -, -, hgw2, hfz, hat2, -, hst⟩ := hJ2.parts hne.out
  obtain ⟨rfl, rfl⟩ : g = g' ∧ c = c' := by injection e' with a _ b; injection a with a; injection a with a; exact ⟨a, b⟩
  have d2 := (hat2 i (by rw [hnl]; exact hi)).2.2.1
  have d1 := (hat2 i (by rw [hnl]; exact hi)).2.1
  have hJ3 := Lib.hid (hst i (x + l) (by rw [hnl]; exact hi))
  have fz := hfz (i * 4 + 1)
  rw [← hjq'.out] at d2 d1 hJ3
  simp only at d2 d1 hJ3
  have hnc : n ≤ c := by omega
  have hic : (i : Int) < (n : Int) := by omega
  clear hwaq e' hst hat2 hfz hJ2 hown' hat' ht1j ht2j x0 x1 x2 xf1 kf k0 k1 k2
  clear ht1 ht2 hj1 hcl
  refine wp_region_still_tail 13 (by kernel_rfl) (by kernel_rfl) ?_
  simp only [List.take_succ_cons, List.take_zero, List.drop_succ_cons, List.drop_zero]
  iterate 13 still_step
  refine wpStill_nil ?_
  go_wp2_with fail
  refine hK.out _ _ ?_
  have hgb : w.heap.size ≤ g := by omega
  have hwb3 := Lib.hid ((below_set (k := i * 4 + 1) (u := .int .i64 (x + l)) hwa.out hgb).drew)
  have hz3 := Lib.hid (show Three (wa.setCell ⟨g, i * 4 + 1, none⟩ (.int .i64 (x + l))).drew (w.heap.size + 1) (.int .i64 0) (.slice none 0 0) (.slice none 0 0) from hz2.out.other (by omega))
  have hg1 : ¬ (g = w.heap.size) := by omega
  have c0 : (wa.setCell ⟨g, i * 4 + 1, none⟩ (.int .i64 (x + l))).drew.cell? ⟨w.heap.size, 0, none⟩ = some (.int .i64 P) := (World.cell?_setCell_other _ _ _ _ (by simp)).trans y0
  have c1 : (wa.setCell ⟨g, i * 4 + 1, none⟩ (.int .i64 (x + l))).drew.cell? ⟨w.heap.size, 1, none⟩ = some (.slice (some ⟨g, 0, none⟩) n c) := (World.cell?_setCell_other _ _ _ _ (by simp)).trans y1
  have c2 : (wa.setCell ⟨g, i * 4 + 1, none⟩ (.int .i64 (x + l))).drew.cell? ⟨w.heap.size, 2, none⟩ = some (.slice oa m oc) := (World.cell?_setCell_other _ _ _ _ (by simp)).trans y2
  have hJ4 := Lib.hid (show OwnJ (wa.setCell ⟨g, i * 4 + 1, none⟩ (.int .i64 (x + l))).drew (w.heap.size + 2) (.slice (some ⟨g, 0, none⟩) n c) (js.set i ⟨f, x + l, l, p⟩) from hJ3.out)
  obtain ⟨wb, hwbq⟩ : ∃ wb, wb = (wa.setCell ⟨g, i * 4 + 1, none⟩ (.int .i64 (x + l))).drew := ⟨_, rfl⟩
  rw [← hwbq] at hwb3 hz3 c0 c1 c2 hJ4 ⊢
  clear hwbq hJ3 hz2 hwa y0 y1 y2 d1 d2 fz hgw2
  obtain ⟨⟨z0, z1, z2⟩, zf⟩ := hz3.out
  have f0 := zf 0
  have f1 := zf 1
  have f2 := zf 2
  have hb2 : ¬ (w.heap.size + 1 = w.heap.size) := by omega
  clear zf hK
  have hend := Lib.hid (show ShV (((wb.setCell ⟨w.heap.size + 1, 0, none⟩ (.int .i64 P)).setCell ⟨w.heap.size + 1, 1, none⟩ (.slice (some ⟨g, 0, none⟩) n c)).setCell ⟨w.heap.size + 1, 2, none⟩ (.slice oa m oc)) (.agg #[.int .i64 P, .slice (some ⟨g, 0, none⟩) n c, (.slice oa m oc)]) P (js.set i ⟨f, x + l, l, p⟩) os ∧ Below w.heap.size w (((wb.setCell ⟨w.heap.size + 1, 0, none⟩ (.int .i64 P)).setCell ⟨w.heap.size + 1, 1, none⟩ (.slice (some ⟨g, 0, none⟩) n c)).setCell ⟨w.heap.size + 1, 2, none⟩ (.slice oa m oc)) from by
    have hb := below_set (k := 2) (u := (.slice oa m oc)) (below_set (k := 1) (u := .slice (some ⟨g, 0, none⟩) n c) (below_set (k := 0) (u := .int .i64 P) hwb3.out (show w.heap.size ≤ w.heap.size + 1 by omega)) (show w.heap.size ≤ w.heap.size + 1 by omega)) (show w.heap.size ≤ w.heap.size + 1 by omega)
    refine ⟨⟨_, _, rfl, ?_, ho'.out.below hb⟩, hb⟩
    have hs : ∀ k u W, OwnJ W (w.heap.size + 2) (.slice (some ⟨g, 0, none⟩) n c) (js.set i ⟨f, x + l, l, p⟩) → OwnJ (W.setCell ⟨w.heap.size + 1, k, none⟩ u) (w.heap.size + 2) (.slice (some ⟨g, 0, none⟩) n c) (js.set i ⟨f, x + l, l, p⟩) := fun k u W h => ownsRow_setCell_below h (by show w.heap.size + 1 < _; omega) u
    exact (hs _ _ _ (hs _ _ _ (hs _ _ _ hJ4.out))).reads)
  go_wp2_with fail
  refine bodyPost_ret (results_cell_mid rfl _ _ (w.heap.size + 1) _ _ rfl hz3.out.stored.range Try.underlying81 rfl (by kernel_rfl)) rfl ?_
  exact ⟨_, rfl, hend.out.1, hend.out.2⟩
end Go.Proofs.Ytjkbhdlbomcbeaa

namespace Go.Proofs.Ytjkbhdlbomcbeaa
open Go.RowKit Shf

set_option maxHeartbeats 4000000 in
set_option maxRecDepth 100000 in
theorem after70 {w : World} {v : Value} {P : Int} {js : List J} {os : List (Int × Int)} (h : ShV w v P js os) (h7 : js.length ≤ 7) {i : Nat} (hi : i < js.length) {x : Int} (hx : -1000 ≤ x ∧ x ≤ 1000) :
    Calls Try.prog 70 #[v, .int .i64 i, .int .i64 x] w (ShEnd w P (js.set i (afterJ (js.getD i J0) x)) os) := by
  obtain ⟨jv, ov, rfl, hj, ho⟩ := h
  have hj' := Lib.hid hj
  have ho' := Lib.hid ho
  obtain ⟨oa, m, oc, rfl⟩ : ∃ oa m oc, ov = .slice oa m oc := by obtain ⟨oa, oc, e, _⟩ := ho; exact ⟨oa, _, oc, e⟩
  obtain ⟨ja, q, jc, rfl⟩ : ∃ oa m oc, jv = .slice oa m oc := by obtain ⟨oa, oc, e, _⟩ := hj; exact ⟨oa, _, oc, e⟩
  have hne := Lib.hid (show js ≠ [] by intro e; rw [e] at hi; simp at hi)
  obtain ⟨n, hn⟩ : ∃ n, n = js.length := ⟨_, rfl⟩
  have hn' := Lib.hid hn
  rw [← hn] at h7 hi
  have hwb := Lib.hid (((Below.refl w.heap.size w).alloc (Nat.le_refl _) (.cells #[.int .i64 P, (.slice ja q jc), (.slice oa m oc)] 81)).alloc (by simp) (.cells #[.int .i64 0, .slice none 0 0, .slice none 0 0] 81))
  have ht1 := Lib.hid ((Three.new w (.int .i64 P) (.slice ja q jc) (.slice oa m oc) 81).keep (below_alloc1 _ (.cells #[.int .i64 0, .slice none 0 0, .slice none 0 0] 81)) (by simp))
  have ht2 := Lib.hid (Three.new (w.alloc (.cells #[.int .i64 P, (.slice ja q jc), (.slice oa m oc)] 81)) (.int .i64 0) (.slice none 0 0) (.slice none 0 0) 81)
  rw [World.size_alloc] at ht2
  obtain ⟨⟨f, t, l, p⟩, hjq⟩ : ∃ j, j = js.getD i J0 := ⟨_, rfl⟩
  rw [← hjq]
  have hjq' := Lib.hid hjq
  clear hj ho hn hjq
  have hcl := Lib.hid (fun (W : World) (h : ReadsJ W (.slice ja q jc) js) => clone63 h hne.out (by rw [← hn'.out]; exact h7))
  have hj1 := Lib.hid (hj'.out.below hwb.out)
  have hsz := Lib.hid (show ((w.alloc (.cells #[.int .i64 P, (.slice ja q jc), (.slice oa m oc)] 81)).alloc (.cells #[.int .i64 0, .slice none 0 0, .slice none 0 0] 81)).heap.size = w.heap.size + 1 + 1 by simp)
  obtain ⟨⟨k0, k1, k2⟩, kf⟩ := ht1.out
  go_enter Try.func70, Try.ntmps70
  go_wp2_with (
    go_at_call 63; refine (hcl.out _ hj1.out).mono ?_; rintro e wj ⟨jw, rfl, hown, hbc⟩
    have ht1j := Lib.hid (ht1.out.keep hbc (by rw [hsz.out]; omega))
    have ht2j := Lib.hid (ht2.out.keep hbc (by rw [hsz.out]; omega))
    obtain ⟨⟨x0, x1, x2⟩, xf⟩ := ht1j.out
    have xf1 := xf 1
    obtain ⟨⟨z0, z1, z2⟩, zf⟩ := ht2j.out
    have f0 := zf 0
    have f1 := zf 1
    have f2 := zf 2
    obtain ⟨g, c, rfl, hgc, hgB, hgw, hfz, hat, -, -⟩ := hown.parts hne.out
    rw [hsz.out] at hgB
    have hgw' := Lib.hid hgw
    have hnl := hn'.out.symm
    have d0 := (hat i (by rw [hnl]; exact hi)).1
    have fz := hfz (i * 4)
    have hown' := Lib.hid hown
    have hbc' := Lib.hid hbc
    have hnc : n ≤ c := by omega
    have hic : (i : Int) < (n : Int) := by omega
    have hg1 : ¬ (g = w.heap.size) := by omega
    have hg2 : ¬ (g = w.heap.size + 1) := by omega
    have hg3 : ¬ (w.heap.size = g) := by omega
    have hg4 : ¬ (w.heap.size + 1 = g) := by omega
    clear xf zf hown hbc hat hgw hfz)
  have hb0 := below_set (k := 0) (u := .int .i64 P) (below_set (k := i * 4) (u := .int .i64 (x + 1)) (below_set (k := 1) (u := .slice (some ⟨g, 0, none⟩) n c) (hwb.out.trans (hbc'.out.mono (by rw [hsz.out]; omega))) (Nat.le_refl _)) (show w.heap.size ≤ g by omega)) (show w.heap.size ≤ w.heap.size + 1 by omega)
  have hb := below_set (k := 2) (u := .slice oa m oc) (below_set (k := 1) (u := .slice (some ⟨g, 0, none⟩) n c) hb0 (show w.heap.size ≤ w.heap.size + 1 by omega)) (show w.heap.size ≤ w.heap.size + 1 by omega)
  have hr := (((ht2j.out.other (j := 1) (u := .slice (some ⟨g, 0, none⟩) n c) (show w.heap.size ≠ w.heap.size + 1 by omega)).other (j := i * 4) (u := .int .i64 (x + 1)) hg2).stored (x := .int .i64 P) (y := .slice (some ⟨g, 0, none⟩) n c) (z := .slice oa m oc)).range
  refine bodyPost_ret (results_cell_mid rfl _ _ (w.heap.size + 1) _ _ rfl hr Try.underlying81 rfl (by kernel_rfl)) rfl ?_
  refine ⟨_, rfl, ⟨_, _, rfl, ?_, ho'.out.below hb⟩, hb⟩
  have hJ2 : OwnJ (wj.setCell ⟨w.heap.size, 1, none⟩ (.slice (some ⟨g, 0, none⟩) n c)) (w.heap.size + 2) (.slice (some ⟨g, 0, none⟩) n c) js := by
    have := hown'.out
    rw [hsz.out, hnl] at this
    exact ownsRow_setCell_below this (by show w.heap.size < _; omega) _
  obtain ⟨g', c', e', -, -, -, -, -, hst, -⟩ := hJ2.parts hne.out
  obtain ⟨rfl, rfl⟩ : g = g' ∧ c = c' := by injection e' with a _ b; injection a with a; injection a with a; exact ⟨a, b⟩
  have hJ3 := hst i (x + 1) (by rw [hnl]; exact hi)
  rw [← hjq'.out] at hJ3
  have hs : ∀ k u W, OwnJ W (w.heap.size + 2) (.slice (some ⟨g, 0, none⟩) n c) (js.set i ⟨x + 1, t, l, p⟩) → OwnJ (W.setCell ⟨w.heap.size + 1, k, none⟩ u) (w.heap.size + 2) (.slice (some ⟨g, 0, none⟩) n c) (js.set i ⟨x + 1, t, l, p⟩) := fun k u W h => ownsRow_setCell_below h (by show w.heap.size + 1 < _; omega) u
  exact (hs _ _ _ (hs _ _ _ (hs _ _ _ hJ3))).reads
end Go.Proofs.Ytjkbhdlbomcbeaa

namespace Go.Proofs.Ytjkbhdlbomcbeaa
open Go.RowKit Shf

def capJ (x : Int) (j : J) : J := { j with t := min j.t x }
def capI (x : Int) (js : List J) (i : Nat) : List J := (js.take i).map (capJ x) ++ js.drop i
theorem capI_zero (x : Int) (js : List J) : capI x js 0 = js := by simp [capI]
theorem capI_all (x : Int) (js : List J) : capI x js js.length = js.map (capJ x) := by simp [capI]
theorem capI_len (x : Int) (js : List J) (i : Nat) : (capI x js i).length = js.length := by simp [capI]; omega
theorem capI_get (x : Int) (js : List J) {i : Nat} (_h : i < js.length) : (capI x js i).getD i J0 = js.getD i J0 := by
  unfold capI
  rw [List.getD_eq_getElem?_getD, List.getElem?_append_right (by simp; omega), List.getElem?_drop, List.getD_eq_getElem?_getD]
  congr 2
  simp; omega
theorem capI_succ (x : Int) (js : List J) {i : Nat} (h : i < js.length) : (capI x js i).set i { js.getD i J0 with t := min (js.getD i J0).t x } = capI x js (i + 1) := by
  unfold capI
  rw [List.set_append_right _ _ (by simp; omega), show i - (List.map (capJ x) (js.take i)).length = 0 by simp; omega, List.drop_eq_getElem_cons h, List.set_cons_zero, List.take_succ_eq_append_getElem h, List.map_append, List.append_assoc]
  simp [capJ, List.getD_eq_getElem?_getD, h]
set_option maxHeartbeats 4000000 in
set_option maxRecDepth 100000 in
theorem ending45 {w : World} {v : Value} {P : Int} {js : List J} {os : List (Int × Int)} (h : ShV w v P js os) (h7 : js.length ≤ 7) (hne' : js ≠ []) (x : Int) :
    Calls Try.prog 45 #[v, .int .i64 x] w (ShEnd w P (js.map (capJ x)) os) := by
  obtain ⟨jv, ov, rfl, hj, ho⟩ := h
  have hj' := Lib.hid hj
  have ho' := Lib.hid ho
  obtain ⟨oa, m, oc, rfl⟩ : ∃ oa m oc, ov = .slice oa m oc := by obtain ⟨oa, oc, e, _⟩ := ho; exact ⟨oa, _, oc, e⟩
  obtain ⟨ja, q, jc, rfl⟩ : ∃ oa m oc, jv = .slice oa m oc := by obtain ⟨oa, oc, e, _⟩ := hj; exact ⟨oa, _, oc, e⟩
  have hne := Lib.hid hne'
  obtain ⟨n, hn⟩ : ∃ n, n = js.length := ⟨_, rfl⟩
  have hn' := Lib.hid hn
  rw [← hn] at h7
  have hwb := Lib.hid (((Below.refl w.heap.size w).alloc (Nat.le_refl _) (.cells #[.int .i64 P, (.slice ja q jc), (.slice oa m oc)] 81)).alloc (by simp) (.cells #[.int .i64 0, .slice none 0 0, .slice none 0 0] 81))
  have ht1 := Lib.hid ((Three.new w (.int .i64 P) (.slice ja q jc) (.slice oa m oc) 81).keep (below_alloc1 _ (.cells #[.int .i64 0, .slice none 0 0, .slice none 0 0] 81)) (by simp))
  have ht2 := Lib.hid (Three.new (w.alloc (.cells #[.int .i64 P, (.slice ja q jc), (.slice oa m oc)] 81)) (.int .i64 0) (.slice none 0 0) (.slice none 0 0) 81)
  rw [World.size_alloc] at ht2
  clear hj ho hn hne'
  have hcl := Lib.hid (fun (W : World) (h : ReadsJ W (.slice ja q jc) js) => clone63 h hne.out (by rw [← hn'.out]; exact h7))
  have hj1 := Lib.hid (hj'.out.below hwb.out)
  have hsz := Lib.hid (show ((w.alloc (.cells #[.int .i64 P, (.slice ja q jc), (.slice oa m oc)] 81)).alloc (.cells #[.int .i64 0, .slice none 0 0, .slice none 0 0] 81)).heap.size = w.heap.size + 1 + 1 by simp)
  obtain ⟨⟨k0, k1, k2⟩, kf⟩ := ht1.out
  go_enter Try.func45, Try.ntmps45
  go_wp2_with (
    go_at_call 63; refine (hcl.out _ hj1.out).mono ?_; rintro e wj ⟨jw, rfl, hown, hbc⟩
    have ht1j := Lib.hid (ht1.out.keep hbc (by rw [hsz.out]; omega))
    have ht2j := Lib.hid (ht2.out.keep hbc (by rw [hsz.out]; omega))
    obtain ⟨⟨x0, x1, x2⟩, xf⟩ := ht1j.out
    have xf1 := xf 1
    obtain ⟨g, c, rfl, hgc, hgB, hgw, -, -, -, -⟩ := hown.parts hne.out
    rw [hsz.out] at hgB
    have hgw' := Lib.hid hgw
    have hnl := hn'.out.symm
    have hown' := Lib.hid hown
    have hbc' := Lib.hid hbc
    clear xf hown hbc hgw)
  have hJ0 : OwnJ (wj.setCell ⟨w.heap.size, 1, none⟩ (.slice (some ⟨g, 0, none⟩) n c)) (w.heap.size + 2) (.slice (some ⟨g, 0, none⟩) n c) (capI x js 0) := by
    have := hown'.out
    rw [hsz.out, hnl] at this
    rw [capI_zero]
    exact ownsRow_setCell_below this (by show w.heap.size < _; omega) _
  have hwa := below_set (k := 1) (u := .slice (some ⟨g, 0, none⟩) n c) (hwb.out.trans (hbc'.out.mono (by rw [hsz.out]; omega))) (Nat.le_refl _)
  have hT1 : Three (wj.setCell ⟨w.heap.size, 1, none⟩ (.slice (some ⟨g, 0, none⟩) n c)) w.heap.size (.int .i64 P) (.slice (some ⟨g, 0, none⟩) n c) (.slice oa m oc) := ⟨⟨by rw [World.cell?_setCell_other _ _ _ _ (by simp)]; exact x0, World.cell?_setCell_same' _ _ _ (by rw [x1]; rfl), by rw [World.cell?_setCell_other _ _ _ _ (by simp)]; exact x2⟩, fun j => by simpa using ht1j.out.2 j⟩
  have hT2 : Three (wj.setCell ⟨w.heap.size, 1, none⟩ (.slice (some ⟨g, 0, none⟩) n c)) (w.heap.size + 1) (.int .i64 0) (.slice none 0 0) (.slice none 0 0) := ht2j.out.other (by omega)
  have hnc : n ≤ c := by omega
  have hgb : w.heap.size ≤ g := by omega
  have hg1 : ¬ (g = w.heap.size) := by omega
  have hg2 : ¬ (g = w.heap.size + 1) := by omega
  obtain ⟨wa, hwaq⟩ : ∃ wa, wa = wj.setCell ⟨w.heap.size, 1, none⟩ (.slice (some ⟨g, 0, none⟩) n c) := ⟨_, rfl⟩
  rw [← hwaq] at hJ0 hwa hT1 hT2 ⊢
  clear hwaq hown' ht1j ht2j x0 x1 x2 xf1 kf k0 k1 k2 ht1 ht2 hj1 hcl hgw' hbc' hgB hgc
  go_loopw [13] (fun iv wr => ∃ i : Nat, i ≤ n ∧ iv = .int .i64 i ∧ Hid (OwnJ wr (w.heap.size + 2) (.slice (some ⟨g, 0, none⟩) n c) (capI x js i)) ∧ Hid (Three wr w.heap.size (.int .i64 P) (.slice (some ⟨g, 0, none⟩) n c) (.slice oa m oc)) ∧ Hid (Three wr (w.heap.size + 1) (.int .i64 0) (.slice none 0 0) (.slice none 0 0)) ∧ Hid (Below w.heap.size w wr)) (fun iv _ => n - (intOf iv).toNat)
  case atStart => exact ⟨0, Nat.zero_le _, rfl, Lib.hid hJ0, Lib.hid hT1, Lib.hid hT2, Lib.hid hwa⟩
  case round =>
    clear hJ0 hwa hT1 hT2
    obtain ⟨i, hi, rfl, hJ, hT1, hT2, hbw⟩ := hrel
    by_cases hin : i < n
    · obtain ⟨g', c', e', -, -, -, hfz, hat2, -, hst⟩ := hJ.out.parts (by intro e; have := capI_len x js i; rw [e, hnl] at this; simp at this; omega)
      rw [capI_len, hnl] at e' hat2 hst
      obtain ⟨rfl, rfl⟩ : g = g' ∧ c = c' := by injection e' with a _ b; injection a with a; injection a with a; exact ⟨a, b⟩
      have d1 := (hat2 i hin).2.1
      have hJ3 := Lib.hid (hst i (min (js.getD i J0).t x) hin)
      have fz := hfz (i * 4 + 1)
      rw [capI_get x js (by omega)] at d1 hJ3
      rw [capI_succ x js (by omega)] at hJ3
      obtain ⟨⟨y0, y1, y2⟩, -⟩ := hT1.out
      obtain ⟨t, ht⟩ : ∃ t, t = (js.getD i J0).t := ⟨_, rfl⟩
      rw [← ht] at d1 hJ3
      have hmin : min t x = if x < t then x else t := by split <;> omega
      rw [hmin] at hJ3
      have hic : (i : Int) < (n : Int) := by omega
      have hT1' := Lib.hid (hT1.out.other (j := i * 4 + 1) (u := .int .i64 (if x < t then x else t)) hg1)
      have hT2' := Lib.hid (hT2.out.other (j := i * 4 + 1) (u := .int .i64 (if x < t then x else t)) hg2)
      have hb' := Lib.hid ((below_set (k := i * 4 + 1) (u := .int .i64 (if x < t then x else t)) hbw.out hgb).drew)
      clear e' hst hat2 hfz ht hmin
      go_wp2_with fail
      refine wp_region_still_tail 13 (by kernel_rfl) (by kernel_rfl) ?_
      simp only [List.take_succ_cons, List.take_zero, List.drop_succ_cons, List.drop_zero]
      iterate 13 still_step
      refine wpStill_nil ?_
      go_wp2_with fail
      exact ⟨⟨i + 1, by omega, by go_num, hJ3, hT1', hT2', hb'⟩, by simp [intOf]; omega⟩
    · obtain rfl : i = n := by omega
      obtain ⟨⟨y0, y1, y2⟩, -⟩ := hT1.out
      obtain ⟨⟨z0, z1, z2⟩, zf⟩ := hT2.out
      have f0 := zf 0
      have f1 := zf 1
      have f2 := zf 2
      have hb := below_set (k := 2) (u := .slice oa m oc) (below_set (k := 1) (u := .slice (some ⟨g, 0, none⟩) i c) (below_set (k := 0) (u := .int .i64 P) hbw.out (show w.heap.size ≤ w.heap.size + 1 by omega)) (show w.heap.size ≤ w.heap.size + 1 by omega)) (show w.heap.size ≤ w.heap.size + 1 by omega)
      have hr := (hT2.out.stored (x := .int .i64 P) (y := .slice (some ⟨g, 0, none⟩) i c) (z := .slice oa m oc)).range
      have hb' := Lib.hid hb
      have hr' := Lib.hid hr
      clear hb hr zf
      go_wp2_with fail
      refine bodyPost_ret (results_cell_mid rfl _ _ (w.heap.size + 1) _ _ rfl hr'.out Try.underlying81 rfl (by kernel_rfl)) rfl ?_
      refine ⟨_, rfl, ⟨_, _, rfl, ?_, ho'.out.below hb'.out⟩, hb'.out⟩
      have hJ3 := hJ.out
      rw [← hnl, capI_all, hnl] at hJ3
      have hs : ∀ k u W, OwnJ W (w.heap.size + 2) (.slice (some ⟨g, 0, none⟩) i c) (js.map (capJ x)) → OwnJ (W.setCell ⟨w.heap.size + 1, k, none⟩ u) (w.heap.size + 2) (.slice (some ⟨g, 0, none⟩) i c) (js.map (capJ x)) := fun k u W h => ownsRow_setCell_below h (by show w.heap.size + 1 < _; omega) u
      exact (hs _ _ _ (hs _ _ _ (hs _ _ _ hJ3))).reads
end Go.Proofs.Ytjkbhdlbomcbeaa

namespace Go.Proofs.Ytjkbhdlbomcbeaa
open Go.RowKit Shf

/-- All that was there stays, but for two blocks. -/
structure Mod (b ge : Nat) (w w' : World) : Prop where
  os : w'.os = w.os
  tape : w'.tape = w.tape
  output : w'.output = w.output
  size : w.heap.size ≤ w'.heap.size
  block : ∀ k, k < w.heap.size → k ≠ b → k ≠ ge → w'.heap[k]? = w.heap[k]?
theorem Mod.refl (b ge : Nat) (w : World) : Mod b ge w w := ⟨rfl, rfl, rfl, Nat.le_refl _, fun _ _ _ _ => rfl⟩
theorem Mod.trans {b ge : Nat} {w1 w2 w3 : World} (h : Mod b ge w1 w2) (k : Mod b ge w2 w3) : Mod b ge w1 w3 :=
  ⟨k.os.trans h.os, k.tape.trans h.tape, k.output.trans h.output, Nat.le_trans h.size k.size, fun i hi h1 h2 => (k.block i (Nat.lt_of_lt_of_le hi h.size) h1 h2).trans (h.block i hi h1 h2)⟩
theorem Mod.of_below {b ge : Nat} {w w' : World} (h : Below w.heap.size w w') : Mod b ge w w' := ⟨h.os, h.tape, h.output, h.size, fun k hk _ _ => h.block k hk⟩
theorem Mod.drew {b ge : Nat} {w w' : World} (h : Mod b ge w w') : Mod b ge w w'.drew := ⟨h.os, h.tape, h.output, h.size, h.block⟩
theorem Mod.set {b ge : Nat} {w w' : World} (h : Mod b ge w w') (g k : Nat) (u : Value) (hg : g = b ∨ g = ge) : Mod b ge w (w'.setCell ⟨g, k, none⟩ u) := by
  have hs := (Below.refl 0 w').setCell (p := ⟨g, k, none⟩) (Nat.zero_le _) u
  refine ⟨hs.os.trans h.os, hs.tape.trans h.tape, hs.output.trans h.output, Nat.le_trans h.size hs.size, fun i hi h1 h2 => ?_⟩
  rw [Below.heap_setCell w' ⟨g, k, none⟩ u i (by rcases hg with rfl | rfl <;> assumption)]
  exact h.block i hi h1 h2
theorem Mod.cell {b ge : Nat} {w w' : World} (h : Mod b ge w w') {p : Addr} (hp : p.block < w.heap.size) (h1 : p.block ≠ b) (h2 : p.block ≠ ge) : w'.cell? p = w.cell? p := World.cell?_of_block (w := w) (h.block p.block hp h1 h2)
theorem Mod.below {b ge C : Nat} {a w w' : World} (h : Mod b ge w w') (hb : Below C a w) (h1 : C ≤ b) (h2 : C ≤ ge) (h3 : C ≤ w.heap.size) : Below C a w' :=
  ⟨h.os.trans hb.os, h.tape.trans hb.tape, h.output.trans hb.output, Nat.le_trans hb.size h.size, fun k hk => (h.block k (by omega) (by omega) (by omega)).trans (hb.block k hk)⟩
def osI (s : Sh) : List (Int × Int) := s.os.map fun o => ((o.1 : Int), (o.2 : Int))
/-- A layout: what it needs at each time, and the ends. -/
structure Lay (w0 w : World) (b ge c : Nat) (jv ov : Value) (s : Sh) (U E : Nat → Int) : Prop where
  rj : ReadsJ w0 jv s.js
  ro : ReadsO w0 ov (osI s)
  below : Below w0.heap.size w0 w
  hb : w0.heap.size ≤ b
  hge : w0.heap.size ≤ ge
  hbw : b < w.heap.size
  hgw : ge < w.heap.size
  hne : b ≠ ge
  hc : s.n ≤ c
  h0 : w.cell? ⟨b, 0, none⟩ = some (.int .i64 s.P)
  h1 : w.cell? ⟨b, 1, none⟩ = some jv
  h2 : w.cell? ⟨b, 2, none⟩ = some ov
  h3 : w.cell? ⟨b, 3, none⟩ = some (.slice (some ⟨ge, 0, none⟩) s.n c)
  used : ∀ t, t < 24 → w.cell? ⟨b, 4 + t, none⟩ = some (.int .i64 (U t))
  ends : ∀ i, i < s.n → w.cell? ⟨ge, i, none⟩ = some (.int .i64 (E i))
  fb : ∀ j, w.frozen? ⟨b, j, none⟩ = false
  fg : ∀ j, w.frozen? ⟨ge, j, none⟩ = false
theorem Lay.keep {w0 w w' : World} {b ge c : Nat} {jv ov : Value} {s : Sh} {U E : Nat → Int} (h : Lay w0 w b ge c jv ov s U E) (k : Below w.heap.size w w') : Lay w0 w' b ge c jv ov s U E where
  rj := h.rj
  ro := h.ro
  below := h.below.trans (k.mono h.below.size)
  hb := h.hb
  hge := h.hge
  hbw := Nat.lt_of_lt_of_le h.hbw k.size
  hgw := Nat.lt_of_lt_of_le h.hgw k.size
  hne := h.hne
  hc := h.hc
  h0 := (k.cell (p := ⟨b, 0, none⟩) h.hbw).trans h.h0
  h1 := (k.cell (p := ⟨b, 1, none⟩) h.hbw).trans h.h1
  h2 := (k.cell (p := ⟨b, 2, none⟩) h.hbw).trans h.h2
  h3 := (k.cell (p := ⟨b, 3, none⟩) h.hbw).trans h.h3
  used := fun t ht => (k.cell (p := ⟨b, 4 + t, none⟩) h.hbw).trans (h.used t ht)
  ends := fun i hi => (k.cell (p := ⟨ge, i, none⟩) h.hgw).trans (h.ends i hi)
  fb := fun j => (k.frozen (p := ⟨b, j, none⟩) h.hbw).trans (h.fb j)
  fg := fun j => (k.frozen (p := ⟨ge, j, none⟩) h.hgw).trans (h.fg j)
theorem Lay.same {w0 w : World} {b ge c : Nat} {jv ov : Value} {s : Sh} {U E U' E' : Nat → Int} (h : Lay w0 w b ge c jv ov s U E) (hU : ∀ t, t < 24 → U t = U' t) (hE : ∀ i, i < s.n → E i = E' i) : Lay w0 w b ge c jv ov s U' E' :=
  { h with used := fun t ht => by rw [← hU t ht]; exact h.used t ht, ends := fun i hi => by rw [← hE i hi]; exact h.ends i hi }
theorem Lay.setU {w0 w : World} {b ge c : Nat} {jv ov : Value} {s : Sh} {U E : Nat → Int} (h : Lay w0 w b ge c jv ov s U E) {k : Nat} (hk : k < 24) (y : Int) :
    Lay w0 (w.setCell ⟨b, 4 + k, none⟩ (.int .i64 y)) b ge c jv ov s (fun t => if t = k then y else U t) E where
  rj := h.rj
  ro := h.ro
  below := below_set h.below h.hb
  hb := h.hb
  hge := h.hge
  hbw := by simpa using h.hbw
  hgw := by simpa using h.hgw
  hne := h.hne
  hc := h.hc
  h0 := by rw [World.cell?_setCell_other _ _ _ _ (by simp)]; exact h.h0
  h1 := by rw [World.cell?_setCell_other _ _ _ _ (by simp <;> omega)]; exact h.h1
  h2 := by rw [World.cell?_setCell_other _ _ _ _ (by simp <;> omega)]; exact h.h2
  h3 := by rw [World.cell?_setCell_other _ _ _ _ (by simp <;> omega)]; exact h.h3
  used := fun t ht => by
    by_cases e : t = k
    · subst e
      rw [if_pos rfl, World.cell?_setCell_same' _ _ _ (by rw [h.used t ht]; rfl)]
    · rw [if_neg e, World.cell?_setCell_other _ _ _ _ (by simp <;> omega)]; exact h.used t ht
  ends := fun i hi => by rw [World.cell?_setCell_other _ _ _ _ (by have := h.hne; simp <;> omega)]; exact h.ends i hi
  fb := fun j => by rw [World.frozen?_setCell]; exact h.fb j
  fg := fun j => by rw [World.frozen?_setCell]; exact h.fg j
theorem Lay.setE {w0 w : World} {b ge c : Nat} {jv ov : Value} {s : Sh} {U E : Nat → Int} (h : Lay w0 w b ge c jv ov s U E) {k : Nat} (hk : k < s.n) (y : Int) :
    Lay w0 (w.setCell ⟨ge, k, none⟩ (.int .i64 y)) b ge c jv ov s U (fun i => if i = k then y else E i) where
  rj := h.rj
  ro := h.ro
  below := below_set h.below h.hge
  hb := h.hb
  hge := h.hge
  hbw := by simpa using h.hbw
  hgw := by simpa using h.hgw
  hne := h.hne
  hc := h.hc
  h0 := by rw [World.cell?_setCell_other _ _ _ _ (by have := h.hne; simp <;> omega)]; exact h.h0
  h1 := by rw [World.cell?_setCell_other _ _ _ _ (by have := h.hne; simp <;> omega)]; exact h.h1
  h2 := by rw [World.cell?_setCell_other _ _ _ _ (by have := h.hne; simp <;> omega)]; exact h.h2
  h3 := by rw [World.cell?_setCell_other _ _ _ _ (by have := h.hne; simp <;> omega)]; exact h.h3
  used := fun t ht => by rw [World.cell?_setCell_other _ _ _ _ (by have := h.hne; simp <;> omega)]; exact h.used t ht
  ends := fun i hi => by
    by_cases e : i = k
    · subst e
      rw [if_pos rfl, World.cell?_setCell_same' _ _ _ (by rw [h.ends i hi]; rfl)]
    · rw [if_neg e, World.cell?_setCell_other _ _ _ _ (by simp <;> omega)]; exact h.ends i hi
  fb := fun j => by rw [World.frozen?_setCell]; exact h.fb j
  fg := fun j => by rw [World.frozen?_setCell]; exact h.fg j
end Go.Proofs.Ytjkbhdlbomcbeaa

namespace Go.Proofs.Ytjkbhdlbomcbeaa
open Go.RowKit Shf

theorem Lay.drew {w0 w : World} {b ge c : Nat} {jv ov : Value} {s : Sh} {U E : Nat → Int} (h : Lay w0 w b ge c jv ov s U E) : Lay w0 w.drew b ge c jv ov s U E := { h with below := h.below.drew }
/-- `p` more from `x` on and before `t`. -/
def addU (U : Nat → Int) (x t : Nat) (p : Int) : Nat → Int := fun k => if x ≤ k ∧ k < t then U k + p else U k
theorem addU_zero (U : Nat → Int) (x : Nat) (p : Int) : addU U x x p = U := by funext k; unfold addU; rw [if_neg (by omega)]
theorem addU_next (U : Nat → Int) {x t : Nat} (h : x ≤ t) (p : Int) : (fun k => if k = t then addU U x t p t + p else addU U x t p k) = addU U x (t + 1) p := by
  funext k
  unfold addU
  by_cases e : k = t
  · subst e; rw [if_pos rfl, if_neg (by omega), if_pos (by omega)]
  · rw [if_neg e]
    by_cases e2 : x ≤ k ∧ k < t
    · rw [if_pos e2, if_pos (by omega)]
    · rw [if_neg e2, if_neg (by omega)]
theorem addU_at (U : Nat → Int) (x t : Nat) (p : Int) : addU U x t p t = U t := by unfold addU; rw [if_neg (by omega)]
def PutEnd (w0 w : World) (b ge c : Nat) (jv ov : Value) (s : Sh) (U E : Nat → Int) (e : Ending) (w' : World) : Prop := e = .returned (.tuple #[]) ∧ Lay w0 w' b ge c jv ov s U E ∧ Mod b ge w w'
set_option maxHeartbeats 4000000 in
set_option maxRecDepth 100000 in
theorem put75 {w0 w : World} {b ge c : Nat} {jv ov : Value} {s : Sh} {U E : Nat → Int} (h : Lay w0 w b ge c jv ov s U E) {i l x : Nat} (hi : i < s.n) (h7 : s.n ≤ 7) (hl : (s.job i).l = (l : Int)) (hx : x + l ≤ 24) {p : Int} (hp : -20 ≤ p ∧ p ≤ 20) (hU : ∀ t, t < 24 → -1000 ≤ U t ∧ U t ≤ 1000) :
    Calls Try.prog 75 #[.pointer (some ⟨b, 0, none⟩), .int .i64 i, .int .i64 x, .int .i64 p] w (PutEnd w0 w b ge c jv ov s (addU U x (x + l) p) E) := by
  obtain ⟨ja, jc, rfl, hjc, hjat⟩ := h.rj.at
  obtain ⟨g, rfl, hg, -, -, k2, -⟩ := hjat i hi
  obtain ⟨n, hn⟩ : ∃ n, n = s.n := ⟨_, rfl⟩
  have hnj : s.js.length = n := hn.symm
  rw [show (s.js.getD i J0).l = (l : Int) from hl] at k2
  rw [hnj] at h hjc ⊢
  rw [← hn] at hi h7
  have h' := Lib.hid h
  have hU' := Lib.hid hU
  have hm0 := Lib.hid (Mod.refl b ge w)
  clear hjat hU h
  have hl24 : l ≤ 24 := by omega
  go_enter Try.func75, Try.ntmps75
  go_wp2_with fail
  go_loopw [8] (fun iv wr => ∃ t : Nat, x ≤ t ∧ t ≤ x + l ∧ iv = .int .i64 t ∧ Hid (Lay w0 wr b ge c (.slice (some ⟨g, 0, none⟩) n jc) ov s (addU U x t p) E) ∧ Hid (Mod b ge w wr)) (fun iv _ => 24 - (intOf iv).toNat)
  case atStart => exact ⟨x, Nat.le_refl _, by omega, rfl, Lib.hid (by rw [addU_zero]; exact h'.out), hm0⟩
  case round =>
    obtain ⟨t, hxt, htl, rfl, hL, hM⟩ := hrel
    have y1 := hL.out.h1
    have d2 := (hL.out.below.cell (p := ⟨g, i * 4 + 2, none⟩) hg).trans k2
    have hin : (i : Int) < (n : Int) := by omega
    by_cases ht : t < x + l
    · have ht24 : t < 24 := by omega
      have hu := hL.out.used t ht24
      rw [addU_at] at hu
      obtain ⟨u, huq⟩ : ∃ u, u = U t := ⟨_, rfl⟩
      have hub := hU'.out t ht24
      have hL1 := (hL.out.setU ht24 (addU U x t p t + p)).drew
      rw [addU_next U hxt p, addU_at] at hL1
      rw [← huq] at hu hub hL1
      have fz := hL.out.fb (4 + t)
      have hL2 := Lib.hid hL1
      have hM2 := Lib.hid (hM.out.set b (4 + t) (.int .i64 (u + p)) (.inl rfl)).drew
      clear huq hL1
      go_wp2_with fail
      refine wp_region_still_tail 11 (by kernel_rfl) (by kernel_rfl) ?_
      simp only [List.take_succ_cons, List.take_zero, List.drop_succ_cons, List.drop_zero]
      have htI : (t : Int) < 24 := by omega
      iterate 11 still_step
      refine wpStill_nil ?_
      go_wp2_with fail
      exact ⟨⟨t + 1, by omega, by omega, by go_num, hL2, hM2⟩, by simp [intOf]; omega⟩
    · obtain rfl : t = x + l := by omega
      have hxl : ¬ ((x : Int) + (l : Int) < (x : Int) + (l : Int)) := by omega
      subst hn
      go_wp2_with fail
      go_end0
      exact ⟨rfl, hL.out, hM.out⟩
end Go.Proofs.Ytjkbhdlbomcbeaa

namespace Go.Proofs.Ytjkbhdlbomcbeaa
open Go.RowKit Shf

def nextO (E : Nat → Int) (u : Nat) (o : Nat × Nat) : Bool := !(decide (o.2 = u) && decide (E o.1 = 0))
theorem osI_at {s : Sh} {j : Nat} : (osI s).getD j (0, 0) = (((s.os.getD j (0, 0)).1 : Int), ((s.os.getD j (0, 0)).2 : Int)) := by
  unfold osI
  rw [List.getD_eq_getElem?_getD, List.getElem?_map, List.getD_eq_getElem?_getD]
  cases s.os[j]? <;> rfl
theorem osI_len (s : Sh) : (osI s).length = s.os.length := by simp [osI]
def NextEnd (w0 w : World) (b ge c : Nat) (jv ov : Value) (s : Sh) (U E : Nat → Int) (v : Bool) (e : Ending) (w' : World) : Prop := e = .returned (.bool v) ∧ Lay w0 w' b ge c jv ov s U E ∧ Below w.heap.size w w'
set_option maxHeartbeats 4000000 in
set_option maxRecDepth 100000 in
theorem isNext74 {w0 w : World} {b ge c : Nat} {jv ov : Value} {s : Sh} {U E : Nat → Int} (h : Lay w0 w b ge c jv ov s U E) (u : Nat) (h20 : s.os.length ≤ 20) (hos : ∀ j, j < s.os.length → (s.os.getD j (0, 0)).1 < s.n) :
    Calls Try.prog 74 #[.pointer (some ⟨b, 0, none⟩), .int .i64 u] w (NextEnd w0 w b ge c jv ov s U E (s.os.all (nextO E u))) := by
  obtain ⟨oa, oc, rfl, hoc, hoat⟩ := h.ro.at
  obtain ⟨m, hm⟩ : ∃ m, m = s.os.length := ⟨_, rfl⟩
  rw [osI_len, ← hm] at h hoc hoat ⊢
  have hm' := Lib.hid hm
  have h' := Lib.hid h
  have hoat' := Lib.hid hoat
  have hos' := Lib.hid hos
  rw [← hm] at h20
  obtain ⟨r, hr⟩ : ∃ r, r = s.os.all (nextO E u) := ⟨_, rfl⟩
  rw [← hr]
  have hr' := Lib.hid hr
  have hn7 := Lib.hid h.hc
  have y2 := h.h2
  clear h hm hoat hos hr
  go_enter Try.func74, Try.ntmps74
  go_wp2_with fail
  go_loopw [13] (fun iv wr => ∃ j : Nat, j ≤ m ∧ iv = .int .i64 j ∧ Hid ((s.os.take j).all (nextO E u) = true) ∧ Hid (Lay w0 wr b ge c jv (.slice oa m oc) s U E) ∧ Hid (Below w.heap.size w wr)) (fun iv _ => m - (intOf iv).toNat)
  case atStart => exact ⟨0, Nat.zero_le _, rfl, Lib.hid rfl, h', Lib.hid (Below.refl _ _)⟩
  case round =>
    clear y2
    obtain ⟨j, hj, rfl, hall, hL, hbw⟩ := hrel
    by_cases hjm : j < m
    · obtain ⟨g, rfl, hg, c0, c1⟩ := hoat'.out j hjm
      have d0 := (hL.out.below.cell (p := ⟨g, j * 2, none⟩) hg).trans c0
      have d1 := (hL.out.below.cell (p := ⟨g, j * 2 + 1, none⟩) hg).trans c1
      rw [osI_at] at d0 d1
      have hon := hos'.out j (by rw [← hm'.out]; exact hjm)
      obtain ⟨⟨p, q⟩, hpq⟩ : ∃ o, o = s.os.getD j (0, 0) := ⟨_, rfl⟩
      rw [← hpq] at d0 d1 hon
      simp only at d0 d1 hon
      have hpq' := Lib.hid hpq
      have hnx := Lib.hid (fun (h : nextO E u (p, q) = true) => (show (s.os.take (j + 1)).all (nextO E u) = true from by
        rw [List.take_succ_eq_append_getElem (by rw [← hm'.out]; exact hjm), List.all_append, hall.out]
        have := hpq'.out
        rw [List.getD_eq_getElem?_getD, List.getElem?_eq_getElem (by rw [← hm'.out]; exact hjm)] at this
        simp only [Option.getD_some] at this
        rw [← this]; simp [h]))
      have hno := Lib.hid (fun (h : nextO E u (p, q) = false) => (show r = false from by
        rw [hr'.out, List.all_eq_false]
        have := hpq'.out
        rw [List.getD_eq_getElem?_getD, List.getElem?_eq_getElem (by rw [← hm'.out]; exact hjm)] at this
        simp only [Option.getD_some] at this
        exact ⟨_, List.getElem_mem (by rw [← hm'.out]; exact hjm), by rw [← this, h]; simp⟩))
      have hL2 := Lib.hid (hL.out.keep (below_alloc1 wr (.cells #[.int .i64 p, .int .i64 q] 78)))
      have hb2 := Lib.hid (below_call hbw.out (below_alloc1 wr (.cells #[.int .i64 p, .int .i64 q] 78)))
      have x3 := hL2.out.h3
      have e1 := hL2.out.ends p hon
      clear c0 c1 hpq hall
      have hpn : (p : Int) < (s.n : Int) := by omega
      by_cases hq : q = u
      · subst hq
        by_cases he : E p = 0
        · have hf := hno.out (by simp [nextO, he])
          subst hf
          rw [he] at e1
          clear hno hnx
          go_wp2_with fail
          go_quiet (fail)
          go_wp2_with fail
          go_ret
          exact ⟨rfl, hL2.out.keep (below_drewN (Below.refl _ _) _), below_drewN hb2.out _⟩
        · have hd : decide (E p = 0) = false := by simpa using he
          have hok := Lib.hid (hnx.out (by simp [nextO, he]))
          clear hno hnx
          go_wp2_with fail
          go_quiet (fail)
          go_wp2_with fail
          go_roundw
          case rel => exact ⟨j + 1, by omega, by go_num, hok, Lib.hid (hL2.out.keep (below_drewN (Below.refl _ _) _)), Lib.hid (below_drewN hb2.out _)⟩
          case measure => simp [intOf]; omega
      · have hd : ((q : Int) == (u : Int)) = false := by simp; omega
        have hok := Lib.hid (hnx.out (by simp [nextO, hq]))
        clear hno hnx
        go_wp2_with fail
        go_quiet (fail)
        go_wp2_with fail
        go_roundw
        case rel => exact ⟨j + 1, by omega, by go_num, hok, Lib.hid (hL2.out.keep (below_drewN (Below.refl _ _) _)), Lib.hid (below_drewN hb2.out _)⟩
        case measure => simp [intOf]; omega
    · obtain rfl : j = m := by omega
      obtain rfl : r = true := by rw [hr'.out]; have := hall.out; rwa [List.take_of_length_le (by rw [← hm'.out]; omega)] at this
      go_wp2_with fail
      go_ret
      exact ⟨rfl, hL.out, hbw.out⟩
end Go.Proofs.Ytjkbhdlbomcbeaa
