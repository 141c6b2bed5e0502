import Derived.Test.YtjkbhdlbomcbeaaH
import Derived.Maps.AppendAt
namespace Go.Proofs.Ytjkbhdlbomcbeaa
open Go.RowKit Shf

/-- A shaft as a value, its orders named. -/
def ShOv (w : World) (v : Value) (P : Int) (js : List J) (os : List (Int × Int)) (ov : Value) : Prop := ∃ jv, v = .agg #[.int .i64 P, jv, ov] ∧ ReadsJ w jv js ∧ ReadsO w ov os
/-- A shaft with jobs of its own. -/
def ShOwn (w : World) (P : Int) (js : List J) (ov : Value) (e : Ending) (w' : World) : Prop := ∃ jv, e = .returned (.agg #[.int .i64 P, jv, ov]) ∧ OwnJ w' w.heap.size jv js ∧ Below w.heap.size w w'
/-- append(s, y) of one int; what else changes. -/
theorem app_int_at {ops : Array Oper} {rest : List Oper} {o : Oper} {a : Act} {Q : Exit → Act → World → Prop} {w : World} {B : Nat} {v : Value} {xs : List Int} {y : Int}
    (hown : Ints w B v xs) (hlen : xs.length ≤ 1000000) (hB : B ≤ w.heap.size) (hgd : o.guard = none) (s x : Operand)
    (ho : o.op = .call { callee := .builtin .append, args := #[s, x], argTypes := #[26, 26] }) (hs : a.eval s = v) (hx : a.eval x = .slice (some ⟨w.heap.size, 0, none⟩) 1 1)
    (h : ∀ v' w', Ints w' B v' (xs ++ [y]) → Below B w w' → (∀ g, g < w.heap.size → v.ownBlock ≠ some g → w'.heap[g]? = w.heap[g]?) → (∀ g, v'.ownBlock = some g → v.ownBlock = some g ∨ w.heap.size ≤ g) → wpList Try.prog ops Q rest (a.put o.dst v') w') : wpList Try.prog ops Q (o :: rest) a (w.alloc (.cells #[.int .i64 y] 3)) := by
  obtain ⟨i0, hi, hz0, hz1, hz2⟩ := info_parts info3
  refine wpList_append_own_at _ hgd s x 26 ho B 3 i0 (.int .i64 0) 1 8 Try.underlying26 hi hz0 hz1 hz2 rfl (by decide) v xs.length (xs.map (Value.int .i64)) hs (World.ownsRow.alloc hown _) ⟨w.heap.size, 0, none⟩ 1 1 [.int .i64 y] hx rfl ?_ ?_ ?_ ?_ ?_ ?_
  · exact cell_one_new _ _ _
  · intro u hu; simp at hu; subst hu; rfl
  · unfold maxLen; omega
  · omega
  · simp; omega
  · intro v' w' h2 h3 _ h5
    refine h v' w' ?_ ?_ (fun g hg hne => ?_) (fun g hg => ?_)
    · unfold Ints; simpa using h2
    · exact ((Below.refl B w).alloc hB _).grown h3 (by simp; omega) (fun k hk => (World.ownsRow.lt hown k hk).1)
    · rw [h3.block g (by simp; omega) (fun e => hne e.symm)]
      exact (below_alloc1 w _).block g hg
    · rcases h5 with h5 | h5
      · left; rw [← h5]; exact hg
      · right; rw [h5] at hg; injection hg with hg; rw [← hg]; simp
set_option maxHeartbeats 4000000 in
set_option maxRecDepth 100000 in
theorem until61o {w : World} {v : Value} {P : Int} {js : List J} {os : List (Int × Int)} {ov : Value} (h : ShOv w v P js os ov) (h7 : js.length ≤ 7) {i : Nat} (hi : i < js.length) {x : Int} (hx : -1000 ≤ x ∧ x ≤ 1000) (hl : -1000 ≤ (js.getD i J0).l ∧ (js.getD i J0).l ≤ 1000) :
    Calls Try.prog 61 #[v, .int .i64 i, .int .i64 x] w (ShOwn w P (js.set i (tillJ (js.getD i J0) x)) ov) := by
  obtain ⟨jv, rfl, hj, ho⟩ := h
  have hj' := Lib.hid hj
  have ho' := Lib.hid ho
  obtain ⟨oa, m, oc, rfl⟩ : ∃ oa m oc, ov = .slice oa m oc := by obtain ⟨oa, oc, e, _⟩ := ho; exact ⟨oa, _, oc, e⟩
  obtain ⟨ja, q, jc, rfl⟩ : ∃ oa m oc, jv = .slice oa m oc := by obtain ⟨oa, oc, e, _⟩ := hj; exact ⟨oa, _, oc, e⟩
  have hne := Lib.hid (show js ≠ [] by intro e; rw [e] at hi; simp at hi)
  obtain ⟨n, hn⟩ : ∃ n, n = js.length := ⟨_, rfl⟩
  have hn' := Lib.hid hn
  rw [← hn] at h7 hi
  have hwb := Lib.hid (((Below.refl w.heap.size w).alloc (Nat.le_refl _) (.cells #[.int .i64 P, (.slice ja q jc), (.slice oa m oc)] 81)).alloc (by simp) (.cells #[.int .i64 0, .slice none 0 0, .slice none 0 0] 81))
  have ht1 := Lib.hid ((Three.new w (.int .i64 P) (.slice ja q jc) (.slice oa m oc) 81).keep (below_alloc1 _ (.cells #[.int .i64 0, .slice none 0 0, .slice none 0 0] 81)) (by simp))
  have ht2 := Lib.hid (Three.new (w.alloc (.cells #[.int .i64 P, (.slice ja q jc), (.slice oa m oc)] 81)) (.int .i64 0) (.slice none 0 0) (.slice none 0 0) 81)
  rw [World.size_alloc] at ht2
  obtain ⟨⟨f, t, l, p⟩, hjq⟩ : ∃ j, j = js.getD i J0 := ⟨_, rfl⟩
  rw [← hjq] at hl ⊢
  simp only at hl
  have hjq' := Lib.hid hjq
  clear hj ho hn hjq
  have hcl := Lib.hid (fun (W : World) (h : ReadsJ W (.slice ja q jc) js) => clone63 h hne.out (by rw [← hn'.out]; exact h7))
  have hj1 := Lib.hid (hj'.out.below hwb.out)
  have hsz := Lib.hid (show ((w.alloc (.cells #[.int .i64 P, (.slice ja q jc), (.slice oa m oc)] 81)).alloc (.cells #[.int .i64 0, .slice none 0 0, .slice none 0 0] 81)).heap.size = w.heap.size + 1 + 1 by simp)
  obtain ⟨⟨k0, k1, k2⟩, kf⟩ := ht1.out
  go_enter Try.func61, Try.ntmps61
  go_wp2_with (
    go_at_call 63; refine (hcl.out _ hj1.out).mono ?_; rintro e wj ⟨jw, rfl, hown, hbc⟩
    have ht1j := Lib.hid (ht1.out.keep hbc (by rw [hsz.out]; omega))
    have ht2j := Lib.hid (ht2.out.keep hbc (by rw [hsz.out]; omega))
    obtain ⟨⟨x0, x1, x2⟩, xf⟩ := ht1j.out
    have xf1 := xf 1
    obtain ⟨g, c, rfl, hgc, hgB, hgw, -, hat, -, -⟩ := hown.parts hne.out
    rw [hsz.out] at hgB
    have hgw' := Lib.hid hgw
    have hat' := Lib.hid hat
    have hnl := hn'.out.symm
    have hown' := Lib.hid hown
    have hbc' := Lib.hid hbc
    clear xf hown hbc hat hgw)
  rename_i K hK0
  have hK := Lib.hid hK0
  clear hK0
  have hJ2 : OwnJ (wj.setCell ⟨w.heap.size, 1, none⟩ (.slice (some ⟨g, 0, none⟩) n c)) (w.heap.size + 2) (.slice (some ⟨g, 0, none⟩) n c) js := by
    have := hown'.out
    rw [hsz.out, hnl] at this
    exact ownsRow_setCell_below this (by show w.heap.size < _; omega) _
  have hwa := Lib.hid (below_set (k := 1) (u := .slice (some ⟨g, 0, none⟩) n c) (hwb.out.trans (hbc'.out.mono (by rw [hsz.out]; omega))) (Nat.le_refl _))
  have y0 : (wj.setCell ⟨w.heap.size, 1, none⟩ (.slice (some ⟨g, 0, none⟩) n c)).cell? ⟨w.heap.size, 0, none⟩ = some (.int .i64 P) := by rw [World.cell?_setCell_other _ _ _ _ (by simp)]; exact x0
  have y1 : (wj.setCell ⟨w.heap.size, 1, none⟩ (.slice (some ⟨g, 0, none⟩) n c)).cell? ⟨w.heap.size, 1, none⟩ = some (.slice (some ⟨g, 0, none⟩) n c) := World.cell?_setCell_same' _ _ _ (by rw [x1]; rfl)
  have y2 : (wj.setCell ⟨w.heap.size, 1, none⟩ (.slice (some ⟨g, 0, none⟩) n c)).cell? ⟨w.heap.size, 2, none⟩ = some (.slice oa m oc) := by rw [World.cell?_setCell_other _ _ _ _ (by simp)]; exact x2
  have hz2 := Lib.hid (show Three (wj.setCell ⟨w.heap.size, 1, none⟩ (.slice (some ⟨g, 0, none⟩) n c)) (w.heap.size + 1) (.int .i64 0) (.slice none 0 0) (.slice none 0 0) from ht2j.out.other (by simp))
  obtain ⟨wa, hwaq⟩ : ∃ wa, wa = wj.setCell ⟨w.heap.size, 1, none⟩ (.slice (some ⟨g, 0, none⟩) n c) := ⟨_, rfl⟩
  rw [← hwaq] at hJ2 hwa y0 y1 y2 hz2 ⊢
  obtain ⟨g', c', e', -, -, hgw2, hfz, hat2, -, hst⟩ := hJ2.parts hne.out
  obtain ⟨rfl, rfl⟩ : g = g' ∧ c = c' := by injection e' with a _ b; injection a with a; injection a with a; exact ⟨a, b⟩
  have d2 := (hat2 i (by rw [hnl]; exact hi)).2.2.1
  have d1 := (hat2 i (by rw [hnl]; exact hi)).2.1
  have hJ3 := Lib.hid (hst i (x + l) (by rw [hnl]; exact hi))
  have fz := hfz (i * 4 + 1)
  rw [← hjq'.out] at d2 d1 hJ3
  simp only at d2 d1 hJ3
  have hnc : n ≤ c := by omega
  have hic : (i : Int) < (n : Int) := by omega
  clear hwaq e' hst hat2 hfz hJ2 hown' hat' ht1j ht2j x0 x1 x2 xf1 kf k0 k1 k2
  clear ht1 ht2 hj1 hcl
  refine wp_region_still_tail 13 (by kernel_rfl) (by kernel_rfl) ?_
  simp only [List.take_succ_cons, List.take_zero, List.drop_succ_cons, List.drop_zero]
  iterate 13 still_step
  refine wpStill_nil ?_
  go_wp2_with fail
  refine hK.out _ _ ?_
  have hgb : w.heap.size ≤ g := by omega
  have hwb3 := Lib.hid ((below_set (k := i * 4 + 1) (u := .int .i64 (x + l)) hwa.out hgb).drew)
  have hz3 := Lib.hid (show Three (wa.setCell ⟨g, i * 4 + 1, none⟩ (.int .i64 (x + l))).drew (w.heap.size + 1) (.int .i64 0) (.slice none 0 0) (.slice none 0 0) from hz2.out.other (by omega))
  have hg1 : ¬ (g = w.heap.size) := by omega
  have c0 : (wa.setCell ⟨g, i * 4 + 1, none⟩ (.int .i64 (x + l))).drew.cell? ⟨w.heap.size, 0, none⟩ = some (.int .i64 P) := (World.cell?_setCell_other _ _ _ _ (by simp)).trans y0
  have c1 : (wa.setCell ⟨g, i * 4 + 1, none⟩ (.int .i64 (x + l))).drew.cell? ⟨w.heap.size, 1, none⟩ = some (.slice (some ⟨g, 0, none⟩) n c) := (World.cell?_setCell_other _ _ _ _ (by simp)).trans y1
  have c2 : (wa.setCell ⟨g, i * 4 + 1, none⟩ (.int .i64 (x + l))).drew.cell? ⟨w.heap.size, 2, none⟩ = some (.slice oa m oc) := (World.cell?_setCell_other _ _ _ _ (by simp)).trans y2
  have hJ4 := Lib.hid (show OwnJ (wa.setCell ⟨g, i * 4 + 1, none⟩ (.int .i64 (x + l))).drew (w.heap.size + 2) (.slice (some ⟨g, 0, none⟩) n c) (js.set i ⟨f, x + l, l, p⟩) from hJ3.out)
  obtain ⟨wb, hwbq⟩ : ∃ wb, wb = (wa.setCell ⟨g, i * 4 + 1, none⟩ (.int .i64 (x + l))).drew := ⟨_, rfl⟩
  rw [← hwbq] at hwb3 hz3 c0 c1 c2 hJ4 ⊢
  clear hwbq hJ3 hz2 hwa y0 y1 y2 d1 d2 fz hgw2
  obtain ⟨⟨z0, z1, z2⟩, zf⟩ := hz3.out
  have f0 := zf 0
  have f1 := zf 1
  have f2 := zf 2
  have hb2 : ¬ (w.heap.size + 1 = w.heap.size) := by omega
  clear zf hK
  have hend := Lib.hid (show OwnJ (((wb.setCell ⟨w.heap.size + 1, 0, none⟩ (.int .i64 P)).setCell ⟨w.heap.size + 1, 1, none⟩ (.slice (some ⟨g, 0, none⟩) n c)).setCell ⟨w.heap.size + 1, 2, none⟩ (.slice oa m oc)) w.heap.size (.slice (some ⟨g, 0, none⟩) n c) (js.set i ⟨f, x + l, l, p⟩) ∧ Below w.heap.size w (((wb.setCell ⟨w.heap.size + 1, 0, none⟩ (.int .i64 P)).setCell ⟨w.heap.size + 1, 1, none⟩ (.slice (some ⟨g, 0, none⟩) n c)).setCell ⟨w.heap.size + 1, 2, none⟩ (.slice oa m oc)) from by
    have hb := below_set (k := 2) (u := (.slice oa m oc)) (below_set (k := 1) (u := .slice (some ⟨g, 0, none⟩) n c) (below_set (k := 0) (u := .int .i64 P) hwb3.out (show w.heap.size ≤ w.heap.size + 1 by omega)) (show w.heap.size ≤ w.heap.size + 1 by omega)) (show w.heap.size ≤ w.heap.size + 1 by omega)
    have hs : ∀ k u W, OwnJ W (w.heap.size + 2) (.slice (some ⟨g, 0, none⟩) n c) (js.set i ⟨f, x + l, l, p⟩) → OwnJ (W.setCell ⟨w.heap.size + 1, k, none⟩ u) (w.heap.size + 2) (.slice (some ⟨g, 0, none⟩) n c) (js.set i ⟨f, x + l, l, p⟩) := fun k u W h => ownsRow_setCell_below h (by show w.heap.size + 1 < _; omega) u
    exact ⟨own_base (hs _ _ _ (hs _ _ _ (hs _ _ _ hJ4.out))) (by omega), hb⟩)
  go_wp2_with fail
  refine bodyPost_ret (results_cell_mid rfl _ _ (w.heap.size + 1) _ _ rfl hz3.out.stored.range Try.underlying81 rfl (by kernel_rfl)) rfl ?_
  exact ⟨_, rfl, hend.out.1, hend.out.2⟩
end Go.Proofs.Ytjkbhdlbomcbeaa
