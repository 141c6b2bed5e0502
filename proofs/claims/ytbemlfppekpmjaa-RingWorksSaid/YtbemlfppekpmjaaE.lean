import Derived.Test.YtbemlfppekpmjaaA
import Derived.Deep.Upon
import Derived.Laws.IdiomCopy
/-! One element is taken out of a row of structs. -/
namespace Go.Proofs.Ytbemlfppekpmjaa
open Go.RowKit
theorem lit_own (w : World) (B g z : Nat) (e : TypeId) (hB : B ≤ w.heap.size) (hg : g = w.heap.size) : (w.alloc (.cells #[] e)).ownsRow B e z (.slice (some ⟨g, 0, none⟩) 0 0) 0 [] := by
  subst hg; exact World.ownsRow_made w #[] 0 hB (by unfold maxLen; omega) (by simp)
def putAt : List Value → Nat → List Value → List Value
  | xs, _, [] => xs
  | xs, o, v :: r => putAt (xs.set o v) (o + 1) r
theorem putAt_eq : ∀ (vs xs : List Value) (o : Nat), o + vs.length ≤ xs.length → putAt xs o vs = xs.take o ++ vs ++ xs.drop (o + vs.length)
  | [], xs, o, _ => by simp [putAt]
  | v :: r, xs, o, h => by
    simp only [List.length_cons] at h
    rw [putAt, putAt_eq r (xs.set o v) (o + 1) (by simp; omega)]
    rw [List.take_add_one, List.getElem?_set_self (by omega), List.take_set_of_le (by omega), List.drop_set_of_lt (by omega)]
    simp only [Option.toList_some, List.append_assoc, List.cons_append, List.nil_append, List.length_cons]
    rw [show o + 1 + r.length = o + (r.length + 1) by omega]
theorem own_setCells {B g e z n cap : Nat} : ∀ (vs : List Value) (o : Nat) (w : World) (xs : List Value), w.ownsRow B e z (.slice (some ⟨g, 0, none⟩) n cap) n xs → (w.setCells g o vs).ownsRow B e z (.slice (some ⟨g, 0, none⟩) n cap) n (putAt xs o vs)
  | [], _, _, _, h => h
  | v :: r, o, w, xs, h => own_setCells r (o + 1) (w.setCell ⟨g, o, none⟩ v) (xs.set o v) (h.stored o v).1
theorem own_shrink {w : World} {B g e z n m cap : Nat} {xs : List Value} (h : w.ownsRow B e z (.slice (some ⟨g, 0, none⟩) n cap) n xs) (hm : m ≤ n) : w.ownsRow B e z (.slice (some ⟨g, 0, none⟩) m cap) m (xs.take (m * z)) := by
  obtain ⟨h1, h2⟩ := h
  refine ⟨by rw [List.length_take, h1]; exact Nat.min_eq_left (Nat.mul_le_mul_right z hm), ?_⟩
  rcases h2 with ⟨h2, _⟩ | ⟨g', cap', cur, e1, hB, hg, hn, hc, hs, ht⟩
  · simp at h2
  · obtain ⟨rfl, rfl⟩ : g = g' ∧ cap = cap' := by
      injection e1 with a _ b; injection a with a; injection a with a; exact ⟨a, b⟩
    refine .inr ⟨g, cap, cur, rfl, hB, hg, Nat.le_trans hm hn, hc, hs, ?_⟩
    rw [← ht, List.take_take, Nat.min_eq_left (Nat.mul_le_mul_right z hm)]
theorem frm_setCells {P P' : Nat → Prop} {g : Nat} (hg : P g) : ∀ (vs : List Value) (o : Nat) {w w' : World}, Frm P P' w w' → Frm P P' w (w'.setCells g o vs)
  | [], _, _, _, h => h
  | _ :: r, o, _, _, h => frm_setCells hg r (o + 1) (h.set hg)
/-- clear(s) of one struct. -/
theorem run_clear_one (w : World) (t e ty : TypeId) (z : Value) (ht : Try.prog.underlying t = some (.slice e)) (hv : ∀ w, (zeroValue e).run Try.prog w = .ok z w) (h1 : ∀ v ∈ z.cells.toList, v.oneCell' = true) (b o c : Nat)
    (hc : ∀ j, j < z.cells.size → (w.cell? ⟨b, o + j, none⟩).isSome = true) (hf : ∀ j, j < z.cells.size → w.frozen? ⟨b, o + j, none⟩ = false) :
    (Builtin.clear_ #[t] ty #[.slice (some ⟨b, o, none⟩) 1 c]).run Try.prog w = .ok (.tuple #[]) (w.setCells b o z.cells.toList) := by
  have hzc : (Builtin.zeroCells z.cells 1).toList = z.cells.toList := by
    simp only [Builtin.zeroCells]
    apply List.ext_getElem
    · simp
    · intro i h1 h2
      simp at h1 h2
      simp [Nat.mod_eq_of_lt h2, getElem!_pos, h2]
  have hst := run_storeCells_cells (P := Try.prog) b o z.cells.toList 0 w (by simpa using hc) (by simpa using hf) h1
  simp only [Nat.add_zero] at hst
  simp [Builtin.clear_, run_underlying ht, hv, hzc, hst]
theorem zero69 (w : World) : (zeroValue 69).run Try.prog w = .ok (.agg #[.int .i64 0, .int .i64 0, .bool false]) w := by kernel_rfl
theorem zero108 (w : World) : (zeroValue 108).run Try.prog w = .ok (.agg #[.int .i64 0, .int .i64 0]) w := by kernel_rfl
theorem info69' : (Try.prog.info? 69).map (fun i => (i.zero, i.size, i.bytes)) = some (some (.agg #[.int .i64 0, .int .i64 0, .bool false]), 3, 24) := by kernel_rfl
theorem info108 : (Try.prog.info? 108).map (fun i => (i.zero, i.size, i.bytes)) = some (some (.agg #[.int .i64 0, .int .i64 0]), 2, 16) := by kernel_rfl
/-- What is left when one is taken out. -/
def DelEnd (w : World) (B e z g m cap k : Nat) (xs : List Value) (ev : Ending) (w' : World) : Prop :=
  ev = .returned (.slice (some ⟨g, 0, none⟩) (m - 1) cap) ∧ w'.ownsRow B e z (.slice (some ⟨g, 0, none⟩) (m - 1) cap) (m - 1) (xs.take (k * z) ++ xs.drop ((k + 1) * z)) ∧ Frm (· = g) (· = g) w w'
/-- All that the walk of slices.Delete wants. -/
structure DelFacts (w : World) (B e z g m cap k : Nat) (xs : List Value) (zs : List Value) : Prop where
  own : w.ownsRow B e z (.slice (some ⟨g, 0, none⟩) m cap) m xs
  one : ∀ u ∈ xs, u.oneCell' = true
  hk : k < m
  zl : zs.length = z
theorem DelFacts.end {w : World} {B e z g m cap k : Nat} {xs zs : List Value} (h : DelFacts w B e z g m cap k xs zs) : DelEnd w B e z g m cap k xs (.returned (.slice (some ⟨g, 0, none⟩) (m - 1) cap)) ((w.drew.setCells g (0 + k * z) (xs.drop ((k + 1) * z))).setCells g ((m - 1) * z) zs) := by
  refine ⟨rfl, ?_, frm_setCells (P := (· = g)) rfl _ _ (frm_setCells (P := (· = g)) rfl _ _ (Frm.refl _ w).drew)⟩
  have hl : xs.length = m * z := h.own.1
  have hk := h.hk
  obtain ⟨q, rfl⟩ : ∃ q, m = q + 1 := ⟨m - 1, by omega⟩
  have hkz : (k + 1) * z ≤ (q + 1) * z := Nat.mul_le_mul_right z hk
  have hk1 : (k + 1) * z = k * z + z := by rw [Nat.add_mul, Nat.one_mul]
  have hq1 : (q + 1) * z = q * z + z := by rw [Nat.add_mul, Nat.one_mul]
  have h1 := own_setCells (xs.drop ((k + 1) * z)) (0 + k * z) w.drew xs h.own
  rw [putAt_eq _ _ _ (by rw [List.length_drop]; omega)] at h1
  have h2 := own_setCells zs ((q + 1 - 1) * z) _ _ h1
  have h3 := own_shrink h2 (m := q + 1 - 1) (by omega)
  rw [putAt_eq _ _ _ (by simp only [List.length_append, List.length_take, List.length_drop, hl, h.zl, Nat.add_sub_cancel]; omega)] at h3
  have e : (xs.take (0 + k * z) ++ xs.drop ((k + 1) * z) ++ xs.drop (0 + k * z + (xs.drop ((k + 1) * z)).length)).take ((q + 1 - 1) * z) = xs.take (k * z) ++ xs.drop ((k + 1) * z) := by
    rw [Nat.zero_add, List.take_append_of_le_length (by simp only [List.length_append, List.length_take, List.length_drop, hl, Nat.add_sub_cancel]; omega), List.take_of_length_le (by simp only [List.length_append, List.length_take, List.length_drop, hl, Nat.add_sub_cancel]; omega)]
  have e2 : ∀ (A C : List Value) (n : Nat), A.length = n → (A ++ C).take n = A := fun A C n hA => by rw [List.take_append_of_le_length (by omega), List.take_of_length_le (by omega)]
  rw [e, List.append_assoc, e2 _ _ _ (by simp only [List.length_append, List.length_take, List.length_drop, hl, Nat.add_sub_cancel]; omega)] at h3
  exact h3
set_option maxHeartbeats 4000000 in
set_option maxRecDepth 100000 in
theorem del69 {w : World} {B g m cap k : Nat} {xs : List Value} (h : DelFacts w B 69 3 g m cap k xs [.int .i64 0, .int .i64 0, .bool false]) (hm : m ≤ 1000) :
    Calls Try.prog 69 #[.slice (some ⟨g, 0, none⟩) m cap, .int .i64 k, .int .i64 ((k : Int) + 1)] w (DelEnd w B 69 3 g m cap k xs) := by
  obtain ⟨i0, hi0, hz0, hz1, hz2⟩ := info_parts info69'
  have hend := Lib.hid h.end
  obtain ⟨j, hj⟩ : ∃ j, j = k + 1 := ⟨_, rfl⟩
  rw [show ((k : Int) + 1) = ((j : Nat) : Int) by omega]
  have hk := h.hk
  have hlt : k < j := by omega
  have hjm : j ≤ m := by omega
  have hmc : m ≤ cap := by obtain ⟨_, _, e, hc, _⟩ := own_cells h.own; injection e with _ _ e; omega
  have hl : xs.length = m * 3 := h.own.1
  have hcell : ∀ i u, xs[i]? = some u → w.cell? ⟨g, i, none⟩ = some u := by
    obtain ⟨ao, c', e, _, hc⟩ := own_cells h.own
    obtain ⟨g', e1, _, _, hcl⟩ := hc (by omega)
    obtain rfl : g = g' := by
      injection e with e _ _
      rw [← e] at e1; injection e1 with e1; injection e1
    exact hcl
  have hfz : ∀ i, w.frozen? ⟨g, i, none⟩ = false := fun i => World.ownsRow.frozenAt h.own i
  obtain ⟨news, hnews⟩ : ∃ news, news = xs.drop (j * 3) := ⟨_, rfl⟩
  have hlen : news.length = (m - j) * 3 := by rw [hnews, List.length_drop, hl]; omega
  have hget : ∀ t u, news[t]? = some u → w.cell? ⟨g, j * 3 + t, none⟩ = some u := fun t u hu => by
    rw [hnews, List.getElem?_drop] at hu; exact hcell _ _ hu
  obtain ⟨A, hA, hsrc⟩ : ∃ A : Addr, (if cap = j then some (⟨g, 0, none⟩ : Addr) else some ⟨g, j * 3, none⟩) = some A ∧ Hid (∀ t u, news[t]? = some u → w.drew.cell? (A.add t) = some u) := by
    by_cases h : cap = j
    · refine ⟨⟨g, 0, none⟩, by simp [h], fun t u hu => ?_⟩
      have h0 : news.length = 0 := by rw [hlen]; omega
      rw [List.length_eq_zero_iff.1 h0] at hu
      simp at hu
    · refine ⟨⟨g, j * 3, none⟩, by simp [h], fun t u hu => ?_⟩
      rw [Addr.add_lit]
      exact hget t u hu
  have s1 : Hid (news.length = (m - j) * 3) := hlen
  have s2 : Hid (∀ u ∈ news, u.oneCell' = true) := fun u hu => h.one u (List.mem_of_mem_drop (by rw [hnews] at hu; exact hu))
  have s3 : Hid (∀ t, t < news.length → (w.drew.cell? ⟨g, 0 + k * 3 + t, none⟩).isSome = true ∧ w.drew.frozen? ⟨g, 0 + k * 3 + t, none⟩ = false) := by
    intro t ht
    rw [hlen] at ht
    obtain ⟨u, hu⟩ : ∃ u, xs[0 + k * 3 + t]? = some u := ⟨_, List.getElem?_eq_getElem (by rw [hl]; omega)⟩
    refine ⟨?_, hfz _⟩
    show (w.cell? _).isSome = true
    rw [hcell _ _ hu]; rfl
  obtain ⟨W1, hW1⟩ : ∃ W1, W1 = w.drew.setCells g (0 + k * 3) news := ⟨_, rfl⟩
  obtain ⟨x, hx⟩ : ∃ x, x = k + (m - j) := ⟨_, rfl⟩
  have hcl : ∀ ty c, (Builtin.clear_ #[60] ty #[.slice (some ⟨g, (k + (m - j)) * 3, none⟩) (m - (k + (m - j))) c]).run Try.prog W1 = .ok (.tuple #[]) (W1.setCells g ((k + (m - j)) * 3) [.int .i64 0, .int .i64 0, .bool false]) := fun ty c => by
    rw [show m - (k + (m - j)) = 1 by omega, ← hx]
    refine run_clear_one W1 60 69 ty (.agg #[.int .i64 0, .int .i64 0, .bool false]) Try.underlying60 zero69 (by intro v hv; simp [Value.cells] at hv; rcases hv with rfl | rfl | rfl <;> rfl) g (x * 3) c (fun t ht => ?_) (fun t _ => ?_)
    · have ht3 : t < 3 := ht
      obtain ⟨u, hu⟩ : ∃ u, xs[x * 3 + t]? = some u := ⟨_, List.getElem?_eq_getElem (by rw [hl]; omega)⟩
      rw [hW1]
      exact World.isSome_setCells g news _ w.drew _ (by show (w.cell? _).isSome = true; rw [hcell _ _ hu]; rfl)
    · rw [hW1, World.frozen?_setCells]; exact hfz _
  have hW : Hid (W1 = w.drew.setCells g (0 + k * 3) news) := hW1
  have hic : k ≤ cap := by omega
  have hjc : j ≤ cap := by omega
  have hx' := Lib.hid hx
  have hj' := Lib.hid hj
  have hn' := Lib.hid hnews
  clear hW1 hget hnews hlen h hcell hfz hl hj hx
  go_enter Try.func69, Try.ntmps69
  go_wp2_with fail
  go_region_law (refine step_append_room rfl (.tmp 22) (.tmp 25) 60 rfl 69 i0 3 Try.underlying60 hi0 hz1 g 0 k cap (by simp [Act.eval, Act.put]) A (m - j) (cap - j) news (by simp [Act.eval, Act.put]) s1.out hsrc.out s2.out (by omega) s3.out ?_; rw [← hW.out])
  go_wp2
  go_ret
  have := hend.out
  have e1 : m - 1 = k + (m - j) := by have := hj'.out; omega
  rw [e1, ← hj'.out, ← hn'.out, ← hW.out] at this
  exact this
set_option maxHeartbeats 4000000 in
set_option maxRecDepth 100000 in
theorem del78 {w : World} {B g m cap k : Nat} {xs : List Value} (h : DelFacts w B 108 2 g m cap k xs [.int .i64 0, .int .i64 0]) (hm : m ≤ 1000) :
    Calls Try.prog 78 #[.slice (some ⟨g, 0, none⟩) m cap, .int .i64 k, .int .i64 ((k : Int) + 1)] w (DelEnd w B 108 2 g m cap k xs) := by
  obtain ⟨i0, hi0, hz0, hz1, hz2⟩ := info_parts info108
  have hend := Lib.hid h.end
  obtain ⟨j, hj⟩ : ∃ j, j = k + 1 := ⟨_, rfl⟩
  rw [show ((k : Int) + 1) = ((j : Nat) : Int) by omega]
  have hk := h.hk
  have hlt : k < j := by omega
  have hjm : j ≤ m := by omega
  have hmc : m ≤ cap := by obtain ⟨_, _, e, hc, _⟩ := own_cells h.own; injection e with _ _ e; omega
  have hl : xs.length = m * 2 := h.own.1
  have hcell : ∀ i u, xs[i]? = some u → w.cell? ⟨g, i, none⟩ = some u := by
    obtain ⟨ao, c', e, _, hc⟩ := own_cells h.own
    obtain ⟨g', e1, _, _, hcl⟩ := hc (by omega)
    obtain rfl : g = g' := by
      injection e with e _ _
      rw [← e] at e1; injection e1 with e1; injection e1
    exact hcl
  have hfz : ∀ i, w.frozen? ⟨g, i, none⟩ = false := fun i => World.ownsRow.frozenAt h.own i
  obtain ⟨news, hnews⟩ : ∃ news, news = xs.drop (j * 2) := ⟨_, rfl⟩
  have hlen : news.length = (m - j) * 2 := by rw [hnews, List.length_drop, hl]; omega
  have hget : ∀ t u, news[t]? = some u → w.cell? ⟨g, j * 2 + t, none⟩ = some u := fun t u hu => by
    rw [hnews, List.getElem?_drop] at hu; exact hcell _ _ hu
  obtain ⟨A, hA, hsrc⟩ : ∃ A : Addr, (if cap = j then some (⟨g, 0, none⟩ : Addr) else some ⟨g, j * 2, none⟩) = some A ∧ Hid (∀ t u, news[t]? = some u → w.drew.cell? (A.add t) = some u) := by
    by_cases h : cap = j
    · refine ⟨⟨g, 0, none⟩, by simp [h], fun t u hu => ?_⟩
      have h0 : news.length = 0 := by rw [hlen]; omega
      rw [List.length_eq_zero_iff.1 h0] at hu
      simp at hu
    · refine ⟨⟨g, j * 2, none⟩, by simp [h], fun t u hu => ?_⟩
      rw [Addr.add_lit]
      exact hget t u hu
  have s1 : Hid (news.length = (m - j) * 2) := hlen
  have s2 : Hid (∀ u ∈ news, u.oneCell' = true) := fun u hu => h.one u (List.mem_of_mem_drop (by rw [hnews] at hu; exact hu))
  have s3 : Hid (∀ t, t < news.length → (w.drew.cell? ⟨g, 0 + k * 2 + t, none⟩).isSome = true ∧ w.drew.frozen? ⟨g, 0 + k * 2 + t, none⟩ = false) := by
    intro t ht
    rw [hlen] at ht
    obtain ⟨u, hu⟩ : ∃ u, xs[0 + k * 2 + t]? = some u := ⟨_, List.getElem?_eq_getElem (by rw [hl]; omega)⟩
    refine ⟨?_, hfz _⟩
    show (w.cell? _).isSome = true
    rw [hcell _ _ hu]; rfl
  obtain ⟨W1, hW1⟩ : ∃ W1, W1 = w.drew.setCells g (0 + k * 2) news := ⟨_, rfl⟩
  obtain ⟨x, hx⟩ : ∃ x, x = k + (m - j) := ⟨_, rfl⟩
  have hcl : ∀ ty c, (Builtin.clear_ #[79] ty #[.slice (some ⟨g, (k + (m - j)) * 2, none⟩) (m - (k + (m - j))) c]).run Try.prog W1 = .ok (.tuple #[]) (W1.setCells g ((k + (m - j)) * 2) [.int .i64 0, .int .i64 0]) := fun ty c => by
    rw [show m - (k + (m - j)) = 1 by omega, ← hx]
    refine run_clear_one W1 79 108 ty (.agg #[.int .i64 0, .int .i64 0]) Try.underlying79 zero108 (by intro v hv; simp [Value.cells] at hv; rcases hv with rfl | rfl <;> rfl) g (x * 2) c (fun t ht => ?_) (fun t _ => ?_)
    · have ht3 : t < 2 := ht
      obtain ⟨u, hu⟩ : ∃ u, xs[x * 2 + t]? = some u := ⟨_, List.getElem?_eq_getElem (by rw [hl]; omega)⟩
      rw [hW1]
      exact World.isSome_setCells g news _ w.drew _ (by show (w.cell? _).isSome = true; rw [hcell _ _ hu]; rfl)
    · rw [hW1, World.frozen?_setCells]; exact hfz _
  have hW : Hid (W1 = w.drew.setCells g (0 + k * 2) news) := hW1
  have hic : k ≤ cap := by omega
  have hjc : j ≤ cap := by omega
  have hx' := Lib.hid hx
  have hj' := Lib.hid hj
  have hn' := Lib.hid hnews
  clear hW1 hget hnews hlen h hcell hfz hl hj hx
  go_enter Try.func78, Try.ntmps78
  go_wp2_with fail
  go_region_law (refine step_append_room rfl (.tmp 22) (.tmp 25) 79 rfl 108 i0 2 Try.underlying79 hi0 hz1 g 0 k cap (by simp [Act.eval, Act.put]) A (m - j) (cap - j) news (by simp [Act.eval, Act.put]) s1.out hsrc.out s2.out (by omega) s3.out ?_; rw [← hW.out])
  go_wp2
  go_ret
  have := hend.out
  have e1 : m - 1 = k + (m - j) := by have := hj'.out; omega
  rw [e1, ← hj'.out, ← hn'.out, ← hW.out] at this
  exact this
end Go.Proofs.Ytbemlfppekpmjaa
