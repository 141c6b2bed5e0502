import Derived.Test.YtjkbhdlbomcbeaaA
import Derived.Test.YtjkbhdlbomcbeaaMathS
namespace Go.Proofs.Ytjkbhdlbomcbeaa
open Go.RowKit Shf

/-! ## Lists of structs, flat in memory -/
def flat {α : Type} (enc : α → List Value) (xs : List α) : List Value := xs.flatMap enc
theorem flat_len {α : Type} {enc : α → List Value} {z : Nat} (hz : ∀ a, (enc a).length = z) : ∀ xs : List α, (flat enc xs).length = xs.length * z
  | [] => by simp [flat]
  | a :: xs => by
    have := flat_len hz xs
    unfold flat at this ⊢
    rw [List.flatMap_cons, List.length_append, hz, this, List.length_cons, Nat.add_mul, Nat.one_mul, Nat.add_comm]
theorem flat_app {α : Type} (enc : α → List Value) (xs ys : List α) : flat enc (xs ++ ys) = flat enc xs ++ flat enc ys := by simp [flat]
theorem flat_at {α : Type} {enc : α → List Value} {z : Nat} (hz : ∀ a, (enc a).length = z) : ∀ (xs : List α) (i k : Nat) (h : i < xs.length), k < z → (flat enc xs)[i * z + k]? = (enc xs[i])[k]?
  | a :: xs, 0, k, _, hk => by
    rw [Nat.zero_mul, Nat.zero_add]
    unfold flat
    rw [List.flatMap_cons, List.getElem?_append_left (by rw [hz]; exact hk)]; rfl
  | a :: xs, i + 1, k, h, hk => by
    have ih := flat_at hz xs i k (by simpa using h) hk
    unfold flat at ih ⊢
    rw [List.flatMap_cons, List.getElem?_append_right (by rw [hz, Nat.add_mul]; omega), hz, show (i + 1) * z + k - z = i * z + k by rw [Nat.add_mul]; omega, ih]; rfl
theorem flat_set {α : Type} {enc : α → List Value} {z : Nat} (hz : ∀ a, (enc a).length = z) : ∀ (xs : List α) (i k : Nat) (b : α) (u : Value), i < xs.length → k < z → (∀ a, xs[i]? = some a → enc b = (enc a).set k u) → (flat enc xs).set (i * z + k) u = flat enc (xs.set i b)
  | a :: xs, 0, k, b, u, _, hk, he => by
    have := he a rfl
    unfold flat
    rw [Nat.zero_mul, Nat.zero_add, List.set_cons_zero, List.flatMap_cons, List.flatMap_cons, this, List.set_append_left _ _ (by rw [hz]; exact hk)]
  | a :: xs, i + 1, k, b, u, h, hk, he => by
    have ih := flat_set hz xs i k b u (by simpa using h) hk (fun c hc => he c (by simpa using hc))
    unfold flat at ih ⊢
    rw [List.set_cons_succ, List.flatMap_cons, List.flatMap_cons, ← ih, List.set_append_right _ _ (by rw [hz, Nat.add_mul]; omega), hz, show (i + 1) * z + k - z = i * z + k by rw [Nat.add_mul]; omega]
theorem flat_take {α : Type} {enc : α → List Value} {z : Nat} (hz : ∀ a, (enc a).length = z) : ∀ (xs : List α) (n : Nat), flat enc (xs.take n) = (flat enc xs).take (n * z)
  | [], n => by simp [flat]
  | a :: xs, 0 => by simp [flat]
  | a :: xs, n + 1 => by
    have ih := flat_take hz xs n
    unfold flat at ih ⊢
    rw [List.take_succ_cons, List.flatMap_cons, List.flatMap_cons, ih, List.take_append, hz, show (n + 1) * z - z = n * z by rw [Nat.add_mul]; omega, List.take_of_length_le (l := enc a) (by rw [hz, Nat.add_mul]; omega)]
def encJ (j : J) : List Value := [.int .i64 j.f, .int .i64 j.t, .int .i64 j.l, .int .i64 j.p]
def encO (o : Int × Int) : List Value := [.int .i64 o.1, .int .i64 o.2]
theorem encJ_len (j : J) : (encJ j).length = 4 := rfl
theorem encO_len (o : Int × Int) : (encO o).length = 2 := rfl
/-- `v` reads as `n` elements whose cells are `cs`, `z` each; wherever it lies. -/
def FlatR (w : World) (z : Nat) (v : Value) (n : Nat) (cs : List Value) : Prop := cs.length = n * z ∧ ∃ ao c, v = .slice ao n c ∧ n ≤ c ∧ (ao = none → c = 0) ∧ (n ≠ 0 → ∃ g o, ao = some ⟨g, o, none⟩ ∧ g < w.heap.size ∧ ∀ j u, cs[j]? = some u → w.cell? ⟨g, o + j, none⟩ = some u)
theorem FlatR.below {w w' : World} {z n : Nat} {v : Value} {cs : List Value} (h : FlatR w z v n cs) (hb : Below w.heap.size w w') : FlatR w' z v n cs := by
  obtain ⟨h0, ao, c, rfl, hc, h2, h⟩ := h
  refine ⟨h0, ao, c, rfl, hc, h2, fun hn => ?_⟩
  obtain ⟨g, o, rfl, hg, hcl⟩ := h hn
  exact ⟨g, o, rfl, Nat.lt_of_lt_of_le hg hb.size, fun j u hj => (hb.cell (p := ⟨g, o + j, none⟩) hg).trans (hcl j u hj)⟩
/-- A slice of jobs, from the head of its block on. -/
def ReadsJ (w : World) (v : Value) (js : List J) : Prop := ∃ ao c, v = .slice ao js.length c ∧ js.length ≤ c ∧ (js ≠ [] → ∃ g, ao = some ⟨g, 0, none⟩ ∧ g < w.heap.size ∧ ∀ j u, (flat encJ js)[j]? = some u → w.cell? ⟨g, j, none⟩ = some u)
def ReadsO (w : World) (v : Value) (os : List (Int × Int)) : Prop := ∃ ao c, v = .slice ao os.length c ∧ os.length ≤ c ∧ (os ≠ [] → ∃ g, ao = some ⟨g, 0, none⟩ ∧ g < w.heap.size ∧ ∀ j u, (flat encO os)[j]? = some u → w.cell? ⟨g, j, none⟩ = some u)
theorem ReadsJ.below {w w' : World} {v : Value} {js : List J} (h : ReadsJ w v js) (hb : Below w.heap.size w w') : ReadsJ w' v js := by
  obtain ⟨ao, c, rfl, hc, h⟩ := h
  refine ⟨ao, c, rfl, hc, fun hn => ?_⟩
  obtain ⟨g, rfl, hg, hcl⟩ := h hn
  exact ⟨g, rfl, Nat.lt_of_lt_of_le hg hb.size, fun j u hj => (hb.cell (p := ⟨g, j, none⟩) hg).trans (hcl j u hj)⟩
theorem ReadsO.below {w w' : World} {v : Value} {os : List (Int × Int)} (h : ReadsO w v os) (hb : Below w.heap.size w w') : ReadsO w' v os := by
  obtain ⟨ao, c, rfl, hc, h⟩ := h
  refine ⟨ao, c, rfl, hc, fun hn => ?_⟩
  obtain ⟨g, rfl, hg, hcl⟩ := h hn
  exact ⟨g, rfl, Nat.lt_of_lt_of_le hg hb.size, fun j u hj => (hb.cell (p := ⟨g, j, none⟩) hg).trans (hcl j u hj)⟩
theorem jobs_at {js : List J} {i : Nat} (h : i < js.length) : (flat encJ js)[i * 4]? = some (.int .i64 (js.getD i J0).f) ∧ (flat encJ js)[i * 4 + 1]? = some (.int .i64 (js.getD i J0).t) ∧
    (flat encJ js)[i * 4 + 2]? = some (.int .i64 (js.getD i J0).l) ∧ (flat encJ js)[i * 4 + 3]? = some (.int .i64 (js.getD i J0).p) := by
  have e : js.getD i J0 = js[i] := by rw [List.getD_eq_getElem?_getD, List.getElem?_eq_getElem h]; rfl
  rw [e]
  exact ⟨flat_at encJ_len js i 0 h (by omega), flat_at encJ_len js i 1 h (by omega), flat_at encJ_len js i 2 h (by omega), flat_at encJ_len js i 3 h (by omega)⟩
theorem orders_at {os : List (Int × Int)} {i : Nat} (h : i < os.length) : (flat encO os)[i * 2]? = some (.int .i64 (os.getD i (0, 0)).1) ∧ (flat encO os)[i * 2 + 1]? = some (.int .i64 (os.getD i (0, 0)).2) := by
  have e : os.getD i (0, 0) = os[i] := by rw [List.getD_eq_getElem?_getD, List.getElem?_eq_getElem h]; rfl
  rw [e]
  exact ⟨flat_at encO_len os i 0 h (by omega), flat_at encO_len os i 1 h (by omega)⟩
/-- The cells of a job. -/
theorem ReadsJ.at {w : World} {v : Value} {js : List J} (h : ReadsJ w v js) : ∃ ao c, v = .slice ao js.length c ∧ js.length ≤ c ∧ ∀ i, i < js.length → ∃ g, ao = some ⟨g, 0, none⟩ ∧ g < w.heap.size ∧
    w.cell? ⟨g, i * 4, none⟩ = some (.int .i64 (js.getD i J0).f) ∧ w.cell? ⟨g, i * 4 + 1, none⟩ = some (.int .i64 (js.getD i J0).t) ∧ w.cell? ⟨g, i * 4 + 2, none⟩ = some (.int .i64 (js.getD i J0).l) ∧ w.cell? ⟨g, i * 4 + 3, none⟩ = some (.int .i64 (js.getD i J0).p) := by
  obtain ⟨ao, c, rfl, hc, h⟩ := h
  refine ⟨ao, c, rfl, hc, fun i hi => ?_⟩
  obtain ⟨g, rfl, hg, hcl⟩ := h (fun e => by rw [e] at hi; simp at hi)
  obtain ⟨a1, a2, a3, a4⟩ := jobs_at hi
  exact ⟨g, rfl, hg, hcl _ _ a1, hcl _ _ a2, hcl _ _ a3, hcl _ _ a4⟩
theorem ReadsO.at {w : World} {v : Value} {os : List (Int × Int)} (h : ReadsO w v os) : ∃ ao c, v = .slice ao os.length c ∧ os.length ≤ c ∧ ∀ i, i < os.length → ∃ g, ao = some ⟨g, 0, none⟩ ∧ g < w.heap.size ∧
    w.cell? ⟨g, i * 2, none⟩ = some (.int .i64 (os.getD i (0, 0)).1) ∧ w.cell? ⟨g, i * 2 + 1, none⟩ = some (.int .i64 (os.getD i (0, 0)).2) := by
  obtain ⟨ao, c, rfl, hc, h⟩ := h
  refine ⟨ao, c, rfl, hc, fun i hi => ?_⟩
  obtain ⟨g, rfl, hg, hcl⟩ := h (fun e => by rw [e] at hi; simp at hi)
  obtain ⟨a1, a2⟩ := orders_at hi
  exact ⟨g, rfl, hg, hcl _ _ a1, hcl _ _ a2⟩
theorem info56 : (Try.prog.info? 56).map (fun i => (i.zero, i.size, i.bytes)) = some (some (.agg #[.int .i64 0, .int .i64 0, .int .i64 0, .int .i64 0]), 4, 32) := by kernel_rfl
theorem info78 : (Try.prog.info? 78).map (fun i => (i.zero, i.size, i.bytes)) = some (some (.agg #[.int .i64 0, .int .i64 0]), 2, 16) := by kernel_rfl
/-- Jobs, orders of one's own. -/
def OwnJ (w : World) (B : Nat) (v : Value) (js : List J) : Prop := w.ownsRow B 56 4 v js.length (flat encJ js)
def OwnO (w : World) (B : Nat) (v : Value) (os : List (Int × Int)) : Prop := w.ownsRow B 78 2 v os.length (flat encO os)
theorem OwnJ.below {w w' : World} {B : Nat} {v : Value} {js : List J} (h : OwnJ w B v js) (hb : Below w.heap.size w w') : OwnJ w' B v js := own_below h hb
theorem OwnO.below {w w' : World} {B : Nat} {v : Value} {os : List (Int × Int)} (h : OwnO w B v os) (hb : Below w.heap.size w w') : OwnO w' B v os := own_below h hb
theorem own_cells {w : World} {B e sz n : Nat} {v : Value} {xs : List Value} (h : w.ownsRow B e sz v n xs) : ∃ ao c, v = .slice ao n c ∧ n ≤ c ∧ (n ≠ 0 → ∃ g, ao = some ⟨g, 0, none⟩ ∧ B ≤ g ∧ g < w.heap.size ∧ ∀ j u, xs[j]? = some u → w.cell? ⟨g, j, none⟩ = some u) := by
  have hh := h
  rcases h.2 with ⟨rfl, h0⟩ | ⟨g, cap, cur, rfl, hB, hg, hn, _⟩
  · exact ⟨none, 0, by rw [h0], by omega, fun hne => absurd h0 hne⟩
  · refine ⟨_, cap, rfl, hn, fun _ => ⟨g, rfl, hB, (Array.getElem?_eq_some_iff.1 hg).1, fun j u hj => ?_⟩⟩
    have hl := (List.getElem?_eq_some_iff.1 hj).1
    rw [hh.cellAt j (by rw [← hh.1]; exact hl), hj]
theorem OwnJ.reads {w : World} {B : Nat} {v : Value} {js : List J} (h : OwnJ w B v js) : ReadsJ w v js := by
  obtain ⟨ao, c, rfl, hc, h⟩ := own_cells h
  refine ⟨ao, c, rfl, hc, fun hn => ?_⟩
  obtain ⟨g, rfl, _, hg, hcl⟩ := h (fun e => hn (List.length_eq_zero_iff.1 e))
  exact ⟨g, rfl, hg, hcl⟩
theorem OwnO.reads {w : World} {B : Nat} {v : Value} {os : List (Int × Int)} (h : OwnO w B v os) : ReadsO w v os := by
  obtain ⟨ao, c, rfl, hc, h⟩ := own_cells h
  refine ⟨ao, c, rfl, hc, fun hn => ?_⟩
  obtain ⟨g, rfl, _, hg, hcl⟩ := h (fun e => hn (List.length_eq_zero_iff.1 e))
  exact ⟨g, rfl, hg, hcl⟩
theorem one_flatJ (js : List J) : ∀ v ∈ flat encJ js, v.oneCell' = true := fun v hv => by
  simp only [flat, List.mem_flatMap, encJ, List.mem_cons, List.not_mem_nil, or_false] at hv
  obtain ⟨j, _, rfl | rfl | rfl | rfl⟩ := hv <;> rfl
theorem one_flatO (os : List (Int × Int)) : ∀ v ∈ flat encO os, v.oneCell' = true := fun v hv => by
  simp only [flat, List.mem_flatMap, encO, List.mem_cons, List.not_mem_nil, or_false] at hv
  obtain ⟨j, _, rfl | rfl⟩ := hv <;> rfl
/-- A shaft as a value. -/
def ShV (w : World) (v : Value) (P : Int) (js : List J) (os : List (Int × Int)) : Prop := ∃ jv ov, v = .agg #[.int .i64 P, jv, ov] ∧ ReadsJ w jv js ∧ ReadsO w ov os
theorem ShV.below {w w' : World} {v : Value} {P : Int} {js : List J} {os : List (Int × Int)} (h : ShV w v P js os) (hb : Below w.heap.size w w') : ShV w' v P js os := by
  obtain ⟨jv, ov, rfl, h1, h2⟩ := h
  exact ⟨jv, ov, rfl, h1.below hb, h2.below hb⟩

set_option maxRecDepth 100000 in
theorem in41 {w : World} (v a b : Int) : Calls Try.prog 41 #[.int .i64 v, .int .i64 a, .int .i64 b] w fun e w' => e = .returned (.bool (decide (a ≤ v) && decide (v ≤ b))) ∧ w = w' := by
  by_cases h : a ≤ v
  · go_enter Try.func41, Try.ntmps41
    go_wp2
    go_ret
    exact ⟨ret_b (by simp [h]), rfl⟩
  · have h' : decide (v ≥ a) = false := by simpa using h
    go_enter Try.func41, Try.ntmps41
    go_wp2
    go_ret
    exact ⟨ret_b (by simp), rfl⟩
set_option maxRecDepth 100000 in
theorem power56 {w : World} (v : Int) : Calls Try.prog 56 #[.int .i64 v] w fun e w' => e = .returned (.bool (decide (1 ≤ v) && decide (v ≤ 20))) ∧ w = w' := by
  by_cases h : 1 ≤ v
  · go_enter Try.func56, Try.ntmps56
    go_wp2
    go_ret
    exact ⟨ret_b (by simp [h]), rfl⟩
  · have h' : decide (v ≥ 1) = false := by simpa using h
    go_enter Try.func56, Try.ntmps56
    go_wp2
    go_ret
    exact ⟨ret_b (by simp), rfl⟩
set_option maxRecDepth 100000 in
theorem latest38 {w : World} (j : J) (h : -1000000 ≤ j.t ∧ j.t ≤ 1000000 ∧ -1000000 ≤ j.l ∧ j.l ≤ 1000000) : Calls Try.prog 38 #[.agg #[.int .i64 j.f, .int .i64 j.t, .int .i64 j.l, .int .i64 j.p]] w fun e w' => e = .returned (.int .i64 (lat j)) ∧ Below w.heap.size w w' := by
  obtain ⟨f, t, l, p⟩ := j
  simp only at h
  obtain ⟨h1, h2, h3, h4⟩ := h
  go_enter Try.func38, Try.ntmps38
  go_wp2
  go_ret
  exact ⟨rfl, below_alloc1 _ _⟩
end Go.Proofs.Ytjkbhdlbomcbeaa
