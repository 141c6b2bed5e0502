import Derived.Test.YtbcoaiaocfommaaX
namespace Go.Proofs.Ytbcoaiaocfommaa
open Go.RowKit

/-! ## the points in order: plain mathematics -/
theorem sorted_perm (l : List Int) : (sorted l).Perm l := List.mergeSort_perm _ _
theorem sorted_le (l : List Int) : (sorted l).Pairwise (· ≤ ·) := by
  have := List.pairwise_mergeSort (le := fun x y : Int => decide (x ≤ y)) (fun a b c h1 h2 => by simp at *; omega) (fun a b => by simp; omega) l
  exact this.imp (fun h => by simpa using h)
theorem circle_left (s n c j : Nat) (h : j < c) : (circle s n c).getD j 0 = (sorted (pts s n c)).getD j 0 := by
  unfold circle
  rw [List.getD_eq_getElem?_getD, List.getElem?_append_left (by rw [sorted_len, pts_len]; exact h), List.getD_eq_getElem?_getD]
theorem circle_last (s n c : Nat) : (circle s n c).getD c 0 = n := by
  unfold circle
  rw [List.getD_eq_getElem?_getD, List.getElem?_append_right (by rw [sorted_len, pts_len]; exact Nat.le_refl _), sorted_len, pts_len]
  simp
theorem pts_bd (s n c : Nat) (hn : 1 ≤ n) : ∀ x ∈ pts s n c, 0 ≤ x ∧ x < n := by
  intro x hx
  unfold pts at hx
  rw [List.mem_map] at hx
  obtain ⟨i, _, rfl⟩ := hx
  have : pt s n i < n := by unfold pt; exact Nat.mod_lt _ (by omega)
  omega
theorem sorted_mem (s n c j : Nat) (h : j < c) : (sorted (pts s n c)).getD j 0 ∈ pts s n c := by
  have hl : j < (sorted (pts s n c)).length := by rw [sorted_len, pts_len]; exact h
  rw [List.getD_eq_getElem?_getD, List.getElem?_eq_getElem hl]
  exact (sorted_perm _).mem_iff.1 (List.getElem_mem hl)
theorem sorted_mono (s n c i j : Nat) (hij : i < j) (h : j < c) : (sorted (pts s n c)).getD i 0 ≤ (sorted (pts s n c)).getD j 0 := by
  have hl : (sorted (pts s n c)).length = c := by rw [sorted_len, pts_len]
  have := List.pairwise_iff_getElem.1 (sorted_le (pts s n c)) i j (by omega) (by omega) hij
  rw [List.getD_eq_getElem?_getD, List.getD_eq_getElem?_getD, List.getElem?_eq_getElem (by omega), List.getElem?_eq_getElem (by omega)]
  exact this

theorem zeroB_iff (q : List Int) (k : Nat) : zeroB q k = true ↔ ∃ i, i < k ∧ q.getD i 0 = q.getD (i + 1) 0 := by
  unfold zeroB diffs
  rw [List.contains_iff_mem, List.mem_map]
  constructor
  · rintro ⟨i, hi, he⟩; exact ⟨i, List.mem_range.1 hi, by omega⟩
  · rintro ⟨i, hi, he⟩; exact ⟨i, List.mem_range.2 hi, by omega⟩

theorem zero_nodup {s n c : Nat} (hn : 1 ≤ n) : zeroB (circle s n c) c = false ↔ (pts s n c).Nodup := by
  constructor
  · intro hz
    have hstep : ∀ i, i + 1 < c → (sorted (pts s n c)).getD i 0 < (sorted (pts s n c)).getD (i + 1) 0 := by
      intro i hi
      have h1 := sorted_mono s n c i (i + 1) (by omega) hi
      have h2 : ¬ (sorted (pts s n c)).getD i 0 = (sorted (pts s n c)).getD (i + 1) 0 := by
        intro e
        have : zeroB (circle s n c) c = true := (zeroB_iff _ _).2 ⟨i, by omega, by rw [circle_left _ _ _ _ (by omega), circle_left _ _ _ _ hi]; exact e⟩
        rw [hz] at this; simp at this
      omega
    refine (sorted_perm _).nodup_iff.1 ?_
    rw [List.nodup_iff_pairwise_ne, List.pairwise_iff_getElem]
    intro i j hi hj hij e
    rw [sorted_len, pts_len] at hi hj
    have h1 := hstep i (by omega)
    have h2 : (sorted (pts s n c)).getD (i + 1) 0 ≤ (sorted (pts s n c)).getD j 0 := by
      by_cases e2 : i + 1 = j
      · rw [e2]; exact Int.le_refl _
      · exact sorted_mono s n c (i + 1) j (by omega) hj
    rw [List.getD_eq_getElem?_getD, List.getElem?_eq_getElem (by rw [sorted_len, pts_len]; exact hi)] at h1
    rw [List.getD_eq_getElem?_getD (i := j), List.getElem?_eq_getElem (by rw [sorted_len, pts_len]; exact hj)] at h2
    simp only [Option.getD_some] at h1 h2
    omega
  · intro hnd
    cases hz : zeroB (circle s n c) c with
    | false => rfl
    | true =>
      exfalso
      obtain ⟨i, hi, he⟩ := (zeroB_iff _ _).1 hz
      rw [circle_left _ _ _ _ hi] at he
      by_cases hic : i + 1 = c
      · rw [hic, circle_last] at he
        have := (pts_bd s n c hn _ (sorted_mem s n c i hi)).2
        omega
      · rw [circle_left _ _ _ _ (by omega)] at he
        have hs := (sorted_perm (pts s n c)).nodup_iff.2 hnd
        rw [List.nodup_iff_pairwise_ne, List.pairwise_iff_getElem] at hs
        have := hs i (i + 1) (by rw [sorted_len, pts_len]; omega) (by rw [sorted_len, pts_len]; omega) (by omega)
        apply this
        rw [List.getD_eq_getElem?_getD, List.getD_eq_getElem?_getD, List.getElem?_eq_getElem (by rw [sorted_len, pts_len]; omega), List.getElem?_eq_getElem (by rw [sorted_len, pts_len]; omega)] at he
        exact he

theorem circle_strict {s n c : Nat} (hn : 1 ≤ n) (hz : zeroB (circle s n c) c = false) : ∀ i, i < c → (circle s n c).getD i 0 < (circle s n c).getD (i + 1) 0 := by
  intro i hi
  have h2 : ¬ (circle s n c).getD i 0 = (circle s n c).getD (i + 1) 0 := by
    intro e
    have := (zeroB_iff _ _).2 ⟨i, hi, e⟩
    rw [hz] at this; simp at this
  have h1 : (circle s n c).getD i 0 ≤ (circle s n c).getD (i + 1) 0 := by
    by_cases hic : i + 1 = c
    · rw [hic, circle_last, circle_left _ _ _ _ hi]
      have := (pts_bd s n c hn _ (sorted_mem s n c i hi)).2
      omega
    · rw [circle_left _ _ _ _ hi, circle_left _ _ _ _ (by omega)]
      exact sorted_mono s n c i (i + 1) (by omega) (by omega)
  omega
theorem strict_lt {q : List Int} {c : Nat} (h : ∀ i, i < c → q.getD i 0 < q.getD (i + 1) 0) : ∀ d i, i + d < c → q.getD i 0 < q.getD (i + d + 1) 0 := by
  intro d
  induction d with
  | zero => intro i hi; exact h i hi
  | succ d ih =>
    intro i hi
    have h1 := ih i (by omega)
    have h2 := h (i + d + 1) (by omega)
    rw [show i + (d + 1) + 1 = i + d + 1 + 1 from by omega]
    omega
theorem circle_first {s n c : Nat} (hn : 1 ≤ n) (hc : 1 ≤ c) : (circle s n c).getD 0 0 = 0 := by
  rw [circle_left _ _ _ _ (by omega)]
  have h0 := (pts_bd s n c hn _ (sorted_mem s n c 0 (by omega))).1
  have hz : (0 : Int) ∈ pts s n c := by
    unfold pts; rw [List.mem_map]
    exact ⟨0, List.mem_range.2 (by omega), by unfold pt; simp⟩
  have hz2 := (sorted_perm (pts s n c)).mem_iff.2 hz
  obtain ⟨j, hj, he⟩ := List.getElem_of_mem hz2
  rw [sorted_len, pts_len] at hj
  by_cases ej : j = 0
  · subst ej
    rw [List.getD_eq_getElem?_getD, List.getElem?_eq_getElem (by rw [sorted_len, pts_len]; omega)]
    exact he
  · have := sorted_mono s n c 0 j (by omega) hj
    rw [List.getD_eq_getElem?_getD (i := j), List.getElem?_eq_getElem (by rw [sorted_len, pts_len]; exact hj)] at this
    simp only [Option.getD_some] at this
    omega
/-- A point is one of the circle's. -/
theorem pts_circle {s n c : Nat} (x : Int) : x ∈ pts s n c ↔ ∃ j, j < c ∧ (circle s n c).getD j 0 = x := by
  constructor
  · intro h
    obtain ⟨j, hj, he⟩ := List.getElem_of_mem ((sorted_perm (pts s n c)).mem_iff.2 h)
    have hj' : j < c := by rw [sorted_len, pts_len] at hj; exact hj
    exact ⟨j, hj', by rw [circle_left _ _ _ _ hj', List.getD_eq_getElem?_getD, List.getElem?_eq_getElem hj]; exact he⟩
  · rintro ⟨j, hj, rfl⟩
    rw [circle_left _ _ _ _ hj]; exact sorted_mem s n c j hj

theorem scan_inv {s n c : Nat} (hn : 1 ≤ n) (hc : 1 ≤ c) (hz : zeroB (circle s n c) c = false) : ∀ k, k < n → ∃ m, m < c ∧ (circle s n c).getD m 0 ≤ k ∧ (k : Int) < (circle s n c).getD (m + 1) 0 ∧ (((scan s n c k).2 : Nat) : Int) = (circle s n c).getD m 0 ∧ (scan s n c k).1 = diffs (circle s n c) m := by
  have hst := circle_strict (s := s) hn hz
  intro k
  induction k with
  | zero =>
    intro _
    have h0 := circle_first (s := s) hn hc
    have h1 := hst 0 (by omega)
    exact ⟨0, by omega, by omega, by omega, by rw [h0]; rfl, rfl⟩
  | succ k ih =>
    intro hk
    obtain ⟨m, hm, h1, h2, h3, h4⟩ := ih (by omega)
    by_cases hmem : ((k + 1 : Nat) : Int) ∈ pts s n c
    · obtain ⟨j, hj, he⟩ := (pts_circle _).1 hmem
      have hjm : j = m + 1 := by
        rcases Nat.lt_trichotomy j (m + 1) with h | h | h
        · exfalso
          have : (circle s n c).getD j 0 ≤ (circle s n c).getD m 0 := by
            by_cases e : j = m
            · rw [e]; exact Int.le_refl _
            · have := strict_lt hst (m - j - 1) j (by omega)
              rw [show j + (m - j - 1) + 1 = m from by omega] at this
              omega
          omega
        · exact h
        · exfalso
          have := strict_lt hst (j - (m + 1) - 1) (m + 1) (by omega)
          rw [show m + 1 + (j - (m + 1) - 1) + 1 = j from by omega] at this
          omega
      rw [scan_yes (.inr hmem)]
      refine ⟨m + 1, by omega, ?_, ?_, ?_, ?_⟩
      · rw [← hjm, he]; exact Int.le_refl _
      · have := hst (m + 1) (by omega)
        rw [← hjm, he] at this
        rw [hjm] at this; exact this
      · show ((k + 1 : Nat) : Int) = _
        rw [← hjm, he]
      · show (scan s n c k).1 ++ [_] = _
        rw [h4, diffs_snoc, h3, ← hjm, he]; rfl
    · rw [scan_no (by rintro (e | e); omega; exact hmem e)]
      refine ⟨m, hm, by omega, ?_, h3, h4⟩
      have hne : ¬ ((k + 1 : Nat) : Int) = (circle s n c).getD (m + 1) 0 := by
        intro e
        by_cases hmc : m + 1 = c
        · rw [hmc, circle_last] at e; omega
        · exact hmem ((pts_circle _).2 ⟨m + 1, by omega, e.symm⟩)
      omega
/-- The scan finds the distances. -/
theorem scan_diffs {s n c : Nat} (hn : 1 ≤ n) (hc : 1 ≤ c) (hz : zeroB (circle s n c) c = false) : (scan s n c n).1 = diffs (circle s n c) c := by
  obtain ⟨k, hk⟩ : ∃ k, n = k + 1 := ⟨n - 1, by omega⟩
  obtain ⟨m, hm, h1, h2, h3, h4⟩ := scan_inv hn hc hz k (by omega)
  have hmc : m + 1 = c := by
    rcases Nat.lt_or_ge (m + 1) c with h | h
    · exfalso
      have := (pts_bd s n c hn _ ((pts_circle _).2 ⟨m + 1, h, rfl⟩)).2
      omega
    · omega
  conv => lhs; rw [hk]
  rw [← hk]
  have hsy := scan_yes (s := s) (n := n) (c := c) (k := k) (.inl hk.symm)
  rw [← hk] at hsy
  rw [hsy]
  show (scan s n c k).1 ++ [_] = _
  rw [h4, h3, ← hmc, diffs_snoc, hmc, circle_last, hk]; rfl
end Go.Proofs.Ytbcoaiaocfommaa
