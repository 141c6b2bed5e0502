import Derived.Test.YtbcoaiaocfommaaRa
import Derived.Test.YtbcoaiaocfommaaU
namespace Go.Proofs.Ytbcoaiaocfommaa
open Go.RowKit

/-! ## the program's runs are the reference's, in another order -/
theorem subL_get (l : List UInt8) (i j t : Nat) : (subL l i j)[t]? = if t < j - i then l[i + t]? else none := by
  unfold subL
  rw [List.getElem?_take, List.getElem?_drop]
theorem subL_len (l : List UInt8) (i j : Nat) (hj : j ≤ l.length) : (subL l i j).length = j - i := by
  unfold subL; rw [List.length_take, List.length_drop]; omega
theorem per_subL {l : List UInt8} {i j p : Nat} (hj : j ≤ l.length) : perB (subL l i j) p = true ↔ ∀ t, i ≤ t → t + p < j → l[t]? = l[t + p]? := by
  rw [perB_iff, subL_len l i j hj]
  constructor
  · intro h t h1 h2
    have := h (t - i) (by omega)
    rw [subL_get, subL_get, if_pos (by omega), if_pos (by omega), show i + (t - i) = t by omega, show i + (t - i + p) = t + p by omega] at this
    exact this
  · intro h t h1
    rw [subL_get, subL_get, if_pos (by omega), if_pos (by omega)]
    have := h (i + t) (by omega) (by omega)
    rw [show i + (t + p) = i + t + p by omega]
    exact this
theorem ext_iff {l : List UInt8} {p t : Nat} (hp : p ≤ t) (ht : t < l.length) : extB l p t = true ↔ l[t - p]? = l[t]? := by
  unfold extB
  have h1 : t - p < l.length := by omega
  rw [List.getD_eq_getElem?_getD, List.getD_eq_getElem?_getD, List.getElem?_eq_getElem ht, List.getElem?_eq_getElem h1]
  simp [ht]
  exact eq_comm

structure MaxRep (l : List UInt8) (p i j : Nat) : Prop where
  two : i + 2 * p ≤ j
  le : j ≤ l.length
  per : perB (subL l i j) p = true
  least : leastP (subL l i j) = p
  left : i = 0 ∨ l[i - 1]? ≠ l[i - 1 + p]?
  right : j = l.length ∨ l[j - p]? ≠ l[j]?

theorem sub_eq (l : List UInt8) (i j : Nat) : sub l i j = subL l i j := rfl

theorem mem_runsL {l : List UInt8} {p : Nat} (hp : 1 ≤ p) : ∀ (f a : Nat), l.length + 1 ≤ f + a → (a = 0 ∨ l[a - 1]? ≠ l[a - 1 + p]? ∨ l.length < a + 2 * p) →
    ∀ x, x ∈ runsL l p f a ↔ ∃ i j, x = (i, j, p) ∧ a ≤ i ∧ MaxRep l p i j := by
  intro f
  induction f with
  | zero =>
    intro a hf _ x
    simp only [runsL, List.not_mem_nil, false_iff]
    rintro ⟨i, j, _, hai, h⟩
    have := h.two; have := h.le; omega
  | succ f ih =>
    intro a hf hleft x
    by_cases hlt : a + 2 * p ≤ l.length
    · obtain ⟨h1, h2, h3, h4⟩ := extTo_spec (l := l) (p := p) (a := a + p) (by omega)
      obtain ⟨t, ht⟩ : ∃ t, t = extTo l p (a + p) := ⟨_, rfl⟩
      rw [← ht] at h1 h2 h3 h4
      have hnext : t - p + 1 = 0 ∨ l[t - p + 1 - 1]? ≠ l[t - p + 1 - 1 + p]? ∨ l.length < t - p + 1 + 2 * p := by
        by_cases hn : t < l.length
        · refine .inr (.inl ?_)
          rw [show t - p + 1 - 1 = t - p by omega, show t - p + p = t by omega]
          intro e
          rw [(ext_iff (by omega) hn).2 e] at h3; cases h3
        · exact .inr (.inr (by omega))
      have hl : a = 0 ∨ l[a - 1]? ≠ l[a - 1 + p]? := by
        rcases hleft with h | h | h
        · exact .inl h
        · exact .inr h
        · omega
      have hpt : ∀ r, a + p ≤ r → r < t → l[r - p]? = l[r]? := fun r hr1 hr2 => (ext_iff (by omega) (by omega)).1 (h4 r hr1 hr2)
      have hper : perB (subL l a t) p = true := (per_subL h2).2 fun r hr1 hr2 => by
        have := hpt (r + p) (by omega) (by omega)
        rwa [show r + p - p = r by omega] at this
      have hright : t = l.length ∨ l[t - p]? ≠ l[t]? := by
        by_cases hn : t < l.length
        · refine .inr fun e => ?_
          rw [(ext_iff (by omega) hn).2 e] at h3; cases h3
        · exact .inl (by omega)
      have hrest := ih (t - p + 1) (by omega) hnext x
      have hcomp : ∀ i j, a ≤ i → MaxRep l p i j → (i = a ∧ j = t) ∨ t - p + 1 ≤ i := by
        intro i j hai hm
        have m1 := hm.two
        have m2 := hm.le
        by_cases e : i = a
        · left
          subst e
          refine ⟨rfl, ?_⟩
          rw [ht]
          refine (extTo_eq (by omega) m2 ?_ ?_).symm
          · by_cases hn : j < l.length
            · rcases hm.right with h | h
              · omega
              · cases e2 : extB l p j
                · rfl
                · exact absurd ((ext_iff (by omega) hn).1 e2) h
            · unfold extB; rw [show decide (j < l.length) = false by simp; omega]; rfl
          · intro r hr1 hr2
            refine (ext_iff (by omega) (by omega)).2 ?_
            have := (per_subL m2).1 hm.per (r - p) (by omega) (by omega)
            rwa [show r - p + p = r by omega] at this
        · right
          rcases hm.left with h | h
          · omega
          · rcases Nat.lt_or_ge (i - 1 + p) t with h5 | h5
            · exfalso
              apply h
              have := hpt (i - 1 + p) (by omega) h5
              rwa [show i - 1 + p - p = i - 1 by omega] at this
            · omega
      by_cases hr : runHere l p a t = true
      · rw [runsL_yes hlt ht.symm hr, List.mem_cons, hrest]
        have hr' := hr
        unfold runHere at hr'
        simp only [Bool.and_eq_true, decide_eq_true_eq, beq_iff_eq] at hr'
        have hM : MaxRep l p a t := ⟨by omega, h2, hper, by rw [← sub_eq]; exact hr'.2, hl, hright⟩
        constructor
        · rintro (rfl | ⟨i, j, rfl, hi, hm⟩)
          · exact ⟨a, t, rfl, Nat.le_refl _, hM⟩
          · exact ⟨i, j, rfl, by omega, hm⟩
        · rintro ⟨i, j, rfl, hi, hm⟩
          rcases hcomp i j hi hm with ⟨rfl, rfl⟩ | h
          · exact .inl rfl
          · exact .inr ⟨i, j, rfl, h, hm⟩
      · have hr0 : runHere l p a t = false := by simpa using hr
        rw [runsL_no hlt ht.symm hr0, hrest]
        constructor
        · rintro ⟨i, j, rfl, hi, hm⟩
          exact ⟨i, j, rfl, by omega, hm⟩
        · rintro ⟨i, j, rfl, hi, hm⟩
          rcases hcomp i j hi hm with ⟨rfl, rfl⟩ | h
          · exfalso
            apply hr
            unfold runHere
            have := hm.two
            rw [sub_eq, hm.least]
            simp; omega
          · exact ⟨i, j, rfl, h, hm⟩
    · rw [runsL_end l p _ a hlt]
      simp only [List.not_mem_nil, false_iff]
      rintro ⟨i, j, _, hai, h⟩
      have := h.two; have := h.le; omega

theorem mem_runsCat {l : List UInt8} (k : Nat) (x : RunT) : x ∈ runsCat l k ↔ ∃ p i j, 1 ≤ p ∧ p ≤ k ∧ x = (i, j, p) ∧ MaxRep l p i j := by
  induction k with
  | zero => simp only [runsCat, List.not_mem_nil, false_iff]; rintro ⟨p, i, j, h1, h2, _⟩; omega
  | succ k ih =>
    rw [runsCat, List.mem_append, ih, mem_runsL (by omega) _ _ (by omega) (.inl rfl)]
    constructor
    · rintro (⟨p, i, j, h1, h2, h3, h4⟩ | ⟨i, j, rfl, _, h⟩)
      · exact ⟨p, i, j, h1, by omega, h3, h4⟩
      · exact ⟨k + 1, i, j, by omega, Nat.le_refl _, rfl, h⟩
    · rintro ⟨p, i, j, h1, h2, rfl, h⟩
      by_cases e : p = k + 1
      · subst e; exact .inr ⟨i, j, rfl, Nat.zero_le _, h⟩
      · exact .inl ⟨p, i, j, h1, by omega, rfl, h⟩

theorem pre_iff {l : List UInt8} {i j p : Nat} (hj : j ≤ l.length) (h2 : i + 2 * p ≤ j) (hp : 1 ≤ p) (hper : perB (subL l i j) p = true) : preB l i j p = false ↔ (i = 0 ∨ l[i - 1]? ≠ l[i - 1 + p]?) := by
  unfold preB
  rw [Bool.and_eq_false_iff]
  constructor
  · rintro (h | h)
    · left; simpa using h
    · by_cases h0 : i = 0
      · exact .inl h0
      · right
        intro e
        rw [(per_subL hj).2 (fun t h3 h4 => by
          by_cases ht : t = i - 1
          · rw [ht]; exact e
          · exact (per_subL hj).1 hper t (by omega) h4)] at h
        cases h
  · rintro (h | h)
    · left; simp [h]
    · by_cases h0 : i = 0
      · left; simp [h0]
      · right
        cases e : perB (subL l (i - 1) j) p
        · rfl
        · exact absurd ((per_subL hj).1 e (i - 1) (Nat.le_refl _) (by omega)) h
theorem suf_iff {l : List UInt8} {i j p : Nat} (hj : j ≤ l.length) (h2 : i + 2 * p ≤ j) (hp : 1 ≤ p) (hper : perB (subL l i j) p = true) : sufB l i j p = false ↔ (j = l.length ∨ l[j - p]? ≠ l[j]?) := by
  unfold sufB
  rw [Bool.and_eq_false_iff]
  constructor
  · rintro (h | h)
    · left; simp at h; omega
    · by_cases h0 : j = l.length
      · exact .inl h0
      · right
        intro e
        rw [(per_subL (by omega)).2 (fun t h3 h4 => by
          by_cases ht : t + p = j
          · rw [show t = j - p by omega, show j - p + p = j by omega]; exact e
          · exact (per_subL hj).1 hper t h3 (by omega))] at h
        cases h
  · rintro (h | h)
    · left; simp [h]
    · by_cases h0 : j = l.length
      · left; simp [h0]
      · right
        cases e : perB (subL l i (j + 1)) p
        · rfl
        · have := (per_subL (by omega)).1 e (j - p) (by omega) (by omega)
          rw [show j - p + p = j by omega] at this
          exact absurd this h
theorem max_iff {l : List UInt8} {i j : Nat} (hj : j ≤ l.length) (hij : i < j) : maxB l i j (leastP (subL l i j)) = true ↔ MaxRep l (leastP (subL l i j)) i j := by
  have hls := leastP_spec (l := subL l i j) (by rw [subL_len l i j hj]; omega)
  unfold maxB
  simp only [Bool.and_eq_true, decide_eq_true_eq, Bool.not_eq_true']
  constructor
  · rintro ⟨⟨h1, h2⟩, h3⟩
    exact ⟨by omega, hj, hls.2.2.1, rfl, (pre_iff hj (by omega) hls.1 hls.2.2.1).1 h2, (suf_iff hj (by omega) hls.1 hls.2.2.1).1 h3⟩
  · intro h
    have h2 := h.two
    exact ⟨⟨by omega, (pre_iff hj h2 hls.1 hls.2.2.1).2 h.left⟩, (suf_iff hj h2 hls.1 hls.2.2.1).2 h.right⟩
end Go.Proofs.Ytbcoaiaocfommaa
