import Derived.Test.YtbcoaiaocfommaaO
namespace Go.Proofs.Ytbcoaiaocfommaa
open Go.RowKit

/-! ## Lyndon words put together -/
theorem less_append {u v : List UInt8} (hu : u ≠ []) (hv : Lyn v) (h : lessL u v = true) : lessL (u ++ v) v = true := by
  rw [lessL_iff] at h ⊢
  obtain ⟨t, ht, hx⟩ := h
  have hul : 1 ≤ u.length := by rcases Nat.eq_zero_or_pos u.length with e | e; exact absurd (List.length_eq_zero_iff.1 e) hu; exact e
  rcases hx with ⟨x, y, h1, h2, h3⟩ | ⟨h1, y, h2⟩
  · have hlt : t < u.length := (List.getElem?_eq_some_iff.1 h1).1
    refine ⟨t, fun j hj => ?_, .inl ⟨x, y, ?_, h2, h3⟩⟩
    · rw [List.getElem?_append_left (by omega)]; exact ht j hj
    · rw [List.getElem?_append_left hlt]; exact h1
  · have hge : u.length ≤ t := List.getElem?_eq_none_iff.1 h1
    have hvl : t < v.length := (List.getElem?_eq_some_iff.1 h2).1
    have hteq : t = u.length := by
      by_cases e : t = u.length
      · exact e
      · have := ht u.length (by omega)
        rw [List.getElem?_eq_none (Nat.le_refl _), List.getElem?_eq_getElem (by omega)] at this
        simp at this
    subst hteq
    have := hv.2 u.length hul hvl
    rw [lessL_iff] at this
    obtain ⟨r, hr, hy⟩ := this
    refine ⟨u.length + r, fun j hj => ?_, ?_⟩
    · by_cases hju : j < u.length
      · rw [List.getElem?_append_left hju]; exact ht j hju
      · rw [List.getElem?_append_right (by omega), hr (j - u.length) (by omega), List.getElem?_drop, show u.length + (j - u.length) = j from by omega]
    · rw [List.getElem?_append_right (by omega), show u.length + r - u.length = r from by omega]
      rw [List.getElem?_drop] at hy
      exact hy

theorem lyn_append {u v : List UInt8} (hu : Lyn u) (hv : Lyn v) (h : lessL u v = true) : Lyn (u ++ v) := by
  refine ⟨by simp [hu.1], fun i h1 h2 => ?_⟩
  rw [List.length_append] at h2
  by_cases hi : i < u.length
  · obtain ⟨t, x, y, ht, heq, hx, hy, hxy⟩ := hu.diff i h1 hi
    rw [lessL_iff]
    refine ⟨t, fun j hj => ?_, .inl ⟨x, y, ?_, ?_, hxy⟩⟩
    · rw [List.getElem?_drop, List.getElem?_append_left (by omega), List.getElem?_append_left (by omega)]; exact heq j hj
    · rw [List.getElem?_append_left (by omega)]; exact hx
    · rw [List.getElem?_drop, List.getElem?_append_left (by omega)]; exact hy
  · have h3 := less_append hu.1 hv h
    rw [List.drop_append, List.drop_eq_nil_of_le (by omega), List.nil_append]
    by_cases h4 : i - u.length = 0
    · rw [h4, List.drop_zero]; exact h3
    · exact lessL_trans h3 (hv.2 _ (by omega) (by omega))

/-- The words: Lyndon words, none less than the next one; together the list. -/
theorem wordsF_all : ∀ f l, l.length ≤ f → (∀ u ∈ wordsF f l, lynB u = true) ∧ (wordsF f l).flatten = l ∧ (∀ i, i + 1 < (wordsF f l).length → lessL ((wordsF f l).getD i []) ((wordsF f l).getD (i + 1) []) = false) := by
  intro f
  induction f with
  | zero =>
    intro l h
    have : l = [] := List.length_eq_zero_iff.1 (by omega)
    subst this
    exact ⟨by simp [wordsF], rfl, fun i h => by simp [wordsF] at h⟩
  | succ f ih =>
    intro l h
    by_cases hl : l = []
    · subst hl; exact ⟨by simp [wordsF], rfl, fun i h => by simp [wordsF] at h⟩
    · have hl1 : 1 ≤ l.length := by rcases Nat.eq_zero_or_pos l.length with e | e; exact absurd (List.length_eq_zero_iff.1 e) hl; exact e
      obtain ⟨g1, g2, g3, g4⟩ := fw_spec hl1
      obtain ⟨i1, i2, i3⟩ := ih (l.drop (fw l)) (by rw [List.length_drop]; omega)
      rw [wordsF_cons hl]
      refine ⟨?_, ?_, ?_⟩
      · intro u hu
        rcases List.mem_cons.1 hu with rfl | hu
        · exact g3
        · exact i1 u hu
      · rw [List.flatten_cons, i2, List.take_append_drop]
      · intro i hi
        cases i with
        | succ i => simpa using i3 i (by simpa using hi)
        | zero =>
          simp only [List.getD_cons_zero, List.getD_cons_succ]
          cases f with
          | zero => simp [wordsF] at hi
          | succ f =>
            by_cases ht : l.drop (fw l) = []
            · rw [ht, wordsF_nil] at hi; simp at hi
            · rw [wordsF_cons ht]
              simp only [List.getD_cons_zero]
              have ht1 : 1 ≤ (l.drop (fw l)).length := by rcases Nat.eq_zero_or_pos (l.drop (fw l)).length with e | e; exact absurd (List.length_eq_zero_iff.1 e) ht; exact e
              obtain ⟨k1, k2, k3, k4⟩ := fw_spec ht1
              cases e : lessL (l.take (fw l)) ((l.drop (fw l)).take (fw (l.drop (fw l)))) with
              | false => rfl
              | true =>
                have hL := lyn_append ((lynB_iff _).1 g3) ((lynB_iff _).1 k3) e
                rw [← List.take_add] at hL
                rw [List.length_drop] at k2
                have := g4 (fw l + fw (l.drop (fw l))) (by omega) (by omega)
                rw [(lynB_iff _).2 hL] at this
                simp at this

theorem words_alone {u : List UInt8} (h : lynB u = true) : words u = [u] := by
  have hL := (lynB_iff _).1 h
  have h1 : 1 ≤ u.length := by rcases Nat.eq_zero_or_pos u.length with e | e; exact absurd (List.length_eq_zero_iff.1 e) hL.1; exact e
  have hf := fw_eq h1 (Nat.le_refl _) (by rw [List.take_length]; exact h) (fun m hm1 hm2 => by omega)
  have hf' : fw u = u.length := by omega
  unfold words
  obtain ⟨n, hn⟩ : ∃ n, u.length = n + 1 := ⟨u.length - 1, by omega⟩
  rw [hn, wordsF_cons hL.1, hf', List.take_length, List.drop_length, wordsF_nil]
end Go.Proofs.Ytbcoaiaocfommaa
