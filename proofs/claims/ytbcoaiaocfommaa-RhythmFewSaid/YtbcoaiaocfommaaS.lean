import Derived.Test.YtbcoaiaocfommaaR
namespace Go.Proofs.Ytbcoaiaocfommaa
open Go.RowKit

/-! ## critical positions: plain mathematics -/
theorem perB_iff (l : List UInt8) (p : Nat) : perB l p = true ↔ ∀ t, t + p < l.length → l[t]? = l[t + p]? := by
  unfold perB
  rw [beq_iff_eq]
  constructor
  · intro h t ht
    have := congrArg (fun x => x[t]?) h
    simp only [List.getElem?_drop, List.getElem?_take] at this
    rw [if_pos (by omega), Nat.add_comm p t] at this
    exact this.symm
  · intro h
    apply List.ext_getElem?
    intro t
    rw [List.getElem?_drop, List.getElem?_take]
    by_cases ht : t < l.length - p
    · rw [if_pos ht, Nat.add_comm p t]; exact (h t (by omega)).symm
    · rw [if_neg ht, List.getElem?_eq_none (by omega)]

theorem getD_eq_iff (l : List UInt8) (a b : Nat) (ha : a < l.length) (hb : b < l.length) : l.getD a 0 = l.getD b 0 ↔ l[a]? = l[b]? := by
  rw [List.getD_eq_getElem?_getD, List.getD_eq_getElem?_getD, List.getElem?_eq_getElem ha, List.getElem?_eq_getElem hb]; simp
theorem repB_iff (l : List UInt8) (i q : Nat) (hi : i ≤ l.length) : repB l i q = true ↔ ∀ t, i - q ≤ t → t < i → t + q < l.length → l[t]? = l[t + q]? := by
  unfold repB
  rw [decide_eq_true_iff]
  constructor
  · intro h t h1 h2 h3
    exact (getD_eq_iff l t (t + q) (by omega) h3).1 (h t (by omega) h1)
  · intro h t h1 h2
    exact (getD_eq_iff l t (t + q) (by omega) (by omega)).2 (h t h2 (by omega) (by omega))
theorem rep_of_per {l : List UInt8} {i q : Nat} (hi : i ≤ l.length) (h : perB l q = true) : repB l i q = true := by
  rw [repB_iff l i q hi]; exact fun t _ _ h3 => (perB_iff l q).1 h t h3

/-- No local period is greater than the least period. -/
theorem local_le {l : List UInt8} {i : Nat} (h1 : 1 ≤ l.length) (hi : i ≤ l.length) : localP l i ≤ leastP l := by
  obtain ⟨a1, a2, a3, a4⟩ := localP_spec i h1
  obtain ⟨b1, b2, b3, b4⟩ := leastP_spec h1
  rcases Nat.lt_or_ge (leastP l) (localP l i) with h | h
  · have := a4 (leastP l) b1 h
    rw [rep_of_per hi b3] at this; simp at this
  · exact h

theorem lessL_strip : ∀ (x a b : List UInt8), lessL (x ++ a) (x ++ b) = lessL a b := by
  intro x
  induction x with
  | nil => intro a b; rfl
  | cons c x ih =>
    intro a b
    have hd : lessL ((c :: x) ++ a) ((c :: x) ++ b) = (decide (c < c) || (c == c && lessL (x ++ a) (x ++ b))) := rfl
    rw [hd, ih]; simp

/-- Letters in the other order. -/
def inv (l : List UInt8) : List UInt8 := l.map fun c => 255 - c
theorem inv_nat (a : UInt8) : (255 - a).toNat = 255 - a.toNat := by
  have h := a.toNat_lt
  have hle : a ≤ 255 := by
    rw [UInt8.le_iff_toNat_le]
    show a.toNat ≤ 255
    omega
  rw [UInt8.toNat_sub_of_le _ _ hle]; rfl
theorem sub_lt_sub (x y : Nat) (hx : x ≤ 255) : 255 - x < 255 - y ↔ y < x := by omega
theorem nat_le (a : UInt8) : a.toNat ≤ 255 := Nat.le_of_lt_succ a.toNat_lt
theorem inv_lt (a b : UInt8) : (255 - a < 255 - b) ↔ b < a := by
  have h1 : (255 - a < 255 - b) ↔ (255 - a).toNat < (255 - b).toNat := UInt8.lt_iff_toNat_lt
  have h2 : (b < a) ↔ b.toNat < a.toNat := UInt8.lt_iff_toNat_lt
  refine h1.trans (Iff.trans ?_ h2.symm)
  have e1 := inv_nat a
  have e2 := inv_nat b
  have e3 := nat_le a
  generalize (255 - a).toNat = x at *
  generalize (255 - b).toNat = y at *
  subst e1 e2
  exact sub_lt_sub _ _ e3
theorem inv_inj (a b : UInt8) (h : 255 - a = 255 - b) : a = b := by
  rcases Nat.lt_trichotomy a.toNat b.toNat with h1 | h1 | h1
  · have := (inv_lt b a).2 (UInt8.lt_iff_toNat_lt.2 h1)
    rw [h] at this; exact absurd this (UInt8.lt_irrefl _)
  · exact UInt8.toNat_inj.1 h1
  · have := (inv_lt a b).2 (UInt8.lt_iff_toNat_lt.2 h1)
    rw [h] at this; exact absurd this (UInt8.lt_irrefl _)
theorem inv_inv (l : List UInt8) : inv (inv l) = l := by
  unfold inv
  rw [List.map_map]
  conv => rhs; rw [← List.map_id l]
  apply List.map_congr_left
  intro c _
  show 255 - (255 - c) = c
  apply UInt8.toNat_inj.1
  rw [inv_nat, inv_nat]
  have := nat_le c
  omega
theorem inv_len (l : List UInt8) : (inv l).length = l.length := by unfold inv; simp
theorem inv_get (l : List UInt8) (t : Nat) : (inv l)[t]? = (l[t]?).map fun c => 255 - c := by unfold inv; rw [List.getElem?_map]
theorem inv_drop (l : List UInt8) (k : Nat) : inv (l.drop k) = (inv l).drop k := by unfold inv; rw [List.map_drop]
theorem inv_append (a b : List UInt8) : inv (a ++ b) = inv a ++ inv b := by unfold inv; rw [List.map_append]
theorem inv_eq_iff (l : List UInt8) (a b : Nat) (ha : a < l.length) (hb : b < l.length) : (inv l)[a]? = (inv l)[b]? ↔ l[a]? = l[b]? := by
  rw [inv_get, inv_get, List.getElem?_eq_getElem ha, List.getElem?_eq_getElem hb]
  simp only [Option.map_some, Option.some.injEq]
  exact ⟨fun h => inv_inj _ _ h, fun h => by rw [h]⟩

/-- Less or equal in both orders, and shorter: a beginning. -/
theorem both_prefix {P Q : List UInt8} (h1 : lessL Q P = false) (h2 : lessL (inv Q) (inv P) = false) : ∀ t, t < P.length → t < Q.length → P[t]? = Q[t]? := by
  intro t
  induction t using Nat.strongRecOn with
  | _ t ih =>
    intro hp hq
    have ihe : ∀ j, j < t → P[j]? = Q[j]? := fun j hj => ih j hj (by omega) (by omega)
    rw [List.getElem?_eq_getElem hp, List.getElem?_eq_getElem hq]
    rcases Nat.lt_trichotomy P[t].toNat Q[t].toNat with h | h | h
    · exfalso
      have : lessL (inv Q) (inv P) = true := by
        rw [lessL_iff]
        refine ⟨t, fun j hj => by rw [inv_get, inv_get, ihe j hj], .inl ⟨255 - Q[t], 255 - P[t], ?_, ?_, (inv_lt _ _).2 (UInt8.lt_iff_toNat_lt.2 h)⟩⟩
        · rw [inv_get, List.getElem?_eq_getElem hq]; rfl
        · rw [inv_get, List.getElem?_eq_getElem hp]; rfl
      rw [h2] at this; simp at this
    · rw [UInt8.toNat_inj.1 h]
    · exfalso
      have : lessL Q P = true := by
        rw [lessL_iff]
        exact ⟨t, fun j hj => (ihe j hj).symm, .inl ⟨Q[t], P[t], List.getElem?_eq_getElem hq, List.getElem?_eq_getElem hp, UInt8.lt_iff_toNat_lt.2 h⟩⟩
      rw [h1] at this; simp at this

/-- The greatest ending. -/
def MaxSuf (l : List UInt8) (j : Nat) : Prop := j < l.length ∧ ∀ t, t < l.length → lessL (l.drop j) (l.drop t) = false
theorem maxSuf_exists (l : List UInt8) (h : 1 ≤ l.length) : ∃ j, MaxSuf l j := by
  have key : ∀ k, 1 ≤ k → ∃ j, j < k ∧ ∀ t, t < k → lessL (l.drop j) (l.drop t) = false := by
    intro k
    induction k with
    | zero => intro h; omega
    | succ k ih =>
      intro _
      by_cases hk : k = 0
      · subst hk
        exact ⟨0, by omega, fun t ht => by rw [show t = 0 from by omega]; exact lessL_irrefl _⟩
      · obtain ⟨j, hj, hm⟩ := ih (by omega)
        cases e : lessL (l.drop j) (l.drop k) with
        | false => exact ⟨j, by omega, fun t ht => by
            by_cases etk : t = k
            · rw [etk]; exact e
            · exact hm t (by omega)⟩
        | true => exact ⟨k, by omega, fun t ht => by
            by_cases etk : t = k
            · rw [etk]; exact lessL_irrefl _
            · cases e2 : lessL (l.drop k) (l.drop t) with
              | false => rfl
              | true => have := lessL_trans e e2; rw [hm t (by omega)] at this; simp at this⟩
  obtain ⟨j, hj, hm⟩ := key l.length h
  exact ⟨j, hj, hm⟩

/-- A beginning of a longer list is less. -/
theorem less_of_prefix {a b : List UInt8} (hlen : a.length < b.length) (h : ∀ t, t < a.length → a[t]? = b[t]?) : lessL a b = true := by
  rw [lessL_iff]
  exact ⟨a.length, h, .inr ⟨List.getElem?_eq_none (Nat.le_refl _), b[a.length], List.getElem?_eq_getElem hlen⟩⟩

/-- The greatest ending begins before the least period. -/
theorem MaxSuf.lt {l : List UInt8} {j p : Nat} (h : MaxSuf l j) (hp : 1 ≤ p) (hper : perB l p = true) : j < p := by
  rcases Nat.lt_or_ge j p with h1 | h1
  · exact h1
  · exfalso
    have := h.2 (j - p) (by have := h.1; omega)
    have hless : lessL (l.drop j) (l.drop (j - p)) = true := by
      apply less_of_prefix
      · have := h.1; rw [List.length_drop, List.length_drop]; omega
      · intro t ht
        rw [List.length_drop] at ht
        rw [List.getElem?_drop, List.getElem?_drop]
        have := (perB_iff l p).1 hper (j - p + t) (by omega)
        rw [this]; congr 1; omega
    rw [hless] at this; simp at this

/-- What the critical position needs of the two greatest endings, the later one at `j`. -/
theorem crit_core {l : List UInt8} {j j' r : Nat} (h : MaxSuf l j) (h' : MaxSuf (inv l) j') (hjj : j' ≤ j) (hr : 1 ≤ r) (hj1 : 1 ≤ j) (hrep : repB l j r = true) : perB l r = true := by
  have hjl := h.1
  rw [repB_iff l j r (by omega)] at hrep
  by_cases hov : r ≤ j
  · exfalso
    -- the ending at j - r is greater
    have hm := h.2 (j - r) (by omega)
    by_cases hro : l.length ≤ j + r
    · have hless : lessL (l.drop j) (l.drop (j - r)) = true := by
        apply less_of_prefix
        · rw [List.length_drop, List.length_drop]; omega
        · intro t ht
          rw [List.length_drop] at ht
          rw [List.getElem?_drop, List.getElem?_drop]
          have := hrep (j - r + t) (by omega) (by omega) (by omega)
          rw [this]; congr 1; omega
      rw [hless] at hm; simp at hm
    · -- X = l[j - r .. j) = l[j .. j + r)
      have hX : (l.drop (j - r)).take r = (l.drop j).take r := by
        apply List.ext_getElem?
        intro t
        rw [List.getElem?_take, List.getElem?_take]
        by_cases ht : t < r
        · rw [if_pos ht, if_pos ht, List.getElem?_drop, List.getElem?_drop]
          have := hrep (j - r + t) (by omega) (by omega) (by omega)
          rw [this]; congr 1; omega
        · rw [if_neg ht, if_neg ht]
      have e1 : l.drop (j - r) = (l.drop j).take r ++ l.drop j := by
        conv => lhs; rw [← List.take_append_drop r (l.drop (j - r)), hX, List.drop_drop]
        rw [show j - r + r = j from by omega]
      have e2 : l.drop j = (l.drop j).take r ++ l.drop (j + r) := by
        conv => lhs; rw [← List.take_append_drop r (l.drop j), List.drop_drop]
      rw [e1] at hm
      have hm2 : lessL ((l.drop j).take r ++ l.drop (j + r)) ((l.drop j).take r ++ l.drop j) = false := by rw [← e2]; exact hm
      rw [lessL_strip] at hm2
      have hm3 := h.2 (j + r) (by omega)
      have heq := not_less_antisymm hm2 hm3
      have := congrArg List.length heq
      rw [List.length_drop, List.length_drop] at this
      omega
  · -- the word before j stands again at r
    rw [perB_iff]
    by_cases hro : l.length ≤ j + r
    · intro t ht
      exact hrep t (by omega) (by omega) ht
    · have hpre : ∀ t, t + r < l.length → j ≤ t → l[t]? = l[t + r]? := by
        -- X = l[j' .. j) = l[j' + r .. j + r)
        have hm' := h'.2 (j' + r) (by rw [inv_len]; omega)
        have hX : (l.drop (j' + r)).take (j - j') = (l.drop j').take (j - j') := by
          apply List.ext_getElem?
          intro t
          rw [List.getElem?_take, List.getElem?_take]
          by_cases ht : t < j - j'
          · rw [if_pos ht, if_pos ht, List.getElem?_drop, List.getElem?_drop]
            have := hrep (j' + t) (by omega) (by omega) (by omega)
            rw [this]; congr 1; omega
          · rw [if_neg ht, if_neg ht]
        have e1 : l.drop (j' + r) = (l.drop j').take (j - j') ++ l.drop (j + r) := by
          conv => lhs; rw [← List.take_append_drop (j - j') (l.drop (j' + r)), hX, List.drop_drop]
          rw [show j' + r + (j - j') = j + r from by omega]
        have e2 : l.drop j' = (l.drop j').take (j - j') ++ l.drop j := by
          conv => lhs; rw [← List.take_append_drop (j - j') (l.drop j'), List.drop_drop]
          rw [show j' + (j - j') = j from by omega]
        rw [← inv_drop, ← inv_drop, e1] at hm'
        have hm2 : lessL (inv ((l.drop j').take (j - j') ++ l.drop j)) (inv ((l.drop j').take (j - j') ++ l.drop (j + r))) = false := by rw [← e2]; exact hm'
        rw [inv_append, inv_append, lessL_strip] at hm2
        have hm3 := h.2 (j + r) (by omega)
        intro t ht hjt
        have := both_prefix hm3 hm2 (t - j) (by rw [List.length_drop]; omega) (by rw [List.length_drop]; omega)
        rw [List.getElem?_drop, List.getElem?_drop] at this
        rw [show j + r + (t - j) = t + r from by omega, show j + (t - j) = t from by omega] at this
        exact this.symm
      intro t ht
      by_cases htj : t < j
      · exact hrep t (by omega) htj ht
      · exact hpre t ht (by omega)

theorem perB_inv (l : List UInt8) (p : Nat) : perB (inv l) p = perB l p := by
  rw [Bool.eq_iff_iff, perB_iff, perB_iff, inv_len]
  exact ⟨fun h t ht => (inv_eq_iff l t (t + p) (by omega) ht).1 (h t ht), fun h t ht => (inv_eq_iff l t (t + p) (by omega) ht).2 (h t ht)⟩
theorem repB_inv (l : List UInt8) (i p : Nat) (hi : i ≤ l.length) : repB (inv l) i p = repB l i p := by
  rw [Bool.eq_iff_iff, repB_iff _ _ _ (by rw [inv_len]; exact hi), repB_iff _ _ _ hi, inv_len]
  exact ⟨fun h t h1 h2 ht => (inv_eq_iff l t (t + p) (by omega) ht).1 (h t h1 h2 ht), fun h t h1 h2 ht => (inv_eq_iff l t (t + p) (by omega) ht).2 (h t h1 h2 ht)⟩

/-- A word whose least period is 2 or more has a critical position before it. -/
theorem crit_exists {l : List UInt8} (h1 : 1 ≤ l.length) (hp : 2 ≤ leastP l) : ∃ j, 1 ≤ j ∧ j < leastP l ∧ j < l.length ∧ localP l j = leastP l := by
  obtain ⟨b1, b2, b3, b4⟩ := leastP_spec h1
  obtain ⟨u, hu⟩ := maxSuf_exists l h1
  obtain ⟨v, hv⟩ := maxSuf_exists (inv l) (by rw [inv_len]; exact h1)
  have hup := hu.lt b1 b3
  have hvp := hv.lt b1 (by rw [perB_inv]; exact b3)
  have hvl := hv.1
  rw [inv_len] at hvl
  have hul := hu.1
  -- they differ
  have hne : u ≠ v := by
    intro e
    subst e
    have hall : ∀ t, t < l.length → l[t]? = l[u]? := by
      intro t ht
      have a1 := hu.2 t ht
      have a2 := hv.2 t (by rw [inv_len]; exact ht)
      rw [← inv_drop, ← inv_drop] at a2
      have := both_prefix a1 a2 0 (by rw [List.length_drop]; omega) (by rw [List.length_drop]; omega)
      rw [List.getElem?_drop, List.getElem?_drop, Nat.add_zero, Nat.add_zero] at this
      exact this
    have : perB l 1 = true := by
      rw [perB_iff]; intro t ht; rw [hall t (by omega), hall (t + 1) (by omega)]
    rw [b4 1 (by omega) (by omega)] at this; simp at this
  rcases Nat.lt_or_ge v u with hlt | hge
  · refine ⟨u, by omega, hup, hul, ?_⟩
    obtain ⟨a1, a2, a3, a4⟩ := localP_spec u h1
    have := crit_core hu hv (by omega) a1 (by omega) a3
    have hle := local_le (i := u) h1 (by omega)
    rcases Nat.lt_or_ge (localP l u) (leastP l) with h | h
    · rw [b4 _ a1 h] at this; simp at this
    · omega
  · refine ⟨v, by omega, hvp, hvl, ?_⟩
    obtain ⟨a1, a2, a3, a4⟩ := localP_spec v h1
    have hu' : MaxSuf (inv (inv l)) u := by rw [inv_inv]; exact hu
    have := crit_core hv hu' (by omega) a1 (by omega) (by rw [repB_inv _ _ _ (by omega)]; exact a3)
    rw [perB_inv] at this
    have hle := local_le (i := v) h1 (by omega)
    rcases Nat.lt_or_ge (localP l v) (leastP l) with h | h
    · rw [b4 _ a1 h] at this; simp at this
    · omega
end Go.Proofs.Ytbcoaiaocfommaa
