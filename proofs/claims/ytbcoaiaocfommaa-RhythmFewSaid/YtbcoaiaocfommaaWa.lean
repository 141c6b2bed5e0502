import Derived.Test.YtbcoaiaocfommaaTa
import Derived.Test.YtbcoaiaocfommaaR
namespace Go.Proofs.Ytbcoaiaocfommaa
open Go.RowKit

/-! ## there are few runs (Bannai and others): plain mathematics -/
def Ord (l o : List UInt8) : Prop := o = l ∨ o = inv l
theorem Ord.len {l o : List UInt8} (h : Ord l o) : o.length = l.length := by
  rcases h with rfl | rfl
  · rfl
  · exact inv_len l
theorem Ord.eq {l o : List UInt8} (h : Ord l o) {a b : Nat} (ha : a < l.length) (hb : b < l.length) : o[a]? = o[b]? ↔ l[a]? = l[b]? := by
  rcases h with rfl | rfl
  · exact Iff.rfl
  · exact inv_eq_iff l a b ha hb
theorem subL_inv (l : List UInt8) (i j : Nat) : subL (inv l) i j = inv (subL l i j) := by
  unfold subL inv
  rw [← List.map_drop, ← List.map_take]
theorem leastP_inv (l : List UInt8) : leastP (inv l) = leastP l := by
  unfold leastP
  rw [inv_len]
  exact lst_congr _ _ (fun q => perB_inv l q) _ _
theorem Ord.least {l o : List UInt8} (h : Ord l o) (i j : Nat) : leastP (subL o i j) = leastP (subL l i j) := by
  rcases h with rfl | rfl
  · rfl
  · rw [subL_inv, leastP_inv]

/-- A root of a run, in some order: a Lyndon word of its period. -/
structure Root (l o : List UInt8) (i j p a : Nat) : Prop where
  run : MaxRep l p i j
  pos : 1 ≤ p
  ord : Ord l o
  fall : j < l.length → ∃ x y, o[j]? = some x ∧ o[j - p]? = some y ∧ x < y
  lo : i < a
  hi : a + p ≤ j
  lyn : Lyn (subL o a (a + p))

theorem MaxRep.at {l : List UInt8} {p i j : Nat} (h : MaxRep l p i j) {t : Nat} (h1 : i ≤ t) (h2 : t + p < j) : l[t]? = l[t + p]? := (per_subL h.le).1 h.per t h1 h2
theorem MaxRep.same {l : List UInt8} {p i j i' j' a : Nat} (h : MaxRep l p i j) (h' : MaxRep l p i' j') (h1 : i < a) (h2 : a + p ≤ j) (h3 : i' < a) (h4 : a + p ≤ j') : i = i' ∧ j = j' := by
  have l1 := h.le
  have l2 := h'.le
  constructor
  · rcases Nat.lt_trichotomy i i' with e | e | e
    · exfalso
      rcases h'.left with z | z
      · omega
      · exact z (h.at (by omega) (by omega))
    · exact e
    · exfalso
      rcases h.left with z | z
      · omega
      · exact z (h'.at (by omega) (by omega))
  · rcases Nat.lt_trichotomy j j' with e | e | e
    · exfalso
      rcases h.right with z | z
      · omega
      · apply z
        have := h'.at (t := j - p) (by omega) (by omega)
        rwa [show j - p + p = j by omega] at this
    · exact e
    · exfalso
      rcases h'.right with z | z
      · omega
      · apply z
        have := h.at (t := j' - p) (by omega) (by omega)
        rwa [show j' - p + p = j' by omega] at this
/-- A root is the longest Lyndon word from its start, in its order. -/
theorem Root.longest {l o : List UInt8} {i j p a m : Nat} (h : Root l o i j p a) (hm : p < m) (hml : a + m ≤ l.length) : ¬ Lyn (subL o a (a + m)) := by
  intro hL
  have hlen : (subL o a (a + m)).length = m := by rw [subL_len _ _ _ (by rw [h.ord.len]; exact hml)]; omega
  have hp := h.pos
  have hjl := h.run.le
  have hlo := h.lo
  have hhi := h.hi
  obtain ⟨t, x, y, h1, h2, h3, h4, h5⟩ := hL.diff p hp (by rw [hlen]; exact hm)
  rw [hlen] at h1
  rw [subL_get, if_pos (by omega)] at h3 h4
  have hat : ∀ s, s < t → o[a + s]? = o[a + (p + s)]? := fun s hs => by
    have := h2 s hs
    rw [subL_get, subL_get, if_pos (by omega), if_pos (by omega)] at this
    exact this
  by_cases hc : a + p + t < j
  · have := (h.ord.eq (by omega) (by omega)).2 (h.run.at (t := a + t) (by omega) (by omega))
    rw [show a + t + p = a + (p + t) by omega, h3, h4] at this
    injection this with this
    rw [this] at h5
    exact absurd h5 (by simp)
  · obtain ⟨u, v, hu, hv, huv⟩ := h.fall (by omega)
    by_cases he : j - p - a < t
    · have := hat (j - p - a) he
      rw [show a + (j - p - a) = j - p by omega, show a + (p + (j - p - a)) = j by omega, hu, hv] at this
      injection this with this
      rw [this] at huv
      exact absurd huv (by simp)
    · rw [show a + t = j - p by omega, hv] at h3
      rw [show a + (p + t) = j by omega, hu] at h4
      injection h3 with h3
      injection h4 with h4
      subst h3; subst h4
      rw [UInt8.lt_iff_toNat_lt] at huv h5
      omega
/-- No place begins longer Lyndon words in both orders. -/
theorem not_both {l : List UInt8} {a m m' : Nat} (h1 : 2 ≤ m) (h2 : 2 ≤ m') (hm : a + m ≤ l.length) (hm' : a + m' ≤ l.length) (hL : Lyn (subL l a (a + m))) (hL' : Lyn (subL (inv l) a (a + m'))) : False := by
  have hlen : (subL l a (a + m)).length = m := by rw [subL_len _ _ _ hm]; omega
  have hlen' : (subL (inv l) a (a + m')).length = m' := by rw [subL_len _ _ _ (by rw [inv_len]; exact hm')]; omega
  obtain ⟨t, x, y, b1, b2, b3, b4, b5⟩ := hL.diff 1 (Nat.le_refl _) (by rw [hlen]; omega)
  obtain ⟨t', x', y', c1, c2, c3, c4, c5⟩ := hL'.diff 1 (Nat.le_refl _) (by rw [hlen']; omega)
  rw [hlen] at b1
  rw [hlen'] at c1
  rw [subL_get, if_pos (by omega)] at b3 b4 c3 c4
  have hb : ∀ s, s < t → l[a + s]? = l[a + (1 + s)]? := fun s hs => by
    have := b2 s hs
    rwa [subL_get, subL_get, if_pos (by omega), if_pos (by omega)] at this
  have hc : ∀ s, s < t' → l[a + s]? = l[a + (1 + s)]? := fun s hs => by
    have := c2 s hs
    rw [subL_get, subL_get, if_pos (by omega), if_pos (by omega)] at this
    exact (inv_eq_iff l _ _ (by omega) (by omega)).1 this
  rw [inv_get] at c3 c4
  rcases Nat.lt_trichotomy t t' with e | e | e
  · have := hc t e
    rw [b3, b4] at this
    injection this with this
    rw [this] at b5
    exact absurd b5 (by simp)
  · subst e
    rw [b3] at c3
    rw [b4] at c4
    simp only [Option.map_some, Option.some.injEq] at c3 c4
    subst c3; subst c4
    have := (inv_lt x y).1 c5
    rw [UInt8.lt_iff_toNat_lt] at this b5
    omega
  · have := hb t' e
    rw [this] at c3
    rw [c3] at c4
    injection c4 with c4
    rw [c4] at c5
    exact absurd c5 (by simp)
/-- A run of one letter has no root where a run of a longer period has one. -/
theorem one_two {l o o' : List UInt8} {i j i' j' p a : Nat} (h : Root l o i j 1 a) (h' : Root l o' i' j' p a) (hp : 2 ≤ p) : False := by
  have x1 := h.lo
  have x2 := h.hi
  have x3 := h'.lo
  have x4 := h'.hi
  have x5 := h.run.le
  have x6 := h'.run.le
  have e1 := h.run.at (t := a - 1) (by omega) (by omega)
  have e2 := h'.run.at (t := a - 1) (by omega) (by omega)
  rw [show a - 1 + 1 = a by omega] at e1
  have e3 : l[a]? = l[a + (p - 1)]? := by rw [← e1, e2]; congr 1; omega
  have hlen : (subL o' a (a + p)).length = p := by rw [subL_len _ _ _ (by rw [h'.ord.len]; omega)]; omega
  obtain ⟨t, x, y, b1, _, b3, b4, b5⟩ := h'.lyn.diff (p - 1) (by omega) (by rw [hlen]; omega)
  rw [hlen] at b1
  have ht : t = 0 := by omega
  subst ht
  rw [subL_get, if_pos (by omega)] at b3 b4
  rw [Nat.add_zero] at b3 b4
  have := (h'.ord.eq (by omega) (by omega)).2 e3
  rw [b3, b4] at this
  injection this with this
  rw [this] at b5
  exact absurd b5 (by simp)
/-- A place is the start of a root of one run alone. -/
theorem root_one {l o o' : List UInt8} {i j p i' j' p' a : Nat} (h : Root l o i j p a) (h' : Root l o' i' j' p' a) : (i, j, p) = (i', j', p') := by
  have q1 := h.pos
  have q2 := h'.pos
  have x1 := h.hi
  have x2 := h'.hi
  have x3 := h.run.le
  have x4 := h'.run.le
  have hpp : p = p' := by
    by_cases ho : o = o'
    · subst ho
      rcases Nat.lt_trichotomy p p' with e | e | e
      · exact absurd h'.lyn (h.longest e (by omega))
      · exact e
      · exact absurd h.lyn (h'.longest e (by omega))
    · by_cases e1 : p = 1
      · by_cases e2 : p' = 1
        · omega
        · subst e1; exact (one_two h h' (by omega)).elim
      · by_cases e2 : p' = 1
        · subst e2; exact (one_two h' h (by omega)).elim
        · exfalso
          rcases h.ord with e | e <;> rcases h'.ord with e' | e'
          · exact ho (by rw [e, e'])
          · have z1 := h.lyn; have z2 := h'.lyn
            rw [e] at z1; rw [e'] at z2
            exact not_both (by omega) (by omega) (by omega) (by omega) z1 z2
          · have z1 := h.lyn; have z2 := h'.lyn
            rw [e] at z1; rw [e'] at z2
            exact not_both (by omega) (by omega) (by omega) (by omega) z2 z1
          · exact ho (by rw [e, e'])
  subst hpp
  obtain ⟨rfl, rfl⟩ := h.run.same h'.run h.lo h.hi h'.lo h'.hi
  rfl
end Go.Proofs.Ytbcoaiaocfommaa
