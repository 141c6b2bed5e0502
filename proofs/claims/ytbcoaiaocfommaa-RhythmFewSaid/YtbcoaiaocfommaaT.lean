import Derived.Test.YtbcoaiaocfommaaS
namespace Go.Proofs.Ytbcoaiaocfommaa
open Go.RowKit

theorem local_min {l : List UInt8} {i q : Nat} (h1 : 1 ≤ l.length) (hq1 : 1 ≤ q) (h : repB l i q = true) : localP l i ≤ q := by
  obtain ⟨a1, a2, a3, a4⟩ := localP_spec i h1
  rcases Nat.lt_or_ge q (localP l i) with h2 | h2
  · have := a4 q hq1 h2
    rw [h] at this; simp at this
  · exact h2
theorem least_min {l : List UInt8} {q : Nat} (h1 : 1 ≤ l.length) (hq1 : 1 ≤ q) (h : perB l q = true) : leastP l ≤ q := by
  obtain ⟨a1, a2, a3, a4⟩ := leastP_spec h1
  rcases Nat.lt_or_ge q (leastP l) with h2 | h2
  · have := a4 q hq1 h2
    rw [h] at this; simp at this
  · exact h2

theorem per_drop {l : List UInt8} {a q : Nat} (h : perB l q = true) : perB (l.drop a) q = true := by
  rw [perB_iff] at h ⊢
  intro t ht
  rw [List.length_drop] at ht
  rw [List.getElem?_drop, List.getElem?_drop]
  have := h (a + t) (by omega)
  rw [this, show a + t + q = a + (t + q) from by omega]
theorem rep_drop {l : List UInt8} {a k q : Nat} (hk : k ≤ l.length) (ha : a ≤ k) (h : repB l k q = true) : repB (l.drop a) (k - a) q = true := by
  rw [repB_iff _ _ _ hk] at h
  rw [repB_iff _ _ _ (by rw [List.length_drop]; omega)]
  intro t h1 h2 h3
  rw [List.length_drop] at h3
  rw [List.getElem?_drop, List.getElem?_drop]
  have := h (a + t) (by omega) (by omega) (by omega)
  rw [this, show a + t + q = a + (t + q) from by omega]

theorem rev_get (l : List UInt8) (t : Nat) (h : t < l.length) : l.reverse[t]? = l[l.length - 1 - t]? := by
  rw [List.getElem?_reverse h]
theorem per_rev (l : List UInt8) (q : Nat) (h : perB l q = true) : perB l.reverse q = true := by
  rw [perB_iff] at h ⊢
  intro t ht
  rw [List.length_reverse] at ht
  rw [rev_get l t (by omega), rev_get l (t + q) ht]
  have := h (l.length - 1 - (t + q)) (by omega)
  rw [this]; congr 1; omega
theorem perB_rev (l : List UInt8) (q : Nat) : perB l.reverse q = perB l q := by
  rw [Bool.eq_iff_iff]
  exact ⟨fun h => by have := per_rev _ _ h; rwa [List.reverse_reverse] at this, per_rev l q⟩
theorem rep_rev (l : List UInt8) (i q : Nat) (hi : i ≤ l.length) (h : repB l i q = true) : repB l.reverse (l.length - i) q = true := by
  rw [repB_iff _ _ _ hi] at h
  rw [repB_iff _ _ _ (by rw [List.length_reverse]; omega)]
  intro t h1 h2 h3
  rw [List.length_reverse] at h3
  rw [rev_get l t (by omega), rev_get l (t + q) h3]
  have := h (l.length - 1 - (t + q)) (by omega) (by omega) (by omega)
  rw [this]; congr 1; omega
theorem repB_rev (l : List UInt8) (i q : Nat) (hi : i ≤ l.length) : repB l.reverse (l.length - i) q = repB l i q := by
  rw [Bool.eq_iff_iff]
  refine ⟨fun h => ?_, rep_rev l i q hi⟩
  have := rep_rev l.reverse (l.length - i) q (by rw [List.length_reverse]; omega) h
  rw [List.reverse_reverse, List.length_reverse, show l.length - (l.length - i) = i from by omega] at this
  exact this
theorem lst_congr (P Q : Nat → Bool) (h : ∀ q, P q = Q q) : ∀ f a, lst P a f = lst Q a f := by
  intro f
  induction f with
  | zero => intro a; rfl
  | succ f ih => intro a; unfold lst; rw [h a, ih]
theorem leastP_rev (l : List UInt8) : leastP l.reverse = leastP l := by
  unfold leastP; rw [List.length_reverse]; exact lst_congr _ _ (perB_rev l) _ _
theorem localP_rev (l : List UInt8) (i : Nat) (hi : i ≤ l.length) : localP l.reverse (l.length - i) = localP l i := by
  unfold localP; rw [List.length_reverse]; exact lst_congr _ _ (fun q => repB_rev l i q hi) _ _

/-- Each row of as many positions as the least period has a critical one. -/
theorem crit_row {l : List UInt8} {i : Nat} (hi : 1 ≤ i) (hil : i + leastP l ≤ l.length) : ∃ k, i ≤ k ∧ k < i + leastP l ∧ localP l k = leastP l := by
  have h1 : 1 ≤ l.length := by omega
  obtain ⟨p, hp⟩ : ∃ p, p = leastP l := ⟨_, rfl⟩
  obtain ⟨b1, b2, b3, b4⟩ := leastP_spec h1
  rw [← hp] at b1 b2 b3 b4 hil ⊢
  by_cases hp1 : p = 1
  · refine ⟨i, Nat.le_refl _, by omega, ?_⟩
    have a1 := (localP_spec (l := l) i h1).1
    have a2 := local_le (l := l) (i := i) h1 (by omega)
    omega
  · have hxl : (l.drop (i - 1)).length = l.length - (i - 1) := List.length_drop
    have hx1 : 1 ≤ (l.drop (i - 1)).length := by omega
    obtain ⟨c1, c2, c3, c4⟩ := leastP_spec hx1
    have hqp := least_min hx1 b1 (per_drop (a := i - 1) b3)
    by_cases hq : leastP (l.drop (i - 1)) = p
    · obtain ⟨j, hj1, hjp, hjl, hjc⟩ := crit_exists hx1 (by omega)
      rw [hq] at hjp hjc
      refine ⟨i - 1 + j, by omega, by omega, ?_⟩
      have hle := local_le (l := l) (i := i - 1 + j) h1 (by omega)
      obtain ⟨d1, d2, d3, d4⟩ := localP_spec (l := l) (i - 1 + j) h1
      have := rep_drop (a := i - 1) (k := i - 1 + j) (by omega) (by omega) d3
      rw [show i - 1 + j - (i - 1) = j from by omega] at this
      have := local_min hx1 d1 this
      omega
    · have hr1 : 1 ≤ l.reverse.length := by rw [List.length_reverse]; exact h1
      obtain ⟨j, hj1, hjp, hjl, hjc⟩ := crit_exists hr1 (by rw [leastP_rev]; omega)
      rw [leastP_rev, ← hp] at hjp hjc
      rw [List.length_reverse] at hjl
      have hk := localP_rev l (l.length - j) (by omega)
      rw [show l.length - (l.length - j) = j from by omega, hjc] at hk
      refine ⟨l.length - j, by omega, ?_, hk.symm⟩
      rcases Nat.lt_or_ge (l.length - j) (i + p) with h | h
      · exact h
      · exfalso
        have hrep : repB l (l.length - j) (leastP (l.drop (i - 1))) = true := by
          rw [repB_iff _ _ _ (by omega)]
          intro t h2 h3 h4
          have := (perB_iff _ _).1 c3 (t - (i - 1)) (by rw [hxl]; omega)
          rw [List.getElem?_drop, List.getElem?_drop, show i - 1 + (t - (i - 1)) = t from by omega, show i - 1 + (t - (i - 1) + leastP (l.drop (i - 1))) = t + leastP (l.drop (i - 1)) from by omega] at this
          exact this
        have := local_min h1 c1 hrep
        omega
end Go.Proofs.Ytbcoaiaocfommaa
