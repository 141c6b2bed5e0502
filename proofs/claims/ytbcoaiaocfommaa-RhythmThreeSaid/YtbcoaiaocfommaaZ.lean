import Derived.Test.YtbcoaiaocfommaaY
namespace Go.Proofs.Ytbcoaiaocfommaa
open Go.RowKit

/-! ## three gaps -/
theorem pt_lt {s n i : Nat} (hn : 1 ≤ n) : pt s n i < n := by unfold pt; exact Nat.mod_lt _ (by omega)
theorem pt_add (s n : Nat) (hn : 1 ≤ n) (i d : Nat) : (pt s n i + pt s n d < n ∧ pt s n (i + d) = pt s n i + pt s n d) ∨ (n ≤ pt s n i + pt s n d ∧ pt s n (i + d) + n = pt s n i + pt s n d) := by
  have h1 := pt_lt (s := s) (i := i) hn
  have h2 := pt_lt (s := s) (i := d) hn
  have e : pt s n (i + d) = (pt s n i + pt s n d) % n := by unfold pt; rw [Nat.add_mul, Nat.add_mod]
  by_cases h : pt s n i + pt s n d < n
  · left; exact ⟨h, by rw [e, Nat.mod_eq_of_lt h]⟩
  · right
    refine ⟨by omega, ?_⟩
    rw [e, Nat.mod_eq_sub_mod (by omega), Nat.mod_eq_of_lt (by omega)]; omega
theorem pt_inj {s n c : Nat} (h : (pts s n c).Nodup) : ∀ i j, i < c → j < c → pt s n i = pt s n j → i = j := by
  have key : ∀ i j, i < j → j < c → ¬ pt s n i = pt s n j := by
    intro i j hij hj e
    rw [List.nodup_iff_pairwise_ne, List.pairwise_iff_getElem] at h
    have := h i j (by rw [pts_len]; omega) (by rw [pts_len]; omega) hij
    apply this
    have a1 := pts_get s n c i (by omega)
    have a2 := pts_get s n c j hj
    rw [List.getD_eq_getElem?_getD, List.getElem?_eq_getElem (by rw [pts_len]; omega), Option.getD_some] at a1 a2
    rw [a1, a2, e]
  intro i j hi hj e
  rcases Nat.lt_trichotomy i j with h1 | h1 | h1
  · exact absurd e (key i j h1 hj)
  · exact h1
  · exact absurd e.symm (key j i h1 hi)
theorem least_of (f : Nat → Nat) : ∀ m, ∃ u, 1 ≤ u ∧ u < m + 2 ∧ ∀ d, 1 ≤ d → d < m + 2 → f u ≤ f d := by
  intro m
  induction m with
  | zero => exact ⟨1, by omega, by omega, fun d h1 h2 => by rw [show d = 1 from by omega]; exact Nat.le_refl _⟩
  | succ m ih =>
    obtain ⟨u, h1, h2, h3⟩ := ih
    by_cases h : f u ≤ f (m + 2)
    · refine ⟨u, h1, by omega, fun d e1 e2 => ?_⟩
      by_cases e : d = m + 2
      · rw [e]; exact h
      · exact h3 d e1 (by omega)
    · refine ⟨m + 2, by omega, by omega, fun d e1 e2 => ?_⟩
      by_cases e : d = m + 2
      · rw [e]; exact Nat.le_refl _
      · have := h3 d e1 (by omega); omega
theorem greatest_of (f : Nat → Nat) : ∀ m, ∃ u, 1 ≤ u ∧ u < m + 2 ∧ ∀ d, 1 ≤ d → d < m + 2 → f d ≤ f u := by
  intro m
  induction m with
  | zero => exact ⟨1, by omega, by omega, fun d h1 h2 => by rw [show d = 1 from by omega]; exact Nat.le_refl _⟩
  | succ m ih =>
    obtain ⟨u, h1, h2, h3⟩ := ih
    by_cases h : f (m + 2) ≤ f u
    · refine ⟨u, h1, by omega, fun d e1 e2 => ?_⟩
      by_cases e : d = m + 2
      · rw [e]; exact h
      · exact h3 d e1 (by omega)
    · refine ⟨m + 2, by omega, by omega, fun d e1 e2 => ?_⟩
      by_cases e : d = m + 2
      · rw [e]; exact Nat.le_refl _
      · have := h3 d e1 (by omega); omega

/-- The next point behind point i stands a, b or a + b away. -/
theorem gap_of {s n c u v a b : Nat} (hn : 1 ≤ n) (hinj : ∀ i j, i < c → j < c → pt s n i = pt s n j → i = j)
    (hu1 : 1 ≤ u) (hu2 : u < c) (hv1 : 1 ≤ v) (hv2 : v < c) (hmin : ∀ d, 1 ≤ d → d < c → a ≤ pt s n d) (hmax : ∀ d, 1 ≤ d → d < c → pt s n d + b ≤ n)
    (ha : pt s n u = a) (hb : pt s n v + b = n) (ha1 : 0 < a) (hb1 : 0 < b)
    (i y : Nat) (hi : i < c) (hy1 : pt s n i < y) (hy2 : y ≤ n) (hnext : ∀ j, j < c → pt s n i < pt s n j → y ≤ pt s n j)
    (hy : y = n ∨ ∃ j, j < c ∧ y = pt s n j) : y = pt s n i + a ∨ y = pt s n i + b ∨ y = pt s n i + (a + b) := by
  have hlt : ∀ d, pt s n d < n := fun d => pt_lt hn
  have huv : c ≤ u + v := by
    rcases Nat.lt_or_ge (u + v) c with h | h
    · exfalso
      have h1 := hmin (u + v) (by omega) h
      have h2 := hmax (u + v) (by omega) h
      have h3 := pt_add s n hn u v
      omega
    · exact h
  -- a point j in front of i
  have fwd : ∀ j, i < j → j < c → pt s n i < pt s n j → pt s n j = pt s n i + pt s n (j - i) := by
    intro j h1 h2 h3
    have h := pt_add s n hn i (j - i)
    rw [show i + (j - i) = j from by omega] at h
    have := hlt (j - i)
    omega
  have bwd : ∀ j, j < i → pt s n i < pt s n j → pt s n j + pt s n (i - j) = pt s n i + n := by
    intro j h1 h3
    have h := pt_add s n hn j (i - j)
    rw [show j + (i - j) = i from by omega] at h
    omega
  -- small steps forward, u not there
  have nofwd : ∀ d, 1 ≤ d → d < u → a + b ≤ pt s n d := by
    intro d h1 h2
    have h := pt_add s n hn d (u - d)
    rw [show d + (u - d) = u from by omega] at h
    have e1 := hmin d h1 (by omega)
    have e2 := hmin (u - d) (by omega) (by omega)
    have e3 := hmax (u - d) (by omega) (by omega)
    omega
  have nobwd : ∀ e, 1 ≤ e → e < v → pt s n e + (a + b) ≤ n := by
    intro e h1 h2
    have h := pt_add s n hn e (v - e)
    rw [show e + (v - e) = v from by omega] at h
    have e1 := hmax e h1 (by omega)
    have e2 := hmin (v - e) (by omega) (by omega)
    have e3 := hlt (v - e)
    omega
  by_cases c1 : i + u < c
  · left
    have h := pt_add s n hn i u
    have e1 := hmin (i + u) (by omega) c1
    have hup := hnext (i + u) c1
    have e2 := hlt (i + u)
    have e3 := hlt i
    have hup' : y ≤ pt s n i + a := by omega
    rcases hy with hy | ⟨j, hj, hy⟩
    · omega
    · rcases Nat.lt_trichotomy i j with h1 | h1 | h1
      · have f := fwd j h1 hj (by omega)
        have f2 := hmin (j - i) (by omega) (by omega)
        omega
      · subst h1; omega
      · have f := bwd j h1 (by omega)
        have f2 := nobwd (i - j) (by omega) (by omega)
        omega
  · by_cases c2 : v ≤ i
    · right; left
      have h := pt_add s n hn (i - v) v
      rw [show i - v + v = i from by omega] at h
      have e1 := hmax i (by omega) hi
      have hup := hnext (i - v) (by omega)
      have e3 := hlt i
      have hup' : y ≤ pt s n i + b := by omega
      rcases hy with hy | ⟨j, hj, hy⟩
      · omega
      · rcases Nat.lt_trichotomy i j with h1 | h1 | h1
        · have f := fwd j h1 hj (by omega)
          have f2 := nofwd (j - i) (by omega) (by omega)
          omega
        · subst h1; omega
        · have f := bwd j h1 (by omega)
          have f2 := hmax (i - j) (by omega) (by omega)
          omega
    · right; right
      have e1 := hmax i (by omega) hi
      have hm := pt_add s n hn (i + u - v) v
      rw [show i + u - v + v = i + u from by omega] at hm
      have hiu := pt_add s n hn i u
      have hup := hnext (i + u - v) (by omega)
      have e3 := hlt i
      have e4 := hlt (i + u - v)
      have e5 := hlt (i + u)
      have e6 := hlt u
      have hz : pt s n 0 = 0 := by unfold pt; simp
      have hup' : y ≤ pt s n i + (a + b) ∧ pt s n i + (a + b) ≤ n := by
        by_cases hc : pt s n (i + u - v) = pt s n i + (a + b)
        · omega
        · have hx : pt s n (i + u - v) + n = pt s n i + (a + b) := by omega
          by_cases hm0 : i + u - v = 0
          · rw [hm0, hz] at hx; omega
          · have g := hmin (i + u - v) (by omega) (by omega)
            have g2 : pt s n (i + u - v) = pt s n u := by omega
            have := hinj _ _ (by omega) hu2 g2
            omega
      obtain ⟨hu', hn'⟩ := hup'
      rcases hy with hy | ⟨j, hj, hy⟩
      · omega
      · rcases Nat.lt_trichotomy i j with h1 | h1 | h1
        · have f := fwd j h1 hj (by omega)
          have f2 := nofwd (j - i) (by omega) (by omega)
          omega
        · subst h1; omega
        · have f := bwd j h1 (by omega)
          have f2 := nobwd (i - j) (by omega) (by omega)
          omega

theorem three_gap {s n c : Nat} (hn : 1 ≤ n) (hc : 1 ≤ c) (hz : zeroB (circle s n c) c = false) :
    ∃ a b : Int, 0 < a ∧ 0 < b ∧ a ≤ n ∧ b ≤ n ∧ ∀ x ∈ diffs (circle s n c) c, x = a ∨ x = b ∨ x = a + b := by
  have hnd := (zero_nodup hn).1 hz
  have hinj := pt_inj hnd
  have hst := circle_strict (s := s) hn hz
  have hz0 : pt s n 0 = 0 := by unfold pt; simp
  by_cases hc1 : c = 1
  · subst hc1
    refine ⟨n, 1, by omega, by omega, by omega, by omega, fun x hx => .inl ?_⟩
    unfold diffs at hx
    rw [List.mem_map] at hx
    obtain ⟨i, hi, rfl⟩ := hx
    rw [List.mem_range] at hi
    rw [show i = 0 from by omega, circle_last, circle_first hn (by omega)]; omega
  · obtain ⟨m, rfl⟩ : ∃ m, c = m + 2 := ⟨c - 2, by omega⟩
    obtain ⟨u, hu1, hu2, hu3⟩ := least_of (pt s n) m
    obtain ⟨v, hv1, hv2, hv3⟩ := greatest_of (pt s n) m
    have hvn := pt_lt (s := s) (i := v) hn
    have hupos : 0 < pt s n u := by
      rcases Nat.eq_zero_or_pos (pt s n u) with h | h
      · have := hinj u 0 hu2 (by omega) (by rw [h, hz0]); omega
      · exact h
    refine ⟨(pt s n u : Nat), ((n - pt s n v : Nat) : Int), by omega, by omega, by have := pt_lt (s := s) (i := u) hn; omega, by omega, fun x hx => ?_⟩
    unfold diffs at hx
    rw [List.mem_map] at hx
    obtain ⟨k, hk, rfl⟩ := hx
    rw [List.mem_range] at hk
    obtain ⟨i, hi⟩ : ∃ i, i < m + 2 ∧ (circle s n (m + 2)).getD k 0 = ((pt s n i : Nat) : Int) := by
      have := (pts_circle (s := s) (n := n) (c := m + 2) _).2 ⟨k, hk, rfl⟩
      unfold pts at this
      rw [List.mem_map] at this
      obtain ⟨i, h1, h2⟩ := this
      exact ⟨i, List.mem_range.1 h1, h2.symm⟩
    obtain ⟨hi, hP⟩ := hi
    have hbd := circle_bd s n (m + 2) hn (k + 1) (by omega)
    obtain ⟨y, hyy⟩ : ∃ y : Nat, (circle s n (m + 2)).getD (k + 1) 0 = (y : Int) := ⟨((circle s n (m + 2)).getD (k + 1) 0).toNat, by omega⟩
    have hs1 := hst k hk
    have := gap_of (u := u) (v := v) (a := pt s n u) (b := n - pt s n v) hn hinj hu1 hu2 hv1 hv2 hu3 (fun d h1 h2 => by have := hv3 d h1 h2; omega) rfl (by omega) hupos (by omega) i y hi (by omega) (by omega) (fun j hj hlt => by
        obtain ⟨t, ht, he⟩ := (pts_circle (s := s) (n := n) (c := m + 2) ((pt s n j : Nat) : Int)).1 (by
          unfold pts; rw [List.mem_map]; exact ⟨j, List.mem_range.2 hj, rfl⟩)
        rcases Nat.lt_trichotomy t (k + 1) with h | h | h
        · exfalso
          by_cases e : t = k
          · subst e; omega
          · have := strict_lt hst (k - t - 1) t (by omega)
            rw [show t + (k - t - 1) + 1 = k from by omega] at this
            omega
        · subst h; omega
        · have := strict_lt hst (t - (k + 1) - 1) (k + 1) (by omega)
          rw [show k + 1 + (t - (k + 1) - 1) + 1 = t from by omega] at this
          omega) (by
        by_cases e : k + 1 = m + 2
        · left; rw [e, circle_last] at hyy; omega
        · right
          have := (pts_circle (s := s) (n := n) (c := m + 2) _).2 ⟨k + 1, by omega, rfl⟩
          unfold pts at this
          rw [List.mem_map] at this
          obtain ⟨j, h1, h2⟩ := this
          exact ⟨j, List.mem_range.1 h1, by omega⟩)
    rw [hyy, hP]
    omega
end Go.Proofs.Ytbcoaiaocfommaa
