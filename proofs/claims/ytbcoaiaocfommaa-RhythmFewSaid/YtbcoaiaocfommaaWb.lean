import Derived.Test.YtbcoaiaocfommaaWa
namespace Go.Proofs.Ytbcoaiaocfommaa
open Go.RowKit

/-! ## each run has its roots -/
/-- A least rotation that is no other rotation of itself is a Lyndon word. -/
theorem lyn_of_least {y : List UInt8} (h1 : 1 ≤ y.length) (hl : LeastRot y) (hp : ∀ i, 1 ≤ i → i < y.length → rotL y i ≠ y) : Lyn y := by
  refine ⟨fun e => by rw [e] at h1; simp at h1, fun i hi1 hi2 => ?_⟩
  have hlt : lessL y (rotL y i) = true := by
    rcases lessL_total y (rotL y i) with h | h | h
    · exact h
    · exact absurd h.symm (hp i hi1 hi2)
    · rw [hl i hi2] at h; cases h
  obtain ⟨t, ht, hx⟩ := (lessL_iff _ _).1 hlt
  have htl : t < y.length := by
    rcases hx with ⟨x, z, e1, _⟩ | ⟨_, z, e2⟩
    · exact (List.getElem?_eq_some_iff.1 e1).1
    · have := (List.getElem?_eq_some_iff.1 e2).1; rwa [rotL_len] at this
  obtain ⟨x, z, e1, e2, hxz⟩ : ∃ x z, y[t]? = some x ∧ (rotL y i)[t]? = some z ∧ x < z := by
    rcases hx with h | ⟨h, _⟩
    · exact h
    · rw [List.getElem?_eq_none_iff] at h; omega
  have hg : ∀ s, s < y.length → (rotL y i)[s]? = y[(i + s) % y.length]? := fun s hs => rotL_get y i s (by omega) hs
  rw [lessL_iff]
  by_cases hc : i + t < y.length
  · refine ⟨t, fun s hs => ?_, .inl ⟨x, z, e1, ?_, hxz⟩⟩
    · rw [ht s hs, hg s (by omega), Nat.mod_eq_of_lt (by omega), List.getElem?_drop]
    · rw [List.getElem?_drop, ← e2, hg t htl, Nat.mod_eq_of_lt hc]
  · exfalso
    -- the ending at i is a beginning: then another rotation is less
    have hk1 : y.length - i < y.length := by omega
    have hbad : lessL (rotL y (y.length - i)) y = true := by
      rw [lessL_iff]
      have hg2 : ∀ s, s < y.length → (rotL y (y.length - i))[s]? = y[(y.length - i + s) % y.length]? := fun s hs => rotL_get y _ s (by omega) hs
      obtain ⟨s, hs⟩ : ∃ s, s = t - (y.length - i) := ⟨_, rfl⟩
      have hsi : s < i := by omega
      have hst : y.length - i + s = t := by omega
      refine ⟨s, fun r hr => ?_, .inl ⟨x, z, ?_, ?_, hxz⟩⟩
      · rw [hg2 r (by omega), Nat.mod_eq_of_lt (by omega), ht (y.length - i + r) (by omega), hg _ (by omega)]
        congr 1
        rw [show i + (y.length - i + r) = r + y.length by omega, Nat.add_mod_right, Nat.mod_eq_of_lt (by omega)]
      · rw [hg2 s (by omega), Nat.mod_eq_of_lt (by omega), hst]; exact e1
      · rw [← e2, hg t htl]
        congr 1
        rw [show i + t = s + y.length by omega, Nat.add_mod_right, Nat.mod_eq_of_lt (by omega)]
    rw [hl _ hk1] at hbad; cases hbad

/-- What is needed of a run, of the list in whatever order. -/
structure Per (o : List UInt8) (p i j : Nat) : Prop where
  pos : 1 ≤ p
  two : i + 2 * p ≤ j
  le : j ≤ o.length
  per : ∀ t, i ≤ t → t + p < j → o[t]? = o[t + p]?
  least : leastP (subL o i j) = p
theorem Per.mod {o : List UInt8} {p i j : Nat} (h : Per o p i j) : ∀ s, i + s < j → o[i + s]? = o[i + s % p]? := by
  intro s
  induction s using Nat.strongRecOn with
  | _ s ih =>
    intro hs
    by_cases hp : s < p
    · rw [Nat.mod_eq_of_lt hp]
    · have := h.pos
      have e := h.per (i + (s - p)) (by omega) (by omega)
      rw [show i + (s - p) + p = i + s by omega] at e
      rw [← e, ih (s - p) (by omega) (by omega), Nat.mod_eq_sub_mod (a := s) (b := p) (by omega)]
theorem Per.root {o : List UInt8} {p i j : Nat} (h : Per o p i j) : ∃ c, c < p ∧ Lyn (subL o (i + c) (i + c + p)) := by
  have hp := h.pos
  have h2 := h.two
  have hle := h.le
  obtain ⟨x, hx⟩ : ∃ x, x = subL o i (i + p) := ⟨_, rfl⟩
  have hxl : x.length = p := by rw [hx, subL_len _ _ _ (by omega)]; omega
  have hxg : ∀ r, r < p → x[r]? = o[i + r]? := fun r hr => by rw [hx, subL_get, if_pos (by omega)]
  obtain ⟨c, hc⟩ : ∃ c, c = turnTo x p := ⟨_, rfl⟩
  have hcp : c < p := by rw [hc]; exact turnTo_lt hp
  have hy : subL o (i + c) (i + c + p) = rotL x c := by
    apply List.ext_getElem?
    intro s
    rw [subL_get]
    by_cases hs : s < p
    · rw [if_pos (by omega), rotL_get x c s (by omega) (by omega), hxl, hxg _ (Nat.mod_lt _ (by omega)), ← h.mod (c + s) (by omega), Nat.add_assoc]
    · rw [if_neg (by omega), List.getElem?_eq_none (by rw [rotL_len]; omega)]
  refine ⟨c, hcp, ?_⟩
  rw [hy]
  have hleast : LeastRot (rotL x c) := by have := leastRot_turn (l := x) (by omega); rwa [hxl, ← hc] at this
  refine lyn_of_least (by rw [rotL_len]; omega) hleast ?_
  intro k hk1 hk2 e
  rw [rotL_len, hxl] at hk2
  -- then k is a period of the run
  have hrr := rot_rot x c k (by omega) (by omega) (by omega)
  rw [e, hxl] at hrr
  have hshift : ∀ s, x[(s + k) % p]? = x[s % p]? := by
    intro s
    obtain ⟨t, ht⟩ : ∃ t, t = (s + (p - c)) % p := ⟨_, rfl⟩
    have htp : t < p := by rw [ht]; exact Nat.mod_lt _ (by omega)
    have a1 := rotL_get x c t (by omega) (by omega)
    have a2 := rotL_get x ((c + k) % p) t (by have := Nat.mod_lt (c + k) (show p > 0 by omega); omega) (by omega)
    rw [← hrr, a1, hxl] at a2
    have b1 : (c + t) % p = s % p := by
      rw [ht, Nat.add_mod_mod, show c + (s + (p - c)) = s + p by omega, Nat.add_mod_right]
    have b2 : ((c + k) % p + t) % p = (s + k) % p := by
      rw [ht, Nat.add_mod_mod, Nat.mod_add_mod, show c + k + (s + (p - c)) = s + k + p by omega, Nat.add_mod_right]
    rw [b1, b2] at a2
    exact a2.symm
  have hper : perB (subL o i j) k = true := (per_subL hle).2 fun t h3 h4 => by
    obtain ⟨s, rfl⟩ : ∃ s, t = i + s := ⟨t - i, by omega⟩
    rw [h.mod s (by omega), show i + s + k = i + (s + k) by omega, h.mod (s + k) (by omega), ← hxg _ (Nat.mod_lt _ (by omega)), ← hxg _ (Nat.mod_lt _ (by omega)), hshift s]
  have hmin := least_min (l := subL o i j) (by rw [subL_len _ _ _ hle]; omega) hk1 hper
  rw [h.least] at hmin
  omega
theorem Per.shift {o : List UInt8} {p i j : Nat} (h : Per o p i j) {a : Nat} (t : Nat) (h1 : i ≤ a) (h2 : a + t * p + p ≤ j) : subL o (a + t * p) (a + t * p + p) = subL o a (a + p) := by
  have hle := h.le
  apply List.ext_getElem?
  intro s
  rw [subL_get, subL_get]
  by_cases hs : s < p
  · rw [if_pos (by omega), if_pos (by omega)]
    obtain ⟨b, rfl⟩ : ∃ b, a = i + b := ⟨a - i, by omega⟩
    rw [show i + b + t * p + s = i + (b + s + t * p) by omega, show i + b + s = i + (b + s) by omega, h.mod _ (by omega), h.mod (b + s) (by omega), Nat.add_mul_mod_self_right]
  · rw [if_neg (by omega), if_neg (by omega)]

/-- The order of a run: in it the letter behind the run is less than the one a period before. -/
def ordOf (l : List UInt8) (j p : Nat) : List UInt8 := if l.getD (j - p) 0 < l.getD j 0 then inv l else l
theorem ordOf_ord (l : List UInt8) (j p : Nat) : Ord l (ordOf l j p) := by
  unfold ordOf; split
  · exact .inr rfl
  · exact .inl rfl
theorem ordOf_fall {l : List UInt8} {p i j : Nat} (h : MaxRep l p i j) (hj : j < l.length) : ∃ x y, (ordOf l j p)[j]? = some x ∧ (ordOf l j p)[j - p]? = some y ∧ x < y := by
  have e1 := List.getElem?_eq_getElem hj
  have e2 := List.getElem?_eq_getElem (l := l) (i := j - p) (by omega)
  have hne : l[j - p] ≠ l[j] := by
    rcases h.right with z | z
    · omega
    · intro e; apply z; rw [e1, e2, e]
  have d1 : l.getD j 0 = l[j] := by rw [List.getD_eq_getElem?_getD, e1]; rfl
  have d2 : l.getD (j - p) 0 = l[j - p] := by rw [List.getD_eq_getElem?_getD, e2]; rfl
  unfold ordOf
  rw [d1, d2]
  by_cases hlt : l[j - p] < l[j]
  · rw [if_pos hlt]
    exact ⟨255 - l[j], 255 - l[j - p], by rw [inv_get, e1]; rfl, by rw [inv_get, e2]; rfl, (inv_lt _ _).2 hlt⟩
  · rw [if_neg hlt]
    refine ⟨l[j], l[j - p], e1, e2, ?_⟩
    rw [UInt8.lt_iff_toNat_lt] at hlt ⊢
    have : l[j - p].toNat ≠ l[j].toNat := fun e => hne (UInt8.toNat_inj.1 e)
    omega
/-- Of each run: a first root above its start, and one a period later, again and again. -/
theorem roots_of {l : List UInt8} {p i j : Nat} (h : MaxRep l p i j) (hp : 1 ≤ p) : ∃ a, i < a ∧ a + ((j - i) / p - 1) * p ≤ j ∧ ∀ t, t < (j - i) / p - 1 → Root l (ordOf l j p) i j p (a + t * p) := by
  have h2 := h.two
  have hle := h.le
  have ho := ordOf_ord l j p
  have hP : Per (ordOf l j p) p i j := ⟨hp, h2, by rw [ho.len]; exact hle, fun t h3 h4 => (ho.eq (by omega) (by omega)).2 (h.at h3 h4), by rw [ho.least]; exact h.least⟩
  obtain ⟨c, hc, hL⟩ := hP.root
  obtain ⟨K, hK⟩ : ∃ K, K = (j - i) / p := ⟨_, rfl⟩
  have hK2 : 2 ≤ K := by rw [hK]; exact (Nat.le_div_iff_mul_le (by omega)).2 (by omega)
  have hKj : K * p ≤ j - i := by rw [hK]; exact Nat.div_mul_le_self _ _
  rw [← hK]
  have hKm : (K - 1) * p + p = K * p := by rw [← Nat.succ_mul]; congr 1; omega
  obtain ⟨a, ha1, ha2, hLa⟩ : ∃ a, i < a ∧ a ≤ i + p ∧ Lyn (subL (ordOf l j p) a (a + p)) := by
    by_cases h0 : c = 0
    · subst h0
      have := hP.shift (a := i) 1 (Nat.le_refl _) (by omega)
      rw [Nat.one_mul] at this
      exact ⟨i + p, by omega, Nat.le_refl _, by rw [this]; exact hL⟩
    · exact ⟨i + c, by omega, by omega, hL⟩
  refine ⟨a, ha1, by omega, fun t ht => ?_⟩
  have htp : (t + 1) * p ≤ (K - 1) * p := Nat.mul_le_mul_right p (by omega)
  rw [Nat.succ_mul] at htp
  exact ⟨h, hp, ho, ordOf_fall h, by omega, by omega, by rw [hP.shift t (by omega) (by omega)]; exact hLa⟩
end Go.Proofs.Ytbcoaiaocfommaa
