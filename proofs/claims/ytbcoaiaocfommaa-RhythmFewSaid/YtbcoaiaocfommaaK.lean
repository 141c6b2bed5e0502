import Derived.Test.YtbcoaiaocfommaaJ
namespace Go.Proofs.Ytbcoaiaocfommaa
open Go.RowKit

/-! ## the order of lists, and Lyndon words: plain mathematics -/

/-- Where two lists differ first, the first one is less. -/
def ltAt (a b : List UInt8) (t : Nat) : Prop := (∀ j, j < t → a[j]? = b[j]?) ∧ ((∃ x y, a[t]? = some x ∧ b[t]? = some y ∧ x < y) ∨ (a[t]? = none ∧ ∃ y, b[t]? = some y))

theorem lessL_iff : ∀ (a b : List UInt8), lessL a b = true ↔ ∃ t, ltAt a b t := by
  intro a
  induction a with
  | nil =>
    intro b
    cases b with
    | nil =>
      constructor
      · intro h; simp [lessL, Op.bytesLess] at h
      · rintro ⟨t, _, ⟨x, y, h, _⟩ | ⟨_, y, h⟩⟩ <;> simp at h
    | cons y ys =>
      constructor
      · intro _; exact ⟨0, fun j hj => by omega, .inr ⟨rfl, y, rfl⟩⟩
      · intro _; rfl
  | cons x xs ih =>
    intro b
    cases b with
    | nil =>
      constructor
      · intro h; simp [lessL, Op.bytesLess] at h
      · rintro ⟨t, _, ⟨x, y, _, h, _⟩ | ⟨_, y, h⟩⟩ <;> simp at h
    | cons y ys =>
      have hd : lessL (x :: xs) (y :: ys) = (decide (x < y) || (x == y && lessL xs ys)) := rfl
      rw [hd, Bool.or_eq_true, Bool.and_eq_true, decide_eq_true_iff, beq_iff_eq, ih]
      constructor
      · rintro (h | ⟨rfl, t, h1, h2⟩)
        · exact ⟨0, fun j hj => by omega, .inl ⟨x, y, rfl, rfl, h⟩⟩
        · refine ⟨t + 1, fun j hj => ?_, by simpa using h2⟩
          cases j with
          | zero => rfl
          | succ j => simpa using h1 j (by omega)
      · rintro ⟨t, h1, h2⟩
        cases t with
        | zero =>
          left
          rcases h2 with ⟨u, v, h3, h4, h5⟩ | ⟨h3, _⟩
          · simp at h3 h4; rw [h3, h4]; exact h5
          · simp at h3
        | succ t =>
          right
          refine ⟨by simpa using h1 0 (by omega), t, fun j hj => by simpa using h1 (j + 1) (by omega), by simpa using h2⟩

theorem lessL_irrefl (a : List UInt8) : lessL a a = false := bytesLess_self a
theorem lessL_trans {a b c : List UInt8} (h1 : lessL a b = true) (h2 : lessL b c = true) : lessL a c = true := by
  rw [lessL_iff] at *
  obtain ⟨t, ht, hx⟩ := h1
  obtain ⟨u, hu, hy⟩ := h2
  rcases Nat.lt_trichotomy t u with h | h | h
  · refine ⟨t, fun j hj => (ht j hj).trans (hu j (by omega)), ?_⟩
    rw [← hu t h]; exact hx
  · subst h
    refine ⟨t, fun j hj => (ht j hj).trans (hu j hj), ?_⟩
    rcases hx with ⟨x, y, h1, h2, h3⟩ | ⟨h1, y, h2⟩
    · rcases hy with ⟨x', y', h4, h5, h6⟩ | ⟨h4, _⟩
      · left; rw [h2] at h4; cases h4; exact ⟨x, y', h1, h5, UInt8.lt_trans h3 h6⟩
      · rw [h2] at h4; simp at h4
    · rcases hy with ⟨x', y', h4, h5, h6⟩ | ⟨h4, _⟩
      · right; exact ⟨h1, y', h5⟩
      · rw [h2] at h4; simp at h4
  · refine ⟨u, fun j hj => (ht j (by omega)).trans (hu j hj), ?_⟩
    rw [ht u h]; exact hy
theorem lessL_total : ∀ (a b : List UInt8), lessL a b = true ∨ a = b ∨ lessL b a = true := by
  intro a
  induction a with
  | nil => intro b; cases b with
    | nil => exact .inr (.inl rfl)
    | cons y ys => exact .inl rfl
  | cons x xs ih => intro b; cases b with
    | nil => exact .inr (.inr rfl)
    | cons y ys =>
      have hd : lessL (x :: xs) (y :: ys) = (decide (x < y) || (x == y && lessL xs ys)) := rfl
      have hd2 : lessL (y :: ys) (x :: xs) = (decide (y < x) || (y == x && lessL ys xs)) := rfl
      rw [hd, hd2]
      rcases Nat.lt_trichotomy x.toNat y.toNat with h | h | h
      · left; simp [UInt8.lt_iff_toNat_lt, h]
      · have : x = y := UInt8.toNat_inj.1 h
        subst this
        rcases ih ys with h | h | h
        · left; simp [h]
        · right; left; rw [h]
        · right; right; simp [h]
      · right; right; simp [UInt8.lt_iff_toNat_lt, h]
theorem lessL_asymm {a b : List UInt8} (h : lessL a b = true) : lessL b a = false := by
  cases e : lessL b a with
  | false => rfl
  | true => rw [← lessL_irrefl a, lessL_trans h e]
/-- Not less: equal or greater. -/
theorem not_less {a b : List UInt8} (h : lessL a b = false) : a = b ∨ lessL b a = true := by
  rcases lessL_total a b with h1 | h1 | h1
  · rw [h] at h1; simp at h1
  · exact .inl h1
  · exact .inr h1

/-- Not empty, and less than each proper ending. -/
def Lyn (l : List UInt8) : Prop := l ≠ [] ∧ ∀ i, 1 ≤ i → i < l.length → lessL l (l.drop i) = true
def lynB (l : List UInt8) : Bool := decide (l ≠ []) && decide (∀ i, i < l.length → 1 ≤ i → lessL l (l.drop i) = true)
theorem lynB_iff (l : List UInt8) : lynB l = true ↔ Lyn l := by
  unfold lynB Lyn
  rw [Bool.and_eq_true, decide_eq_true_iff, decide_eq_true_iff]
  exact ⟨fun ⟨h1, h2⟩ => ⟨h1, fun i a b => h2 i b a⟩, fun ⟨h1, h2⟩ => ⟨h1, fun i a b => h2 i b a⟩⟩
theorem lyn_one (c : UInt8) : Lyn [c] := ⟨by simp, fun i h1 h2 => by simp at h2; omega⟩

/-- The beginning of length `p` of `l` is a Lyndon word `w`; up to `e` the list is `w` again and again. -/
structure Duv (l : List UInt8) (p e : Nat) : Prop where
  p1 : 1 ≤ p
  pe : p ≤ e
  el : e ≤ l.length
  lyn : Lyn (l.take p)
  per : ∀ j, j + p < e → l[j]? = l[j + p]?

theorem Duv.first {l : List UInt8} (h : 1 ≤ l.length) : Duv l 1 1 := by
  refine ⟨Nat.le_refl _, Nat.le_refl _, h, ?_, fun j hj => by omega⟩
  cases l with
  | nil => simp at h
  | cons c l => exact lyn_one c
theorem Duv.step {l : List UInt8} {p e : Nat} (h : Duv l p e) (he : e < l.length) (hc : l[e - p]? = l[e]?) : Duv l p (e + 1) := by
  refine ⟨h.p1, by have := h.pe; omega, by omega, h.lyn, fun j hj => ?_⟩
  by_cases hjp : j + p < e
  · exact h.per j hjp
  · have h1 := h.pe
    have : j + p = e := by omega
    rw [this, show j = e - p from by omega]; exact hc

/-- Letters at places that are congruent. -/
theorem Duv.mod {l : List UInt8} {p e : Nat} (h : Duv l p e) : ∀ j, j < e → l[j]? = l[j % p]? := by
  intro j
  induction j using Nat.strongRecOn with
  | _ j ih =>
    intro hj
    have hp := h.p1
    by_cases hjp : j < p
    · rw [Nat.mod_eq_of_lt hjp]
    · have h1 := h.per (j - p) (by omega)
      rw [show j - p + p = j from by omega] at h1
      rw [← h1, ih (j - p) (by omega) (by omega), Nat.mod_eq_sub_mod (a := j) (b := p) (by omega)]

/-- A Lyndon word and a proper ending: where they differ first. -/
theorem Lyn.diff {w : List UInt8} (h : Lyn w) (b : Nat) (h1 : 1 ≤ b) (h2 : b < w.length) :
    ∃ t x y, b + t < w.length ∧ (∀ j, j < t → w[j]? = w[b + j]?) ∧ w[t]? = some x ∧ w[b + t]? = some y ∧ x < y := by
  have := h.2 b h1 h2
  rw [lessL_iff] at this
  obtain ⟨t, ht, hx⟩ := this
  rcases hx with ⟨x, y, h3, h4, h5⟩ | ⟨h3, y, h4⟩
  · rw [List.getElem?_drop] at h4
    refine ⟨t, x, y, ?_, fun j hj => by rw [ht j hj, List.getElem?_drop], h3, h4, h5⟩
    exact (List.getElem?_eq_some_iff.1 h4).1
  · rw [List.getElem?_drop] at h4
    have := (List.getElem?_eq_some_iff.1 h4).1
    rw [List.getElem?_eq_none_iff] at h3
    omega

theorem take_get (l : List UInt8) (p j : Nat) (h : j < p) : (l.take p)[j]? = l[j]? := by rw [List.getElem?_take, if_pos h]

/-- Duval's step: a greater letter makes one longer Lyndon word. -/
theorem Duv.grow {l : List UInt8} {p e : Nat} (h : Duv l p e) (x c : UInt8) (hx : l[e - p]? = some x) (hc : l[e]? = some c) (hlt : x < c) : Duv l (e + 1) (e + 1) := by
  have hp := h.p1
  have hpe := h.pe
  have hel : e < l.length := (List.getElem?_eq_some_iff.1 hc).1
  refine ⟨by omega, Nat.le_refl _, by omega, ⟨by intro e0; have := congrArg List.length e0; rw [List.length_take, List.length_nil] at this; omega, fun i h1 h2 => ?_⟩, fun j hj => by omega⟩
  have hul : (l.take (e + 1)).length = e + 1 := by rw [List.length_take]; omega
  rw [hul] at h2
  have hsame : l[e % p]? = some x := by
    rw [← hx, h.mod (e - p) (by omega), ← Nat.mod_eq_sub_mod (by omega)]
  rw [lessL_iff]
  -- where the ending at i and the whole word differ first
  by_cases hb : i % p = 0
  · refine ⟨e - i, fun j hj => ?_, .inl ⟨x, c, ?_, ?_, hlt⟩⟩
    · rw [List.getElem?_drop, take_get _ _ _ (by omega), take_get _ _ _ (by omega), h.mod j (by omega), h.mod (i + j) (by omega), Nat.add_mod, hb, Nat.zero_add, Nat.mod_mod]
    · rw [take_get _ _ _ (by omega), h.mod (e - i) (by omega)]
      rw [show (e - i) % p = e % p from by
        have : e = i + (e - i) := by omega
        conv => rhs; rw [this, Nat.add_mod, hb, Nat.zero_add, Nat.mod_mod]]
      exact hsame
    · rw [List.getElem?_drop, take_get _ _ _ (by omega), show i + (e - i) = e from by omega]; exact hc
  · have hip : i % p < p := Nat.mod_lt _ (by omega)
    have hwl : (l.take p).length = p := by rw [List.length_take]; omega
    obtain ⟨t, u, v, ht, heq, hu, hv, huv⟩ := h.lyn.diff (i % p) (by omega) (by rw [hwl]; exact hip)
    rw [hwl] at ht
    rw [take_get _ _ _ (by omega)] at hu hv
    have hmod : ∀ j, i % p + j < p → (i + j) % p = i % p + j := fun j hj => by
      rw [Nat.add_mod, Nat.mod_eq_of_lt (show j < p by omega), Nat.mod_eq_of_lt hj]
    by_cases h3 : i + t < e
    · refine ⟨t, fun j hj => ?_, .inl ⟨u, v, ?_, ?_, huv⟩⟩
      · rw [List.getElem?_drop, take_get _ _ _ (by omega), take_get _ _ _ (by omega), h.mod (i + j) (by omega), hmod j (by omega)]
        have := heq j hj
        rw [take_get _ _ _ (by omega), take_get _ _ _ (by omega)] at this
        exact this
      · rw [take_get _ _ _ (by omega)]; exact hu
      · rw [List.getElem?_drop, take_get _ _ _ (by omega), h.mod (i + t) h3, hmod t ht]; exact hv
    · -- the ending ends at the new letter before, or where, they differ
      have h4 : e - i ≤ t := by omega
      have hem : e % p = i % p + (e - i) := by
        have := hmod (e - i) (by omega)
        rw [show i + (e - i) = e from by omega] at this; exact this
      have hwe : l[i % p + (e - i)]? = some x := by rw [← hem]; exact hsame
      by_cases h5 : e - i = t
      · have hvx : v = x := by rw [h5] at hwe; rw [hwe] at hv; cases hv; rfl
        refine ⟨t, fun j hj => ?_, .inl ⟨u, c, ?_, ?_, ?_⟩⟩
        · rw [List.getElem?_drop, take_get _ _ _ (by omega), take_get _ _ _ (by omega), h.mod (i + j) (by omega), hmod j (by omega)]
          have := heq j hj
          rw [take_get _ _ _ (by omega), take_get _ _ _ (by omega)] at this
          exact this
        · rw [take_get _ _ _ (by omega)]; exact hu
        · rw [List.getElem?_drop, take_get _ _ _ (by omega), show i + t = e from by omega]; exact hc
        · rw [hvx] at huv; exact UInt8.lt_trans huv hlt
      · refine ⟨e - i, fun j hj => ?_, .inl ⟨x, c, ?_, ?_, hlt⟩⟩
        · rw [List.getElem?_drop, take_get _ _ _ (by omega), take_get _ _ _ (by omega), h.mod (i + j) (by omega), hmod j (by omega)]
          have := heq j (by omega)
          rw [take_get _ _ _ (by omega), take_get _ _ _ (by omega)] at this
          exact this
        · rw [take_get _ _ _ (by omega)]
          have := heq (e - i) (by omega)
          rw [take_get _ _ _ (by omega), take_get _ _ _ (by omega)] at this
          rw [this]; exact hwe
        · rw [List.getElem?_drop, take_get _ _ _ (by omega), show i + (e - i) = e from by omega]; exact hc

/-- No longer beginning is a Lyndon word. -/
theorem Duv.max {l : List UInt8} {p e : Nat} (h : Duv l p e) (hend : e = l.length ∨ ∃ x c, l[e - p]? = some x ∧ l[e]? = some c ∧ c < x) (m : Nat) (h1 : p < m) (h2 : m ≤ l.length) : ¬ Lyn (l.take m) := by
  intro hl
  have hp := h.p1
  have hpe := h.pe
  have hml : (l.take m).length = m := by rw [List.length_take]; omega
  obtain ⟨t, x, y, ht, heq, hx, hy, hxy⟩ := hl.diff p hp (by rw [hml]; exact h1)
  rw [hml] at ht
  rw [take_get _ _ _ (by omega)] at hx hy
  rcases Nat.lt_trichotomy (t + p) e with h3 | h3 | h3
  · have := h.per t h3
    rw [hx, show t + p = p + t from by omega, hy] at this
    cases this
    exact absurd hxy (UInt8.lt_irrefl _)
  · rcases hend with h4 | ⟨u, c, hu, hc, hcu⟩
    · omega
    · rw [show e - p = t from by omega, hx] at hu
      rw [← h3, show t + p = p + t from by omega, hy] at hc
      cases hu; cases hc
      exact absurd (UInt8.lt_trans hxy hcu) (UInt8.lt_irrefl _)
  · rcases hend with h4 | ⟨u, c, hu, hc, hcu⟩
    · omega
    · have := heq (e - p) (by omega)
      rw [take_get _ _ _ (by omega), take_get _ _ _ (by omega), show p + (e - p) = e from by omega, hu, hc] at this
      cases this
      exact absurd hcu (UInt8.lt_irrefl _)
end Go.Proofs.Ytbcoaiaocfommaa
