import Derived.Test.YtfobdlllghpelaaXm
namespace Go.Proofs.Ytfobdlllghpelaa
open Go.RowKit Go.Shelf Pair

/-! Falling rows of eight as a measure. -/
def insF : List Int → Int → List Int
  | [], _ => []
  | x :: xs, c => max x c :: insF xs (min x c)
theorem insF_len : ∀ (xs : List Int) (c : Int), (insF xs c).length = xs.length
  | [], _ => rfl
  | x :: xs, c => by simp [insF, insF_len xs]
theorem withF_ins {xs : List Int} (h : xs.length = 8) (c : Int) : withF xs c = insF xs c := by
  obtain ⟨a0, a1, a2, a3, a4, a5, a6, a7, rfl⟩ := eight h
  simp [withF, afterF, stepF, insF]
def lexI : List Int → List Int → Bool
  | a :: l, b :: m => decide (a < b) || (decide (a = b) && lexI l m)
  | _, _ => false
theorem lexI_cmp : ∀ {a b : List Int}, a.length = b.length → lexI a b = decide (cmpL a b < 0)
  | [], [], _ => rfl
  | x :: a, y :: b, h => by
    have ih := lexI_cmp (a := a) (b := b) (by simpa using h)
    unfold lexI cmpL cmpI
    rcases Int.lt_trichotomy x y with h | h | h
    · simp [h]
    · subst h
      simp [ih]
    · have h1 : ¬ x < y := by omega
      have h2 : ¬ x = y := by omega
      simp [h, h1, h2]
theorem cmpL_zero : ∀ {a b : List Int}, a.length = b.length → cmpL a b = 0 → a = b
  | [], [], _, _ => rfl
  | x :: a, y :: b, h, e => by
    unfold cmpL at e
    by_cases h1 : cmpI x y = 0
    · rw [if_pos h1] at e
      have := cmpL_zero (by simpa using h) e
      have hxy : x = y := by
        unfold cmpI at h1
        split at h1
        · omega
        · split at h1
          · omega
          · omega
      rw [hxy, this]
    · rw [if_neg h1] at e; exact absurd e h1
theorem lexI_tri : ∀ {a b : List Int}, a.length = b.length → lexI a b = true ∨ a = b ∨ lexI b a = true
  | [], [], _ => .inr (.inl rfl)
  | x :: a, y :: b, h => by
    have ih := lexI_tri (a := a) (b := b) (by simpa using h)
    unfold lexI
    rcases Int.lt_trichotomy x y with h | h | h
    · exact .inl (by simp [h])
    · subst h
      rcases ih with ih | ih | ih
      · exact .inl (by simp [ih])
      · exact .inr (.inl (by rw [ih]))
      · exact .inr (.inr (by simp [ih]))
    · exact .inr (.inr (by simp [h]))
theorem lexI_asymm : ∀ (a b : List Int), lexI a b = true → lexI b a = false
  | [], _, h => by simp [lexI] at h
  | _ :: _, [], h => by simp [lexI] at h
  | x :: a, y :: b, h => by
    have ih := lexI_asymm a b
    unfold lexI at h ⊢
    simp only [Bool.or_eq_true, decide_eq_true_eq, Bool.and_eq_true] at h
    rcases h with h | ⟨rfl, h⟩
    · have h1 : ¬ y < x := by omega
      have h2 : ¬ y = x := by omega
      simp [h1, h2]
    · simp [ih h]
theorem lexI_trans : ∀ (a b d : List Int), lexI a b = true → lexI b d = true → lexI a d = true
  | [], _, _, h, _ => by simp [lexI] at h
  | _ :: _, [], _, h, _ => by simp [lexI] at h
  | _ :: _, _ :: _, [], _, h => by simp [lexI] at h
  | x :: a, y :: b, z :: d, h, g => by
    have ih := lexI_trans a b d
    unfold lexI at h g ⊢
    simp only [Bool.or_eq_true, decide_eq_true_eq, Bool.and_eq_true] at h g ⊢
    rcases h with h | ⟨rfl, h⟩
    · rcases g with g | ⟨rfl, g⟩
      · exact .inl (by omega)
      · exact .inl h
    · rcases g with g | ⟨rfl, g⟩
      · exact .inl g
      · exact .inr ⟨rfl, ih h g⟩

/-- Falling. -/
def FallR : List Int → Prop
  | x :: y :: l => y ≤ x ∧ FallR (y :: l)
  | _ => True
/-- The last one is 0. -/
def LastZ : List Int → Prop
  | [] => True
  | [x] => x = 0
  | _ :: y :: l => LastZ (y :: l)
theorem fall_tail {x : Int} {xs : List Int} (h : FallR (x :: xs)) : FallR xs := by
  cases xs with
  | nil => trivial
  | cons y l => exact h.2
theorem insF_fall : ∀ (xs : List Int) (c : Int), FallR xs → FallR (insF xs c)
  | [], _, _ => trivial
  | [x], c, _ => by simp [insF, FallR]
  | x :: y :: l, c, h => by
    have ih := insF_fall (y :: l) (min x c) h.2
    have h1 := h.1
    simp only [insF, FallR] at ih ⊢
    exact ⟨by omega, ih⟩
theorem insF_mono : ∀ (a b : List Int) (c : Int), a.length = b.length → FallR a → FallR b → LastZ a → LastZ b → lexI a b = true → lexI (insF a c) (insF b c) = true
  | [], _, _, _, _, _, _, _, h => by simp [lexI] at h
  | _ :: _, [], _, hl, _, _, _, _, _ => by simp at hl
  | [x], [y], c, _, _, _, hx, hy, h => by
    simp only [LastZ] at hx hy
    subst hx; subst hy
    simp [lexI] at h
  | [_], _ :: _ :: _, _, hl, _, _, _, _, _ => by simp at hl
  | _ :: _ :: _, [_], _, hl, _, _, _, _, _ => by simp at hl
  | x :: x' :: a, y :: y' :: b, c, hl, fa, fb, za, zb, h => by
    have ih := insF_mono (x' :: a) (y' :: b) (min x c) (by simpa using hl) fa.2 fb.2 za zb
    have h1 := fa.1
    have h2 := fb.1
    rw [lexI] at h
    simp only [Bool.or_eq_true, decide_eq_true_eq, Bool.and_eq_true] at h
    rcases h with h | ⟨rfl, h⟩
    · by_cases hc : y ≤ c
      · simp only [insF, lexI, Bool.or_eq_true, decide_eq_true_eq, Bool.and_eq_true]
        exact .inr ⟨by omega, .inl (by omega)⟩
      · simp only [insF, lexI, Bool.or_eq_true, decide_eq_true_eq, Bool.and_eq_true]
        exact .inl (by omega)
    · have := ih h
      have e : lexI (insF (x :: x' :: a) c) (insF (x :: y' :: b) c) = (decide (max x c < max x c) || (decide (max x c = max x c) && lexI (insF (x' :: a) (min x c)) (insF (y' :: b) (min x c)))) := rfl
      rw [e, this]
      simp
theorem insF_zero : ∀ (xs : List Int), (∀ i, xs.getD i 0 = 0) → insF xs 0 = xs
  | [], _ => rfl
  | x :: xs, h => by
    have h0 : x = 0 := by simpa using h 0
    subst h0
    have := insF_zero xs (fun i => by simpa using h (i + 1))
    simp [insF, this]
theorem insF_from : ∀ (xs : List Int) (c : Int) (k : Nat), 0 ≤ c → (∀ i, 0 ≤ xs.getD i 0) → (∀ i, k ≤ i → xs.getD i 0 = 0) → ∀ i, k + 1 ≤ i → (insF xs c).getD i 0 = 0
  | [], _, _, _, _, _, i, _ => by simp [insF]
  | x :: xs, c, k, hc, hn, hz, i, hi => by
    obtain ⟨i', rfl⟩ : ∃ i', i = i' + 1 := ⟨i - 1, by omega⟩
    have hx : 0 ≤ x := by simpa using hn 0
    have hn' : ∀ i, 0 ≤ xs.getD i 0 := fun i => by simpa using hn (i + 1)
    simp only [insF, List.getD_cons_succ]
    cases k with
    | zero =>
      have h0 : x = 0 := by simpa using hz 0 (by omega)
      have hz' : ∀ i, xs.getD i 0 = 0 := fun i => by simpa using hz (i + 1) (by omega)
      rw [show min x c = 0 by omega, insF_zero xs hz']
      exact hz' i'
    | succ k =>
      exact insF_from xs (min x c) k (by omega) hn' (fun i h => by simpa using hz (i + 1) (by omega)) i' (by omega)
theorem insF_nonneg : ∀ (xs : List Int) (c : Int), 0 ≤ c → (∀ i, 0 ≤ xs.getD i 0) → ∀ i, 0 ≤ (insF xs c).getD i 0
  | [], _, _, _, i => by simp [insF]
  | x :: xs, c, hc, hn, i => by
    have hx : 0 ≤ x := by simpa using hn 0
    cases i with
    | zero => simp only [insF, List.getD_cons_zero]; omega
    | succ i =>
      simp only [insF, List.getD_cons_succ]
      exact insF_nonneg xs (min x c) (by omega) (fun i => by simpa using hn (i + 1)) i
theorem last_z {xs : List Int} (h : xs.length = 8) (hz : xs.getD 7 0 = 0) : LastZ xs := by
  obtain ⟨a0, a1, a2, a3, a4, a5, a6, a7, rfl⟩ := eight h
  simpa [LastZ] using hz
/-- A measure of `k` costs. -/
def DF (k : Nat) (m : List Int) : Prop := m.length = 8 ∧ FallR m ∧ (∀ i, 0 ≤ m.getD i 0) ∧ ∀ i, k ≤ i → m.getD i 0 = 0
theorem zeros_at (i : Nat) : (List.replicate 8 (0 : Int)).getD i 0 = 0 := by
  match i with
  | 0 | 1 | 2 | 3 | 4 | 5 | 6 | 7 => rfl
  | n + 8 => rfl
theorem measF {cs : List (List Int)} {n : Nat} (hn8 : n ≤ 8) (hc : ∀ i j, i < n → j < n → 0 ≤ costAt cs i j) : Meas lexI insF (List.replicate 8 0) (costAt cs) n DF where
  zero := ⟨rfl, by simp [List.replicate, FallR], fun i => by rw [zeros_at]; exact Int.le_refl _, fun i _ => zeros_at i⟩
  step k m i j _ hi hj h := ⟨by rw [insF_len]; exact h.1, insF_fall _ _ h.2.1, insF_nonneg _ _ (hc i j hi hj) h.2.2.1, insF_from _ _ _ (hc i j hi hj) h.2.2.1 h.2.2.2⟩
  tri k a b ha hb := lexI_tri (by rw [ha.1, hb.1])
  asymm := lexI_asymm
  trans := lexI_trans
  mono k a b i j hk _ _ ha hb h := insF_mono a b _ (by rw [ha.1, hb.1]) ha.2.1 hb.2.1 (last_z ha.1 (ha.2.2.2 7 (by omega))) (last_z hb.1 (hb.2.2.2 7 (by omega))) h
end Go.Proofs.Ytfobdlllghpelaa
