import Derived.Test.YtbcoaiaocfommaaQ
namespace Go.Proofs.Ytbcoaiaocfommaa
open Go.RowKit

/-! ## the least rotation -/
theorem not_less_trans {a b c : List UInt8} (h1 : lessL a b = false) (h2 : lessL b c = false) : lessL a c = false := by
  cases e : lessL a c with
  | false => rfl
  | true =>
    rcases not_less h1 with rfl | h3
    · rw [h2] at e; simp at e
    · have := lessL_trans h3 e
      rw [h2] at this; simp at this
theorem not_less_antisymm {a b : List UInt8} (h1 : lessL a b = false) (h2 : lessL b a = false) : a = b := by
  rcases lessL_total a b with h | h | h
  · rw [h1] at h; simp at h
  · exact h
  · rw [h2] at h; simp at h

theorem turnTo_least (l : List UInt8) : ∀ k i, i < k → lessL (rotL l i) (rotL l (turnTo l k)) = false := by
  intro k
  induction k with
  | zero => intro i h; omega
  | succ k ih =>
    intro i hi
    by_cases hl : lessL (rotL l k) (rotL l (turnTo l k)) = true
    · rw [turnTo_yes hl]
      by_cases e : i = k
      · rw [e, lessL_irrefl]
      · cases e2 : lessL (rotL l i) (rotL l k) with
        | false => rfl
        | true =>
          have := lessL_trans e2 hl
          rw [ih i (by omega)] at this; simp at this
    · have hl' : lessL (rotL l k) (rotL l (turnTo l k)) = false := by simpa using hl
      rw [turnTo_no hl']
      by_cases e : i = k
      · rw [e]; exact hl'
      · exact ih i (by omega)
theorem turnTo_lt {l : List UInt8} {k : Nat} (h : 1 ≤ k) : turnTo l k < k := by have := turnTo_le l k; omega

theorem rotL_len (l : List UInt8) (i : Nat) : (rotL l i).length = l.length := by unfold rotL; simp; omega
theorem rotL_get (l : List UInt8) (i j : Nat) (hi : i ≤ l.length) (hj : j < l.length) : (rotL l i)[j]? = l[(i + j) % l.length]? := by
  unfold rotL
  by_cases h : j < l.length - i
  · rw [List.getElem?_append_left (by rw [List.length_drop]; exact h), List.getElem?_drop, Nat.mod_eq_of_lt (by omega)]
  · rw [List.getElem?_append_right (by rw [List.length_drop]; omega), List.length_drop, List.getElem?_take, if_pos (by omega)]
    congr 1
    rw [Nat.mod_eq_sub_mod (by omega), Nat.mod_eq_of_lt (by omega)]; omega
theorem rot_rot (l : List UInt8) (i j : Nat) (h : 1 ≤ l.length) (hi : i ≤ l.length) (hj : j ≤ l.length) : rotL (rotL l i) j = rotL l ((i + j) % l.length) := by
  apply List.ext_getElem?
  intro t
  by_cases ht : t < l.length
  · have hm : (i + j) % l.length < l.length := Nat.mod_lt _ h
    rw [rotL_get _ _ _ (by rw [rotL_len]; exact hj) (by rw [rotL_len]; exact ht), rotL_len, rotL_get _ _ _ hi (Nat.mod_lt _ h), rotL_get _ _ _ (by omega) ht]
    congr 1
    rw [Nat.add_mod_mod, Nat.mod_add_mod]; congr 1; omega
  · rw [List.getElem?_eq_none (by rw [rotL_len, rotL_len]; omega), List.getElem?_eq_none (by rw [rotL_len]; omega)]
theorem rotL_zero (l : List UInt8) : rotL l 0 = l := by unfold rotL; simp

/-- A list that is least among its rotations. -/
def LeastRot (m : List UInt8) : Prop := ∀ i, i < m.length → lessL (rotL m i) m = false
theorem leastRot_turn {l : List UInt8} (h : 1 ≤ l.length) : LeastRot (rotL l (turnTo l l.length)) := by
  intro i hi
  rw [rotL_len] at hi
  have ht := turnTo_lt (l := l) h
  rw [rot_rot l _ _ h (by omega) (by omega)]
  exact turnTo_least l l.length _ (Nat.mod_lt _ h)
theorem turn_of_least {m : List UInt8} (h : LeastRot m) : ∀ k, k ≤ m.length → turnTo m k = 0 := by
  intro k
  induction k with
  | zero => intro _; rfl
  | succ k ih =>
    intro hk
    have := ih (by omega)
    rw [turnTo_no (by rw [this, rotL_zero]; exact h k (by omega)), this]
/-- All rotations have the same least one. -/
theorem least_same {l : List UInt8} {k : Nat} (h : 1 ≤ l.length) (hk : k ≤ l.length) :
    rotL (rotL l k) (turnTo (rotL l k) l.length) = rotL l (turnTo l l.length) := by
  have hlen := rotL_len l k
  have ht := turnTo_lt (l := l) h
  have ht2 := turnTo_lt (l := rotL l k) h
  apply not_less_antisymm
  · rw [rot_rot l k _ h hk (by omega)]
    exact turnTo_least l l.length _ (Nat.mod_lt _ h)
  · -- the least rotation of l is a rotation of rotL l k
    have hback : rotL l (turnTo l l.length) = rotL (rotL l k) ((turnTo l l.length + (l.length - k)) % l.length) := by
      rw [rot_rot l k _ h hk (by have := Nat.mod_lt (turnTo l l.length + (l.length - k)) h; omega), Nat.add_mod_mod]
      congr 1
      rw [show k + (turnTo l l.length + (l.length - k)) = turnTo l l.length + l.length from by omega, Nat.add_mod_right, Nat.mod_eq_of_lt ht]
    rw [hback]
    exact turnTo_least (rotL l k) l.length _ (Nat.mod_lt _ h)

/-- A lesser Lyndon word before a greater one makes less of it. -/
theorem less_before {u v : List UInt8} (hu : Lyn u) (hv : v ≠ []) (h : lessL v u = true) (x y : List UInt8) : lessL (v ++ (u ++ x)) (u ++ y) = true := by
  rw [lessL_iff] at h ⊢
  obtain ⟨t, ht, hx⟩ := h
  have hvl : 1 ≤ v.length := by rcases Nat.eq_zero_or_pos v.length with e | e; exact absurd (List.length_eq_zero_iff.1 e) hv; exact e
  rcases hx with ⟨a, b, h1, h2, h3⟩ | ⟨h1, b, h2⟩
  · have hl1 : t < v.length := (List.getElem?_eq_some_iff.1 h1).1
    have hl2 : t < u.length := (List.getElem?_eq_some_iff.1 h2).1
    refine ⟨t, fun j hj => ?_, .inl ⟨a, b, ?_, ?_, h3⟩⟩
    · rw [List.getElem?_append_left (by omega), List.getElem?_append_left (by omega)]; exact ht j hj
    · rw [List.getElem?_append_left hl1]; exact h1
    · rw [List.getElem?_append_left hl2]; exact h2
  · have hge : v.length ≤ t := List.getElem?_eq_none_iff.1 h1
    have hul : t < u.length := (List.getElem?_eq_some_iff.1 h2).1
    have hteq : t = v.length := by
      by_cases e : t = v.length
      · exact e
      · have := ht v.length (by omega)
        rw [List.getElem?_eq_none (Nat.le_refl _), List.getElem?_eq_getElem (by omega)] at this
        simp at this
    subst hteq
    obtain ⟨r, a, c, hr, heq, ha, hc, hac⟩ := hu.diff v.length hvl hul
    refine ⟨v.length + r, fun j hj => ?_, .inl ⟨a, c, ?_, ?_, hac⟩⟩
    · by_cases hjv : j < v.length
      · rw [List.getElem?_append_left hjv, List.getElem?_append_left (by omega)]; exact ht j hjv
      · rw [List.getElem?_append_right (by omega), List.getElem?_append_left (by omega), List.getElem?_append_left (by omega)]
        have := heq (j - v.length) (by omega)
        rw [this, show v.length + (j - v.length) = j from by omega]
    · rw [List.getElem?_append_right (by omega), show v.length + r - v.length = r from by omega, List.getElem?_append_left (by omega)]; exact ha
    · rw [List.getElem?_append_left hr]; exact hc

theorem chain_le (W : List (List UInt8)) (h : ∀ i, i + 1 < W.length → lessL (W.getD i []) (W.getD (i + 1) []) = false) : ∀ d i, i + d < W.length → lessL (W.getD i []) (W.getD (i + d) []) = false := by
  intro d
  induction d with
  | zero => intro i _; exact lessL_irrefl _
  | succ d ih => intro i hi; exact not_less_trans (ih i (by omega)) (h (i + d) (by omega))

/-- The words of a least rotation are all the same one. -/
theorem least_words {m : List UInt8} (h : LeastRot m) : ∀ i, i < (words m).length → (words m).getD i [] = (words m).getD 0 [] := by
  obtain ⟨hl, hf, hc⟩ := wordsF_all m.length m (Nat.le_refl _)
  rw [show wordsF m.length m = words m from rfl] at hl hf hc
  obtain ⟨W, hW⟩ : ∃ W, W = words m := ⟨_, rfl⟩
  rw [← hW] at hl hf hc ⊢
  have hch := chain_le W hc
  intro i hi
  have hlast : W.getD (W.length - 1) [] = W.getD 0 [] := by
    by_cases e : W.length = 1
    · rw [e]
    · have h0 := hch (W.length - 1) 0 (by omega)
      rw [Nat.zero_add] at h0
      rcases not_less h0 with h1 | h1
      · exact h1.symm
      · exfalso
        have hne : W ≠ [] := fun e0 => by rw [e0] at hi; simp at hi
        -- the rotation that begins with the last word
        have hsplit : W = W.getD 0 [] :: (W.drop 1).take (W.length - 2) ++ [W.getD (W.length - 1) []] := by
          apply List.ext_getElem?
          intro j
          rw [List.getElem?_append]
          simp only [List.length_cons, List.length_take, List.length_drop]
          rw [show min (W.length - 2) (W.length - 1) + 1 = W.length - 1 from by omega]
          by_cases hj : j < W.length - 1
          · rw [if_pos hj]
            cases j with
            | zero => simp [List.getD_eq_getElem?_getD, List.getElem?_eq_getElem (show 0 < W.length by omega)]
            | succ j => rw [List.getElem?_cons_succ, List.getElem?_take, if_pos (by omega), List.getElem?_drop, Nat.add_comm 1 j]
          · rw [if_neg hj]
            by_cases hj2 : j = W.length - 1
            · rw [hj2]; simp [List.getD_eq_getElem?_getD, List.getElem?_eq_getElem (show W.length - 1 < W.length by omega)]
            · rw [List.getElem?_eq_none (by omega), List.getElem?_eq_none (by simp; omega)]
        obtain ⟨u, hu⟩ : ∃ u, u = W.getD 0 [] := ⟨_, rfl⟩
        obtain ⟨v, hv⟩ : ∃ v, v = W.getD (W.length - 1) [] := ⟨_, rfl⟩
        obtain ⟨mid, hmid⟩ : ∃ mid, mid = (W.drop 1).take (W.length - 2) := ⟨_, rfl⟩
        rw [← hu, ← hv, ← hmid] at hsplit
        rw [← hu, ← hv] at h1
        have hum : u ∈ W := by rw [hsplit]; simp
        have hvm : v ∈ W := by rw [hsplit]; simp
        have huL := (lynB_iff _).1 (hl u hum)
        have hvL := (lynB_iff _).1 (hl v hvm)
        have hm : m = (u ++ mid.flatten) ++ v := by rw [← hf, hsplit]; simp
        have hvlen : 1 ≤ v.length := by rcases Nat.eq_zero_or_pos v.length with e0 | e0; exact absurd (List.length_eq_zero_iff.1 e0) hvL.1; exact e0
        have hrot : rotL m (u ++ mid.flatten).length = v ++ (u ++ mid.flatten) := by
          rw [hm]; unfold rotL
          rw [List.drop_left', List.take_left'] <;> rfl
        have := h (u ++ mid.flatten).length (by rw [hm]; simp only [List.length_append]; omega)
        rw [hrot, hm, List.append_assoc, less_before huL hvL.1 h1] at this
        simp at this
  have a1 := hch i 0 (by omega)
  have a2 := hch (W.length - 1 - i) i (by omega)
  rw [show i + (W.length - 1 - i) = W.length - 1 from by omega, hlast] at a2
  rw [Nat.zero_add] at a1
  exact not_less_antisymm a2 a1
end Go.Proofs.Ytbcoaiaocfommaa
