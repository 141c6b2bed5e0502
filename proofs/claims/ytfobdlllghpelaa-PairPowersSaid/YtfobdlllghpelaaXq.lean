import Derived.Test.YtfobdlllghpelaaXp
import Derived.Test.YtfobdlllghpelaaO
namespace Go.Proofs.Ytfobdlllghpelaa
open Go.RowKit Go.Shelf Pair

/-! The least falling rows of sets of columns, as O has the least sums. -/
def zeroF : List Int := List.replicate 8 0
def optF (cs : List (List Int)) (n k S : Nat) : List Int := opt lexI insF zeroF (costAt cs) n k S
def candF (cs : List (List Int)) (n F j : Nat) : List Int := insF (optF cs n (szS F - 1) (clr F j)) (costAt cs (n - szS F) j)
/-- The least of the first `k` columns' sums. -/
def offF (cs : List (List Int)) (n F k : Nat) : Option (List Int) := ((((bl F).take k).map (candF cs n F)).foldl (offer lexI) none)
theorem offF_succ {cs : List (List Int)} {n F k j : Nat} (h : (bl F)[k]? = some j) : offF cs n F (k + 1) = offer lexI (offF cs n F k) (candF cs n F j) := by
  unfold offF
  obtain ⟨hk, he⟩ := List.getElem?_eq_some_iff.1 h
  rw [List.take_succ_eq_append_getElem hk, List.map_append, List.foldl_append, he]; rfl
theorem offF_zero (cs : List (List Int)) (n F : Nat) : offF cs n F 0 = none := rfl
theorem offerF_some (b : Option (List Int)) (x : List Int) : (offer lexI b x).isSome = true := by
  cases b with
  | none => rfl
  | some y => simp only [offer]; split <;> rfl
theorem offF_some {cs : List (List Int)} {n F k j : Nat} (h : (bl F)[k]? = some j) : (offF cs n F (k + 1)).isSome = true := by rw [offF_succ h]; exact offerF_some _ _
theorem offF_pos {cs : List (List Int)} {n F k j : Nat} (h : (bl F)[k]? = some j) : (offF cs n F k).isSome = decide (0 < k) := by
  cases k with
  | zero => rfl
  | succ k =>
    obtain ⟨j', hj'⟩ : ∃ j', (bl F)[k]? = some j' := by
      have := (List.getElem?_eq_some_iff.1 h).1
      exact ⟨_, List.getElem?_eq_getElem (by omega)⟩
    rw [offF_some hj']; simp
theorem optF_all {cs : List (List Int)} {n F : Nat} (hn : n ≤ 8) (hF : F < 2 ^ n) (h0 : 0 < szS F) : (offF cs n F (bl F).length).getD zeroF = optF cs n (szS F) F := by
  obtain ⟨k, hk⟩ : ∃ k, szS F = k + 1 := ⟨szS F - 1, by omega⟩
  unfold offF optF
  rw [List.take_length, hk, opt]
  have e : bl F = (List.range n).filter fun j => F.testBit j := by
    unfold bl
    exact filter_low hn (fun _ _ => rfl) (fun j h _ => low_bit hF h)
  rw [e]
  congr 2
  refine List.map_congr_left fun j _ => ?_
  unfold candF optF
  rw [hk]; rfl
theorem foldl_offerF_mem : ∀ (l : List (List Int)) (b : Option (List Int)) (r : List Int), l.foldl (offer lexI) b = some r → b = some r ∨ r ∈ l
  | [], b, r, h => Or.inl h
  | x :: l, b, r, h => by
    rw [List.foldl_cons] at h
    rcases foldl_offerF_mem l _ r h with h | h
    · cases b with
      | none => simp only [offer, Option.some.injEq] at h; right; simp [h]
      | some y =>
        simp only [offer] at h
        split at h
        · simp only [Option.some.injEq] at h; right; simp [h]
        · exact Or.inl h
    · right; simp [h]
def optTF (cs : List (List Int)) (n F : Nat) : List (List Int) := (List.range (2 ^ n)).map fun S => if S < F then optF cs n (szS S) S else zeroF
theorem optTF_len (cs : List (List Int)) (n F : Nat) : (optTF cs n F).length = 2 ^ n := by simp [optTF]
theorem optTF_at (cs : List (List Int)) (n F S : Nat) (h : S < F) (hS : S < 2 ^ n) : (optTF cs n F).getD S zeroF = optF cs n (szS S) S := by
  simp [optTF, List.getD_eq_getElem?_getD, hS, h]
theorem optTF_one (cs : List (List Int)) (n : Nat) : List.replicate (2 ^ n) zeroF = optTF cs n 1 := by
  refine List.ext_getElem (by simp [optTF]) fun i h1 h2 => ?_
  simp only [optTF, List.getElem_map, List.getElem_range, List.getElem_replicate]
  by_cases e : i < 1
  · obtain rfl : i = 0 := by omega
    simp [show szS 0 = 0 by decide, optF, opt]
  · rw [if_neg e]
theorem optTF_next (cs : List (List Int)) (n F : Nat) : (optTF cs n F).set F (optF cs n (szS F) F) = optTF cs n (F + 1) := by
  refine List.ext_getElem (by simp [optTF]) fun i h1 h2 => ?_
  rw [List.getElem_set]
  simp only [optTF, List.getElem_map, List.getElem_range]
  by_cases e : F = i
  · subst e; simp
  · rw [if_neg e]
    by_cases e2 : i < F
    · rw [if_pos e2, if_pos (by omega)]
    · rw [if_neg e2, if_neg (by omega)]
theorem optTF_same (cs : List (List Int)) (n F : Nat) : (optTF cs n F).set F zeroF = optTF cs n F := by
  refine List.ext_getElem (by simp) fun i h1 h2 => ?_
  rw [List.getElem_set]
  by_cases e : F = i
  · subst e; simp [optTF]
  · rw [if_neg e]
theorem optTF_full (cs : List (List Int)) {n S : Nat} (hS : S < 2 ^ n) : (optTF cs n (2 ^ n)).getD S zeroF = optF cs n (szS S) S := optTF_at cs n (2 ^ n) S hS hS
/-- A least row is a measure of as many costs. -/
theorem optF_D {cs : List (List Int)} {n : Nat} (hn8 : n ≤ 8) (hc : ∀ i j, i < n → j < n → 0 ≤ costAt cs i j) : ∀ (k S : Nat), k ≤ n → ∃ m, m ≤ k ∧ DF m (optF cs n k S)
  | 0, _, _ => ⟨0, Nat.le_refl _, (measF hn8 hc).zero⟩
  | k + 1, S, hk => by
    unfold optF
    rw [opt]
    cases e : (((List.range n).filter fun j => S.testBit j).map fun j => insF (opt lexI insF zeroF (costAt cs) n k (clr S j)) (costAt cs (n - (k + 1)) j)).foldl (offer lexI) none with
    | none => exact ⟨0, by omega, (measF hn8 hc).zero⟩
    | some r =>
      rcases foldl_offerF_mem _ _ _ e with h | h
      · simp at h
      · simp only [List.mem_map, List.mem_filter, List.mem_range] at h
        obtain ⟨j, ⟨hj, _⟩, rfl⟩ := h
        obtain ⟨m, hm, hD⟩ := optF_D hn8 hc k (clr S j) (by omega)
        exact ⟨m + 1, by omega, (measF hn8 hc).step m _ _ _ (by omega) (by omega) hj hD⟩
theorem optF_len {cs : List (List Int)} {n : Nat} (hn8 : n ≤ 8) (hc : ∀ i j, i < n → j < n → 0 ≤ costAt cs i j) (k S : Nat) (hk : k ≤ n) : (optF cs n k S).length = 8 := by
  obtain ⟨_, _, h⟩ := optF_D hn8 hc k S hk
  exact h.1
end Go.Proofs.Ytfobdlllghpelaa
