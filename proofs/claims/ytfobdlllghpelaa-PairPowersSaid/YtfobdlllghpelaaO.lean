import Derived.Test.YtfobdlllghpelaaN
namespace Go.Proofs.Ytfobdlllghpelaa
open Go.RowKit Go.Shelf Pair

/-! ## The least sum, set by set -/
def ltI (a b : Int) : Bool := decide (a < b)
def optI (cs : List (List Int)) (n k S : Nat) : Int := opt ltI (· + ·) 0 (costAt cs) n k S
theorem measI (cs : List (List Int)) (n : Nat) : Meas ltI (· + ·) 0 (costAt cs) n (fun _ _ => True) where
  zero := trivial
  step _ _ _ _ _ _ _ _ := trivial
  tri _ a b _ _ := by unfold ltI; simp only [decide_eq_true_eq]; omega
  asymm a b h := by unfold ltI at h ⊢; simp only [decide_eq_true_eq, decide_eq_false_iff_not] at h ⊢; omega
  trans a b d h1 h2 := by unfold ltI at *; simp only [decide_eq_true_eq] at *; omega
  mono _ a b i j _ _ _ _ _ h := by unfold ltI at *; simp only [decide_eq_true_eq] at *; omega

/-- One column's sum. -/
def candI (cs : List (List Int)) (n F j : Nat) : Int := optI cs n (szS F - 1) (clr F j) + costAt cs (n - szS F) j
/-- The least of the first `k` columns' sums. -/
def offI (cs : List (List Int)) (n F k : Nat) : Option Int := ((((bl F).take k).map (candI cs n F)).foldl (offer ltI) none)
theorem offI_succ {cs : List (List Int)} {n F k j : Nat} (h : (bl F)[k]? = some j) : offI cs n F (k + 1) = offer ltI (offI cs n F k) (candI cs n F j) := by
  unfold offI
  obtain ⟨hk, he⟩ := List.getElem?_eq_some_iff.1 h
  rw [List.take_succ_eq_append_getElem hk, List.map_append, List.foldl_append, he]; rfl
theorem offI_zero (cs : List (List Int)) (n F : Nat) : offI cs n F 0 = none := rfl
theorem offer_some (b : Option Int) (x : Int) : (offer ltI b x).isSome = true := by
  cases b with
  | none => rfl
  | some y => simp only [offer]; split <;> rfl
theorem offI_some {cs : List (List Int)} {n F k j : Nat} (h : (bl F)[k]? = some j) : (offI cs n F (k + 1)).isSome = true := by rw [offI_succ h]; exact offer_some _ _
theorem offI_pos {cs : List (List Int)} {n F k j : Nat} (h : (bl F)[k]? = some j) : (offI cs n F k).isSome = decide (0 < k) := by
  cases k with
  | zero => rfl
  | succ k =>
    obtain ⟨j', hj'⟩ : ∃ j', (bl F)[k]? = some j' := by
      have := (List.getElem?_eq_some_iff.1 h).1
      exact ⟨_, List.getElem?_eq_getElem (by omega)⟩
    rw [offI_some hj']; simp
theorem opt_all {cs : List (List Int)} {n F : Nat} (hn : n ≤ 8) (hF : F < 2 ^ n) (h0 : 0 < szS F) : (offI cs n F (bl F).length).getD 0 = optI cs n (szS F) F := by
  obtain ⟨k, hk⟩ : ∃ k, szS F = k + 1 := ⟨szS F - 1, by omega⟩
  unfold offI optI
  rw [List.take_length, hk, opt]
  have e : bl F = (List.range n).filter fun j => F.testBit j := by
    unfold bl
    exact filter_low hn (fun _ _ => rfl) (fun j h _ => low_bit hF h)
  rw [e]
  congr 2
  refine List.map_congr_left fun j _ => ?_
  unfold candI optI
  rw [hk]; rfl
theorem foldl_offer_mem : ∀ (l : List Int) (b : Option Int) (r : Int), l.foldl (offer ltI) b = some r → b = some r ∨ r ∈ l
  | [], b, r, h => Or.inl h
  | x :: l, b, r, h => by
    rw [List.foldl_cons] at h
    rcases foldl_offer_mem l _ r h with h | h
    · cases b with
      | none => simp only [offer, Option.some.injEq] at h; right; simp [h]
      | some y =>
        simp only [offer] at h
        split at h
        · simp only [Option.some.injEq] at h; right; simp [h]
        · exact Or.inl h
    · right; simp [h]
theorem optI_bd {cs : List (List Int)} {n : Nat} (hc : ∀ i j, i < n → j < n → 0 ≤ costAt cs i j ∧ costAt cs i j ≤ 1000) : ∀ (k S : Nat), k ≤ n → 0 ≤ optI cs n k S ∧ optI cs n k S ≤ 1000 * (k : Int)
  | 0, _, _ => by simp [optI, opt]
  | k + 1, S, hk => by
    unfold optI
    rw [opt]
    cases e : ((((List.range n).filter fun j => S.testBit j).map fun j => opt ltI (· + ·) 0 (costAt cs) n k (clr S j) + costAt cs (n - (k + 1)) j).foldl (offer ltI) none) with
    | none => simp; omega
    | some r =>
      rcases foldl_offer_mem _ _ _ e with h | h
      · simp at h
      · obtain ⟨j, hj, rfl⟩ := List.mem_map.1 h
        have hj := List.mem_range.1 (List.mem_filter.1 hj).1
        have h1 := optI_bd hc k (clr S j) (by omega)
        have h2 := hc (n - (k + 1)) j (by omega) hj
        unfold optI at h1
        simp only [Option.getD_some]
        omega
theorem candI_bd {cs : List (List Int)} {n F j : Nat} (hc : ∀ i j, i < n → j < n → 0 ≤ costAt cs i j ∧ costAt cs i j ≤ 1000) (hn : szS F ≤ n) (h0 : 0 < szS F) (hj : j < n) : 0 ≤ candI cs n F j ∧ candI cs n F j ≤ 1000 * (n : Int) := by
  have h1 := optI_bd hc (szS F - 1) (clr F j) (by omega)
  have h2 := hc (n - szS F) j (by omega) hj
  unfold candI
  omega
theorem offI_bd {cs : List (List Int)} {n F : Nat} (hc : ∀ i j, i < n → j < n → 0 ≤ costAt cs i j ∧ costAt cs i j ≤ 1000) (hn : szS F ≤ n) (h0 : 0 < szS F) (hb : ∀ j ∈ bl F, j < n) (k : Nat) : 0 ≤ (offI cs n F k).getD 0 ∧ (offI cs n F k).getD 0 ≤ 1000 * (n : Int) := by
  cases e : offI cs n F k with
  | none => simp; omega
  | some r =>
    unfold offI at e
    rcases foldl_offer_mem _ _ _ e with h | h
    · simp at h
    · obtain ⟨j, hj, rfl⟩ := List.mem_map.1 h
      exact candI_bd hc hn h0 (hb j (List.mem_of_mem_take hj))

/-- The table while it is filled. -/
def optT (cs : List (List Int)) (n F : Nat) : List Int := (List.range (2 ^ n)).map fun S => if S < F then optI cs n (szS S) S else 0
theorem optT_len (cs : List (List Int)) (n F : Nat) : (optT cs n F).length = 2 ^ n := by simp [optT]
theorem optT_at (cs : List (List Int)) (n F S : Nat) (h : S < F) (hS : S < 2 ^ n) : (optT cs n F).getD S 0 = optI cs n (szS S) S := by
  simp [optT, List.getD_eq_getElem?_getD, hS, h]
theorem optT_one (cs : List (List Int)) (n : Nat) : List.replicate (2 ^ n) (0 : Int) = optT cs n 1 := by
  refine List.ext_getElem (by simp [optT]) fun i h1 h2 => ?_
  simp only [optT, List.getElem_map, List.getElem_range, List.getElem_replicate]
  by_cases e : i < 1
  · obtain rfl : i = 0 := by omega
    simp [show szS 0 = 0 by decide, optI, opt]
  · rw [if_neg e]
theorem optT_next (cs : List (List Int)) (n F : Nat) : (optT cs n F).set F (optI cs n (szS F) F) = optT cs n (F + 1) := by
  refine List.ext_getElem (by simp [optT]) fun i h1 h2 => ?_
  rw [List.getElem_set]
  simp only [optT, List.getElem_map, List.getElem_range]
  by_cases e : F = i
  · subst e; simp
  · rw [if_neg e]
    by_cases e2 : i < F
    · rw [if_pos e2, if_pos (by omega)]
    · rw [if_neg e2, if_neg (by omega)]
theorem optT_same (cs : List (List Int)) (n F : Nat) : (optT cs n F).set F 0 = optT cs n F := by
  refine List.ext_getElem (by simp) fun i h1 h2 => ?_
  rw [List.getElem_set]
  by_cases e : F = i
  · subst e; simp [optT]
  · rw [if_neg e]
theorem optT_full (cs : List (List Int)) {n S : Nat} (hS : S < 2 ^ n) : (optT cs n (2 ^ n)).getD S 0 = optI cs n (szS S) S := optT_at cs n (2 ^ n) S hS hS

/-! ## Comparing -/
def cmpI (a b : Int) : Int := if a < b then -1 else if b < a then 1 else 0
set_option maxRecDepth 100000 in
theorem nan83 {w : World} (a : Int) : Calls Try.prog 83 #[.int .i64 a] w fun e w' => e = .returned (.bool false) ∧ w = w' := by
  go_enter Try.func83, Try.ntmps83
  go_wp2
  go_ret
  exact ⟨by simp, rfl⟩
set_option maxRecDepth 100000 in
theorem cmp61 {w : World} (a b : Int) : Calls Try.prog 61 #[.int .i64 a, .int .i64 b] w fun e w' => e = .returned (.int .i64 (cmpI a b)) ∧ w = w' := by
  have hn := Lib.hid (fun (w : World) (a : Int) => nan83 (w := w) a)
  by_cases h1 : a < b
  · have hf := Lib.hid (show cmpI a b = -1 by unfold cmpI; rw [if_pos h1])
    go_enter Try.func61, Try.ntmps61
    go_wp2_with (first | (go_at_call 83; refine (hn.out _ _).mono ?_; rintro e w1 ⟨rfl, rfl⟩))
    go_ret
    exact ⟨ret_i hf.out.symm, rfl⟩
  · by_cases h2 : b < a
    · have hf := Lib.hid (show cmpI a b = 1 by unfold cmpI; rw [if_neg h1, if_pos h2])
      go_enter Try.func61, Try.ntmps61
      go_wp2_with (first | (go_at_call 83; refine (hn.out _ _).mono ?_; rintro e w1 ⟨rfl, rfl⟩))
      go_ret
      exact ⟨ret_i hf.out.symm, rfl⟩
    · have hf := Lib.hid (show cmpI a b = 0 by unfold cmpI; rw [if_neg h1, if_neg h2])
      have h3 : decide (a < b) = false := by simpa using h1
      have h4 : decide (b < a) = false := by simpa using h2
      go_enter Try.func61, Try.ntmps61
      go_wp2_with (first | (go_at_call 83; refine (hn.out _ _).mono ?_; rintro e w1 ⟨rfl, rfl⟩))
      go_ret
      exact ⟨ret_i hf.out.symm, rfl⟩
set_option maxRecDepth 100000 in
theorem add60 {w : World} (a b : Int) (h : -1000000000 ≤ a ∧ a ≤ 1000000000 ∧ -1000000000 ≤ b ∧ b ≤ 1000000000) : Calls Try.prog 60 #[.int .i64 a, .int .i64 b] w fun e w' => e = .returned (.int .i64 (a + b)) ∧ w = w' := by
  obtain ⟨h1, h2, h3, h4⟩ := h
  go_enter Try.func60, Try.ntmps60
  go_wp2
  go_ret
  exact ⟨rfl, rfl⟩
end Go.Proofs.Ytfobdlllghpelaa
