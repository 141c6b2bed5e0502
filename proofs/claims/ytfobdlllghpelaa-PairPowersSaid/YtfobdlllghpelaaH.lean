import Derived.Test.YtfobdlllghpelaaG
namespace Go.Proofs.Ytfobdlllghpelaa
open Go.RowKit Go.Shelf Pair

/-! ## How many ways: the table -/
theorem sum_filter (p : Nat → Bool) (f : Nat → Nat) : ∀ l : List Nat, (l.map fun j => if p j then f j else 0).sum = ((l.filter p).map f).sum
  | [] => rfl
  | a :: l => by
    rw [List.map_cons, List.sum_cons, sum_filter p f l, List.filter_cons]
    by_cases h : p a = true
    · rw [if_pos h, if_pos h, List.map_cons, List.sum_cons]
    · rw [if_neg h, if_neg h, Nat.zero_add]
theorem filter_low {n m : Nat} (hnm : n ≤ m) {p q : Nat → Bool} (h1 : ∀ j, j < n → p j = q j) (h2 : ∀ j, n ≤ j → j < m → p j = false) : (List.range m).filter p = (List.range n).filter q := by
  induction m with
  | zero => obtain rfl : n = 0 := by omega
            rfl
  | succ m ih =>
    by_cases e : n = m + 1
    · subst e
      refine List.filter_congr fun x hx => h1 x (List.mem_range.1 hx)
    · rw [List.range_succ, List.filter_append, ih (by omega) (fun j a b => h2 j a (by omega))]
      simp [h2 m (by omega) (by omega)]
theorem low_bit {S n j : Nat} (hS : S < 2 ^ n) (hj : n ≤ j) : S.testBit j = false := Nat.testBit_lt_two_pow (Nat.lt_of_lt_of_le hS (Nat.pow_le_pow_right (by decide) hj))
theorem szS_sz {S n : Nat} (hS : S < 2 ^ n) (hn : n ≤ 8) : szS S = sz n S := by
  unfold szS sz
  rw [filter_low hn (q := fun j => S.testBit j) (fun _ _ => rfl) (fun j h _ => low_bit hS h)]
theorem sz_le (n S : Nat) : sz n S ≤ n := by
  unfold sz
  have := List.length_filter_le (fun j => S.testBit j) (List.range n)
  simpa using this
theorem szS_zero : ∀ S : Nat, S < 256 → (szS S = 0 ↔ S = 0) := by decide +kernel
theorem szS_clr : ∀ S : Nat, S < 256 → ∀ j : Nat, j < 8 → S.testBit j = true → szS (clr S j) + 1 = szS S ∧ clr S j < S := by decide +kernel
theorem szS_full : ∀ n : Nat, n ≤ 8 → szS (2 ^ n - 1) = n := by decide +kernel
theorem bl_mem {S j k : Nat} (h : (bl S)[k]? = some j) : j < 8 ∧ S.testBit j = true := by
  have := List.mem_of_getElem? h
  unfold bl at this
  rw [List.mem_filter, List.mem_range] at this
  exact this

/-- The sum of the ways of the first `k` columns of a list. -/
def preS (ok : Nat → Nat → Bool) (n F : Nat) (l : List Nat) (k : Nat) : Nat := ((l.take k).map fun j => cw ok n (szS F - 1) (clr F j)).sum
theorem preS_succ (ok : Nat → Nat → Bool) (n F : Nat) (l : List Nat) (k j : Nat) (h : l[k]? = some j) : preS ok n F l (k + 1) = preS ok n F l k + cw ok n (szS F - 1) (clr F j) := by
  unfold preS
  obtain ⟨hk, he⟩ := List.getElem?_eq_some_iff.1 h
  rw [List.take_succ_eq_append_getElem hk, List.map_append, List.sum_append, he]
  simp
theorem preS_all {ok : Nat → Nat → Bool} {n F C : Nat} (hn : n ≤ 8) (h0 : 0 < szS F) (hC : ∀ j, C.testBit j = (F.testBit j && (decide (j < n) && ok (n - szS F) j))) :
    preS ok n F (bl C) (bl C).length = cw ok n (szS F) F := by
  unfold preS
  rw [List.take_length]
  obtain ⟨k, hk⟩ : ∃ k, szS F = k + 1 := ⟨szS F - 1, by omega⟩
  rw [hk, cw]
  rw [sum_filter (fun j => F.testBit j && ok (n - (k + 1)) j)]
  have : bl C = (List.range n).filter fun j => F.testBit j && ok (n - (k + 1)) j := by
    unfold bl
    refine filter_low hn (fun j hj => ?_) (fun j hj _ => ?_)
    · rw [hC, hk]; simp [hj]
    · rw [hC]; simp; omega
  rw [this]; rfl
theorem preS_bd (ok : Nat → Nat → Bool) {n : Nat} (hn : n ≤ 8) (F C k : Nat) : preS ok n F (bl C) k ≤ 134217728 := by
  unfold preS
  have h1 : ∀ j, cw ok n (szS F - 1) (clr F j) ≤ 16777216 := fun j => by
    have hs : szS F - 1 ≤ 8 := by have := List.length_filter_le (fun j => F.testBit j) (List.range 8); unfold szS; simp at this; omega
    refine Nat.le_trans (cw_bd ok n _ _) ?_
    have h2 : n ^ (szS F - 1) ≤ 8 ^ (szS F - 1) := Nat.pow_le_pow_left hn _
    have h3 : 8 ^ (szS F - 1) ≤ 8 ^ 8 := Nat.pow_le_pow_right (by decide) hs
    have h4 : 8 ^ 8 = 16777216 := by decide
    omega
  have h2 : ((bl C).take k).length ≤ 8 := by
    have := List.length_filter_le (fun j => C.testBit j) (List.range 8)
    rw [List.length_take]; unfold bl; simp at this; omega
  have := sum_le_mul (fun j => cw ok n (szS F - 1) (clr F j)) 16777216 ((bl C).take k) (fun j _ => h1 j)
  have h5 : ((bl C).take k).length * 16777216 ≤ 8 * 16777216 := Nat.mul_le_mul_right _ h2
  omega
theorem cw_bd8 (ok : Nat → Nat → Bool) {n k : Nat} (hn : n ≤ 8) (hk : k ≤ 8) (S : Nat) : cw ok n k S ≤ 16777216 := by
  refine Nat.le_trans (cw_bd ok n _ _) ?_
  have h2 : n ^ k ≤ 8 ^ k := Nat.pow_le_pow_left hn _
  have h3 : 8 ^ k ≤ 8 ^ 8 := Nat.pow_le_pow_right (by decide) hk
  have h4 : 8 ^ 8 = 16777216 := by decide
  omega

/-- The table while it is filled: the sets below `F`. -/
def cwT (ok : Nat → Nat → Bool) (n F : Nat) : List Int := (List.range (2 ^ n)).map fun S => if S < F then ((cw ok n (szS S) S : Nat) : Int) else 0
theorem cwT_len (ok : Nat → Nat → Bool) (n F : Nat) : (cwT ok n F).length = 2 ^ n := by simp [cwT]
theorem cwT_at (ok : Nat → Nat → Bool) (n F S : Nat) (h : S < F) (hS : S < 2 ^ n) : (cwT ok n F).getD S 0 = ((cw ok n (szS S) S : Nat) : Int) := by
  simp [cwT, List.getD_eq_getElem?_getD, hS, h]
theorem cwT_zero (ok : Nat → Nat → Bool) (n F : Nat) : (cwT ok n F).getD F 0 = 0 := by
  by_cases h : F < 2 ^ n <;> simp [cwT, List.getD_eq_getElem?_getD, h]
theorem cwT_one (ok : Nat → Nat → Bool) (n : Nat) : (List.replicate (2 ^ n) (0 : Int)).set 0 1 = cwT ok n 1 := by
  refine List.ext_getElem (by simp [cwT]) fun i h1 h2 => ?_
  rw [List.getElem_set]
  simp only [cwT, List.getElem_map, List.getElem_range, List.getElem_replicate]
  by_cases e : 0 = i
  · subst e; simp [show szS 0 = 0 by decide, cw]
  · rw [if_neg e, if_neg (by omega)]
theorem cwT_next (ok : Nat → Nat → Bool) (n F : Nat) : (cwT ok n F).set F ((cw ok n (szS F) F : Nat) : Int) = cwT ok n (F + 1) := by
  refine List.ext_getElem (by simp [cwT]) fun i h1 h2 => ?_
  rw [List.getElem_set]
  simp only [cwT, List.getElem_map, List.getElem_range]
  by_cases e : F = i
  · subst e; simp
  · rw [if_neg e]
    by_cases e2 : i < F
    · rw [if_pos e2, if_pos (by omega)]
    · rw [if_neg e2, if_neg (by omega)]
theorem and_tab {S T : Nat} (hS : S < 256) (hT : T < 256) : bits BinOp.and IntKind.u64 (S : Int) (T : Int) = ((S &&& T : Nat) : Int) := by
  have h1 : S &&& T < 256 := Nat.lt_of_le_of_lt Nat.and_le_left hS
  have e : (BitVec.ofInt 64 (S : Int) &&& BitVec.ofInt 64 (T : Int)).toNat = S &&& T := by
    rw [BitVec.toNat_and]
    simp only [BitVec.toNat_ofInt]
    congr 1 <;> omega
  show IntKind.u64.wrap ((BitVec.ofInt 64 (S : Int) &&& BitVec.ofInt 64 (T : Int)).toNat : Int) = _
  rw [e]
  exact IntWalk.u64_in _ (by omega)
end Go.Proofs.Ytfobdlllghpelaa
