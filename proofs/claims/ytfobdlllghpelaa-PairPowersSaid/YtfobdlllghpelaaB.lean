import Derived.Test.YtfobdlllghpelaaA
import Derived.Test.YtfobdlllghpelaaMathP
import Derived.Test.YtfobdlllghpelaaShA
namespace Go.Proofs.Ytfobdlllghpelaa
open Go.RowKit Pair

theorem has_tab : ∀ S : Nat, S < 256 → ∀ j : Nat, j < 8 → (bits BinOp.and IntKind.u64 ((S : Int) / 2 ^ min j 64) 1 == 1) = S.testBit j := by decide +kernel
theorem clr_tab : ∀ S : Nat, S < 256 → ∀ j : Nat, j < 8 → bits BinOp.andNot IntKind.u64 (S : Int) (IntKind.u64.wrap (2 ^ j)) = (clr S j : Int) := by decide +kernel
theorem fst_tab : ∀ n, n ≤ 8 → IntKind.u64.wrap (IntKind.u64.wrap (2 ^ n) - 1) = ((2 ^ n - 1 : Nat) : Int) := by decide +kernel
theorem far_bit {S j : Nat} (hS : S < 256) (hj : 8 ≤ j) : S.testBit j = false := Nat.testBit_lt_two_pow (Nat.lt_of_lt_of_le hS (show 256 ≤ 2 ^ j from Nat.pow_le_pow_right (n := 2) (by decide) hj))

theorem has87 {w : World} {S j : Nat} (hS : S < 256) : Calls Try.prog 87 #[.int .u64 (S : Int), .int .i64 (j : Int)] w fun e w' => e = .returned (.bool (S.testBit j)) ∧ w = w' := by
  have h1 : (S : Int) < 256 := by omega
  have key : (bits BinOp.and IntKind.u64 ((S : Int) / 2 ^ min j 64) 1 == 1) = S.testBit j := by
    by_cases h : j < 8
    · exact has_tab S hS j h
    · rw [far_bit hS (by omega)]
      have h2 : S / 2 ^ min j 64 = 0 := Nat.div_eq_of_lt (Nat.lt_of_lt_of_le hS (show 2 ^ 8 ≤ 2 ^ min j 64 from Nat.pow_le_pow_right (by decide) (by omega)))
      have h3 : (S : Int) / 2 ^ min j 64 = ((S / 2 ^ min j 64 : Nat) : Int) := by rw [Int.natCast_ediv, Int.natCast_pow]; rfl
      rw [h3, h2]
      decide +kernel
  have key' := Lib.hid key
  clear key
  go_enter Try.func87, Try.ntmps87
  go_wp2
  go_ret
  exact ⟨ret_b key'.out, rfl⟩
theorem without79 {w : World} {S j : Nat} (hS : S < 256) (hj : j < 8) : Calls Try.prog 79 #[.int .u64 (S : Int), .int .i64 (j : Int)] w fun e w' => e = .returned (.int .u64 (clr S j : Int)) ∧ w = w' := by
  have h1 : (S : Int) < 256 := by omega
  have key := Lib.hid (clr_tab S hS j hj)
  go_enter Try.func79, Try.ntmps79
  go_wp2
  go_ret
  exact ⟨ret_i key.out, rfl⟩
theorem first67 {w : World} {n : Nat} (hn : n ≤ 8) : Calls Try.prog 67 #[.int .i64 (n : Int)] w fun e w' => e = .returned (.int .u64 ((2 ^ n - 1 : Nat) : Int)) ∧ w = w' := by
  have key := Lib.hid (fst_tab n hn)
  go_enter Try.func67, Try.ntmps67
  go_wp2
  go_ret
  exact ⟨ret_i key.out, rfl⟩

/-- How many numbers there are in the set. -/
def szS (S : Nat) : Nat := ((List.range 8).filter fun j => S.testBit j).length
theorem size90 {w : World} {S : Nat} (hS : S < 256) : Calls Try.prog 90 #[.int .u64 (S : Int)] w fun e w' => e = .returned (.int .i64 (szS S)) ∧ w = w' := by
  go_enter Try.func90, Try.ntmps90
  go_wp2
  go_ret
  refine ⟨ret_i ?_, rfl⟩
  revert S
  decide +kernel
theorem size84 {w : World} {S : Nat} (hS : S < 256) : Calls Try.prog 84 #[.int .u64 (S : Int)] w fun e w' => e = .returned (.int .i64 (szS S)) ∧ w = w' := by
  go_enter Try.func84, Try.ntmps84
  go_wp2_with (first | (go_at_call 90; refine (size90 hS).mono ?_; rintro e w1 ⟨rfl, rfl⟩))
  go_ret
  exact ⟨rfl, rfl⟩
theorem size64 {w : World} {S : Nat} (hS : S < 256) : Calls Try.prog 64 #[.int .u64 (S : Int)] w fun e w' => e = .returned (.int .i64 (szS S)) ∧ w = w' := by
  go_enter Try.func64, Try.ntmps64
  go_wp2_with (first | (go_at_call 84; refine (size84 hS).mono ?_; rintro e w1 ⟨rfl, rfl⟩))
  go_ret
  exact ⟨rfl, rfl⟩

def lnS (S : Nat) : Nat := if S = 0 then 0 else Nat.log2 S + 1
theorem lnS_le : ∀ S : Nat, S < 256 → lnS S ≤ 8 := by decide +kernel
theorem bl_ln : ∀ S : Nat, S < 256 → (List.range (lnS S)).filter (fun j => S.testBit j) = (List.range 8).filter (fun j => S.testBit j) := by decide +kernel

theorem ln_len : ∀ S : Nat, S < 256 → Lib.bitLen S = lnS S := by decide +kernel
theorem len88 {w : World} {S : Nat} (hS : S < 256) : Calls Try.prog 88 #[.int .u64 (S : Int)] w fun e w' => e = .returned (.int .i64 (lnS S)) ∧ w = w' := by
  refine (Go.Proofs.Try.bits_Len (S : Int) w (by omega) (by omega)).mono ?_
  rintro e w' ⟨rfl, rfl⟩
  exact ⟨by rw [Int.toNat_natCast, ln_len S hS], rfl⟩
end Go.Proofs.Ytfobdlllghpelaa
