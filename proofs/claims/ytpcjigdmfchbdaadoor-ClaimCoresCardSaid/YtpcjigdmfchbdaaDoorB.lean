import Derived.Test.YtpcjigdmfchbdaaDoorA
import Derived.Test.YtpcjigdmfchbdaaDoorM
import Derived.Laws.Bits64b
import Derived.Lib.TrailingZeros
import Derived.RangeFuncNested
import Derived.RangeFuncBound
import Derived.RangeFuncCalls
import Derived.RangeFuncLeaves
import Derived.Shelf.Abstract
import Derived.Shelf.RegionOpen
import Derived.OwnWalkIn
import Derived.TacticsInMore
import Derived.LoopNIn
import Derived.LoopIn
namespace Go.Proofs.YtpcjigdmfchbdaaDoor
open Go.RowKit Go.Shelf Cl
attribute [local go_sem] Oper.semAt_some

/-- The library's table lies in its variable. -/
def Tab (w : World) : Prop := 1 < w.heap.size ∧ ∀ j, j < 64 → w.cell? ⟨1, j, none⟩ = some (.int .u8 (Lib.deBruijn64tab.getD j 0))
theorem Tab.below {w w' : World} {B : Nat} (h : Tab w) (hb : Below B w w') (hB : 1 < B) : Tab w' :=
  ⟨Nat.lt_of_lt_of_le h.1 hb.size, fun j hj => (hb.cell (p := ⟨1, j, none⟩) hB).trans (h.2 j hj)⟩
theorem Tab.call {w w' : World} (h : Tab w) (hb : Below w.heap.size w w') : Tab w' := h.below hb h.1

/-- The least number of a set that isn't empty. -/
def low (S : Nat) : Nat := ((List.range 12).find? fun j => S.testBit j).getD 0
theorem low_tab' : ∀ a : Nat, a < 64 → ∀ b : Nat, b < 64 → 64 * a + b ≠ 0 → (((64 * a + b) &&& (18446744073709551616 - (64 * a + b))) * 285870213051353865 % 18446744073709551616 / 288230376151711744 < 64 ∧ Lib.deBruijn64tab.getD (((64 * a + b) &&& (18446744073709551616 - (64 * a + b))) * 285870213051353865 % 18446744073709551616 / 288230376151711744) 0 = low (64 * a + b)) := by decide +kernel
theorem low_tab (S : Nat) (hS : S < 4096) (h0 : S ≠ 0) {c : Nat} (hc : S &&& (18446744073709551616 - S) = c) : c * 285870213051353865 % 18446744073709551616 / 288230376151711744 < 64 ∧ Lib.deBruijn64tab.getD (c * 285870213051353865 % 18446744073709551616 / 288230376151711744) 0 = low S := by
  subst hc
  have := low_tab' (S / 64) (by omega) (S % 64) (by omega)
  rw [Nat.div_add_mod] at this
  exact this h0
theorem bl_tab' : ∀ a : Nat, a < 64 → ∀ b : Nat, b < 64 → 64 * a + b ≠ 0 → bl (64 * a + b) = low (64 * a + b) :: bl ((64 * a + b) &&& ((64 * a + b) - 1)) ∧ low (64 * a + b) < 12 := by decide +kernel
theorem bl_tab (S : Nat) (hS : S < 4096) (h0 : S ≠ 0) : bl S = low S :: bl (S &&& (S - 1)) ∧ low S < 12 := by
  have := bl_tab' (S / 64) (by omega) (S % 64) (by omega)
  rw [Nat.div_add_mod] at this
  exact this h0
theorem tz_key (x c : Nat) (hx : x < 18446744073709551616) (hx0 : x ≠ 0) (hc : x &&& (18446744073709551616 - x) = c) :
    IntKind.u64.wrap (bits BinOp.and IntKind.u64 (x : Int) (IntKind.u64.wrap (-(x : Int))) * 285870213051353865) / 288230376151711744 = ((c * 285870213051353865 % 18446744073709551616 / 288230376151711744 : Nat) : Int) := by
  have e1 : IntKind.u64.wrap (-(x : Int)) = ((18446744073709551616 - x : Nat) : Int) := by rw [IntKind.wrap_u64]; omega
  rw [e1, bits_and_u64_nat x _ hx (by omega), hc, IntKind.wrap_u64]
  omega

theorem low_ex (S : Nat) (hS : S < 4096) (h0 : S ≠ 0) : ∃ idx : Nat, IntKind.u64.wrap (bits BinOp.and IntKind.u64 (S : Int) (IntKind.u64.wrap (-(S : Int))) * 285870213051353865) / 288230376151711744 = (idx : Int) ∧ idx < 64 ∧ Lib.deBruijn64tab.getD idx 0 = low S := by
  obtain ⟨c, hc⟩ : ∃ c, S &&& (18446744073709551616 - S) = c := ⟨_, rfl⟩
  exact ⟨_, tz_key S c (Nat.lt_trans hS (by decide)) h0 hc, low_tab S hS h0 hc⟩
theorem tz_core {w : World} {x k idx : Nat} (hx0 : ((x : Int) == 0) = false)
    (key : IntKind.u64.wrap (bits BinOp.and IntKind.u64 (x : Int) (IntKind.u64.wrap (-(x : Int))) * 285870213051353865) / 288230376151711744 = (idx : Int))
    (hi : idx < 64) (hk : k < 64) (hcell : w.cell? ⟨1, idx, none⟩ = some (.int .u8 k)) :
    Calls Tryd.prog 105 #[.int .u64 x] w fun e w' => e = .returned (.int .i64 k) ∧ w = w' := by
  go_enter Tryd.func105, Tryd.ntmps105
  go_wp2_with (simp only [key])
  go_ret
  exact ⟨rfl, rfl⟩
theorem tz105 {w : World} (hT : Tab w) {S : Nat} (hS : S < 4096) (h0 : S ≠ 0) : Calls Tryd.prog 105 #[.int .u64 (S : Int)] w fun e w' => e = .returned (.int .i64 (low S)) ∧ w = w' := by
  obtain ⟨idx, key, hi, ht⟩ := low_ex S hS h0
  have hcell := hT.2 idx hi
  rw [ht] at hcell
  exact tz_core (by simp; omega) key hi (Nat.lt_trans (bl_tab S hS h0).2 (by decide)) hcell
theorem tz92 {w : World} (hT : Tab w) {S : Nat} (hS : S < 4096) (h0 : S ≠ 0) : Calls Tryd.prog 92 #[.int .u64 (S : Int)] w fun e w' => e = .returned (.int .i64 (low S)) ∧ w = w' := by
  have hc := Lib.hid (tz105 hT hS h0)
  clear hT
  go_enter Tryd.func92, Tryd.ntmps92
  go_wp2_with (first | (go_at_call 105; refine (hc.out).mono ?_; rintro e w1 ⟨rfl, rfl⟩))
  go_ret
  exact ⟨rfl, rfl⟩
theorem first85 {w : World} (hT : Tab w) {S : Nat} (hS : S < 4096) (h0 : S ≠ 0) : Calls Tryd.prog 85 #[.int .u64 (S : Int)] w fun e w' => e = .returned (.int .i64 (low S)) ∧ w = w' := by
  have hc := Lib.hid (tz92 hT hS h0)
  clear hT
  go_enter Tryd.func85, Tryd.ntmps85
  go_wp2_with (first | (go_at_call 92; refine (hc.out).mono ?_; rintro e w1 ⟨rfl, rfl⟩))
  go_ret
  exact ⟨rfl, rfl⟩

theorem and_any {S T : Nat} (hS : S < 4096) (hT : T < 4096) : bits BinOp.and IntKind.u64 (S : Int) (T : Int) = ((S &&& T : Nat) : Int) := bits_and_u64_nat S T (by omega) (by omega)
theorem or_any {S T : Nat} (hS : S < 4096) (hT : T < 4096) : bits BinOp.or IntKind.u64 (S : Int) (T : Int) = ((S ||| T : Nat) : Int) := bits_or_u64_nat S T (by omega) (by omega)
theorem or_lt {S T : Nat} (hS : S < 4096) (hT : T < 4096) : S ||| T < 4096 := Nat.or_lt_two_pow (n := 12) hS hT
theorem and_lt {S : Nat} (T : Nat) (hS : S < 4096) : S &&& T < 4096 := Nat.lt_of_le_of_lt Nat.and_le_left hS
theorem sh_one : ∀ n, n ≤ 12 → IntKind.u64.wrap (2 ^ n) = ((2 ^ n : Nat) : Int) := by decide +kernel
theorem has_tab : ∀ S : Nat, S < 4096 → ∀ j : Nat, j < 12 → (bits BinOp.and IntKind.u64 ((S : Int) / 2 ^ j) 1 == 1) = S.testBit j := by
  intro S hS j hj
  have e1 : (S : Int) / 2 ^ j = ((S / 2 ^ j : Nat) : Int) := by rw [Int.natCast_ediv, Int.natCast_pow]; rfl
  have e2 : (1 : Int) = ((1 : Nat) : Int) := rfl
  have e3 : S / 2 ^ j < 4096 := Nat.lt_of_le_of_lt (Nat.div_le_self _ _) hS
  rw [e1, e2, and_any e3 (by decide), Nat.and_one_is_mod, Nat.testBit_eq_decide_div_mod_eq]
  rw [Bool.eq_iff_iff]
  simp only [beq_iff_eq, decide_eq_true_eq]
  omega
theorem has50 {w : World} {S j : Nat} (hS : S < 4096) (hj : j < 12) : Calls Tryd.prog 50 #[.int .u64 (S : Int), .int .i64 (j : Int)] w fun e w' => e = .returned (.bool (S.testBit j)) ∧ w = w' := by
  have key := Lib.hid (has_tab S hS j hj)
  go_enter Tryd.func50, Tryd.ntmps50
  go_wp2
  go_ret
  exact ⟨ret_b key.out, rfl⟩
theorem contains66 {w : World} {S T : Nat} (hS : S < 4096) (hT : T < 4096) : Calls Tryd.prog 66 #[.int .u64 (S : Int), .int .u64 (T : Int)] w fun e w' => e = .returned (.bool (S ||| T == S)) ∧ w = w' := by
  have key := Lib.hid (or_any hS hT)
  go_enter Tryd.func66, Tryd.ntmps66
  go_wp2
  go_ret
  refine ⟨ret_b ?_, rfl⟩
  rw [key.out, Bool.eq_iff_iff]
  simp only [beq_iff_eq]
  omega
end Go.Proofs.YtpcjigdmfchbdaaDoor
