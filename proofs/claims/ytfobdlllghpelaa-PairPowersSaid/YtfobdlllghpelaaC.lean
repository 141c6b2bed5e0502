import Derived.Test.YtfobdlllghpelaaB
import Derived.RangeFuncNested
import Derived.RangeFuncBound
import Derived.RangeFuncCalls
import Derived.RangeFuncLeaves
import Derived.Shelf.Abstract
import Derived.Shelf.RegionOpen
import Derived.OwnWalkIn
import Derived.TacticsInMore
import Derived.LoopNIn
import Derived.LoopIn
namespace Go.Proofs.Ytfobdlllghpelaa
open Go.RowKit Go.Shelf Pair
attribute [local go_sem] Oper.semAt_some

/-- The numbers of the set, rising; how many there are below `k`. -/
def bl (S : Nat) : List Nat := (List.range 8).filter fun j => S.testBit j
def cb (S k : Nat) : Nat := ((List.range k).filter fun j => S.testBit j).length
theorem cb_yes : ∀ S : Nat, S < 256 → ∀ k : Nat, k < 8 → S.testBit k = true → (bl S)[cb S k]? = some k ∧ cb S (k + 1) = cb S k + 1 := by decide +kernel
theorem cb_no : ∀ S : Nat, S < 256 → ∀ k : Nat, k < 8 → S.testBit k = false → cb S (k + 1) = cb S k := by decide +kernel
theorem cb_all : ∀ S : Nat, S < 256 → cb S (lnS S) = (bl S).length := by decide +kernel

theorem cb_eq : ∀ S : Nat, S < 256 → ∀ k : Nat, k < 8 → ∀ j, (bl S)[cb S k]? = some j → S.testBit k = true → j = k := by
  intro S hS k hk j h hb
  rw [(cb_yes S hS k hk hb).1] at h
  exact (Option.some.inj h).symm

set_option maxRecDepth 100000 in
set_option maxHeartbeats 1000000 in
/-- The iterator over a set: whatever a round keeps. -/
theorem each78 (n : Nat) (hn : 3 ≤ n) (l S : Nat) (hS : S < 256) (J : Nat → World → Prop)
    (hY : ∀ k j W, J k W → (bl S)[k]? = some j → YieldAt Fence.wide (n - 1) Try.prog l #[.int .i64 (j : Int)] W fun e W' => e = .returned (.bool true) ∧ J (k + 1) W') (W : World) (h0 : J 0 W) :
    CallsIn Fence.wide n Try.prog 78 #[.int .u64 (S : Int), .func (.yield l) #[] #[]] W fun e W' => (∃ v, e = .returned v) ∧ J (bl S).length W' := by
  have h1 : 1 ≤ n := by omega
  have hln := lnS_le S hS
  have hY' := Lib.hid hY
  have hall := Lib.hid (cb_all S hS)
  obtain ⟨N, hN⟩ : ∃ N, N = lnS S := ⟨_, rfl⟩
  have hl88 := Lib.hid (fun (w : World) => len88 (w := w) hS)
  rw [← hN] at hln hall hl88
  clear hY hN
  refine callsIn_of_wp Try.func78 rfl trivial ?_ rfl
  simp only [Try.ntmps78, List.size_toArray, List.length_cons, List.length_nil, Nat.reduceAdd, Nat.reduceSub, Array.replicate_succ, Array.replicate_zero, List.push_toArray, List.append_toArray, List.nil_append, List.cons_append]
  gi_wp2_with (first | (refine ⟨trivial, ?_⟩; gi_at_call 88; refine (callsIn_wide.2 (hl88.out _)).mono ?_; rintro e w1 ⟨rfl, rfl⟩))
  gi_loopw [7] (fun p wr => ∃ k : Nat, k ≤ N ∧ p = .int .i64 (k : Int) ∧ J (cb S k) wr) (fun p wr => N - (intOf p).toNat)
  case atStart => exact ⟨0, by omega, rfl, h0⟩
  case round =>
    obtain ⟨k, hk, rfl, hJ⟩ := hrel
    by_cases hlt : k < N
    · have hh := Lib.hid (fun (w : World) => has87 (w := w) (S := S) (j := k) hS)
      by_cases hb : S.testBit k = true
      · have hc := cb_yes S hS k (by omega) hb
        have h3 := hY'.out (cb S k) k wr hJ hc.1
        rw [← hc.2] at h3
        rw [hb] at hh
        obtain ⟨fn, tmps, assign, body, hy, hR⟩ := h3
        clear hc hb
        gi_wp2_with (first | (refine ⟨trivial, ?_⟩; gi_at_call 87; refine (callsIn_wide.2 (hh.out _)).mono ?_; rintro e w1 ⟨rfl, rfl⟩))
        refine hR.mono ?_
        rintro e W3 ⟨rfl, hJ3⟩
        gi_wp2
        go_roundw
        case rel => exact ⟨k + 1, by omega, by go_num, hJ3⟩
        case measure => simp [intOf]; omega
      · have hb : S.testBit k = false := by simpa using hb
        have hc := cb_no S hS k (by omega) hb
        rw [hb] at hh
        rw [← hc] at hJ
        clear hc hb
        gi_wp2_with (first | (refine ⟨trivial, ?_⟩; gi_at_call 87; refine (callsIn_wide.2 (hh.out _)).mono ?_; rintro e w1 ⟨rfl, rfl⟩))
        refine ⟨fun _ h => (by cases h), ?_⟩
        gi_wp2
        go_roundw
        case rel => exact ⟨k + 1, by omega, by go_num, hJ⟩
        case measure => simp [intOf]; omega
    · have hke : k = N := by omega
      have hJ2 := Lib.hid (show J (bl S).length wr by rw [← hall.out, ← hke]; exact hJ)
      clear hke
      gi_wp2
      go_end0
      exact ⟨⟨_, rfl⟩, hJ2.out⟩
end Go.Proofs.Ytfobdlllghpelaa
