import Derived.Test.YtpcjigdmfchbdaaDoorB
import Derived.RangeFuncFrom
import Derived.RangeFuncWrites
namespace Go.Proofs.YtpcjigdmfchbdaaDoor
open Go.RowKit Go.Shelf Cl
attribute [local go_sem] Oper.semAt_some

theorem low_wrap {R : Nat} (hR : R < 4096) (h0 : R ≠ 0) : bits BinOp.and IntKind.u64 (R : Int) ((R : Int) - 1) = ((R &&& (R - 1) : Nat) : Int) := by
  have e1 : (R : Int) - 1 = ((R - 1 : Nat) : Int) := by omega
  rw [e1]
  exact and_any hR (by omega)
theorem and_pred_lt {R : Nat} (h0 : R ≠ 0) : R &&& (R - 1) < R := Nat.lt_of_le_of_lt Nat.and_le_right (by omega)

set_option maxRecDepth 100000 in
set_option maxHeartbeats 1000000 in
/-- The iterator over a set: whatever a round keeps. -/
theorem each75 (n : Nat) (hn : 3 ≤ n) (l S : Nat) (hS : S < 4096) (J : Nat → World → Prop) (hJ : ∀ k W, J k W → Tab W)
    (hY : ∀ k j W, J k W → (bl S)[k]? = some j → YieldAt Fence.wide (n - 1) Tryd.prog l #[.int .i64 (j : Int)] W fun e W' => e = .returned (.bool true) ∧ J (k + 1) W') (W : World) (h0 : J 0 W) :
    CallsIn Fence.wide n Tryd.prog 75 #[.int .u64 (S : Int), .func (.yield l) #[] #[]] W fun e W' => (∃ v, e = .returned v) ∧ J (bl S).length W' := by
  have h1 : 1 ≤ n := by omega
  have hY' := Lib.hid hY
  have hJ' := Lib.hid hJ
  clear hY hJ
  refine callsIn_of_wp Tryd.func75 rfl trivial ?_ rfl
  simp only [Tryd.ntmps75, List.size_toArray, List.length_cons, List.length_nil, Nat.reduceAdd, Nat.reduceSub, Array.replicate_succ, Array.replicate_zero, List.push_toArray, List.append_toArray, List.nil_append, List.cons_append]
  gi_wp2_with fail
  gi_loopw [0] (fun p wr => ∃ k R : Nat, R < 4096 ∧ p = .int .u64 (R : Int) ∧ k ≤ (bl S).length ∧ (bl S).drop k = bl R ∧ J k wr) (fun p wr => (intOf p).toNat)
  case atStart => exact ⟨0, S, hS, rfl, Nat.zero_le _, rfl, h0⟩
  case round =>
    obtain ⟨k, R, hR, rfl, hk, hd, hJ⟩ := hrel
    by_cases hz : R = 0
    · have hke : k = (bl S).length := by
        subst hz
        have h0 : bl 0 = [] := by decide
        rw [h0] at hd
        have := List.drop_eq_nil_iff.1 hd
        omega
      have hJ2 := Lib.hid (show J (bl S).length wr by rw [← hke]; exact hJ)
      clear hke hd hJ hk
      subst hz
      gi_wp2
      refine ⟨trivial, ?_⟩
      gi_wp2
      refine ⟨fun _ h => (by cases h), ?_⟩
      gi_wp2
      go_end0
      exact ⟨⟨_, rfl⟩, hJ2.out⟩
    · obtain ⟨hb1, hb2⟩ := bl_tab R hR hz
      have hx : (bl S)[k]? = some (low R) := by
        have := congrArg (·[0]?) hd
        rw [hb1] at this
        simpa [List.getElem?_drop] using this
      have hd2 : (bl S).drop (k + 1) = bl (R &&& (R - 1)) := by
        rw [← List.drop_drop, hd, hb1]; rfl
      have hk2 : k + 1 ≤ (bl S).length := by
        have := (List.getElem?_eq_some_iff.1 hx).1
        omega
      have hf := Lib.hid (first85 (hJ'.out k wr hJ) hR hz)
      have h3 := hY'.out k (low R) wr hJ hx
      have hw := low_wrap hR hz
      have hlt := Lib.hid (and_pred_lt hz)
      have hlt2 := Lib.hid (and_lt (R - 1) hR)
      have hfin := Lib.hid (And.intro hd2 hk2)
      clear hb1 hb2 hx hd2 hk2 hd hk
      obtain ⟨fn, tmps, assign, body, hy, hRn⟩ := h3
      gi_wp2_with (first | (refine ⟨trivial, ?_⟩; gi_at_call 85; refine (callsIn_wide.2 (hf.out)).mono ?_; rintro e w1 ⟨rfl, rfl⟩))
      refine hRn.mono ?_
      rintro e W3 ⟨rfl, hJ3⟩
      gi_wp2
      go_roundw
      case rel => exact ⟨k + 1, R &&& (R - 1), hlt2.out, by first | rfl | (rw [hw]) | go_num, hfin.out.2, hfin.out.1, hJ3⟩
      case measure => have := hlt.out; simp [intOf]; omega
end Go.Proofs.YtpcjigdmfchbdaaDoor
