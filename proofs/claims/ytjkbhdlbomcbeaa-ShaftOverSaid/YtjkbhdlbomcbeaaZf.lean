import Derived.Test.YtjkbhdlbomcbeaaZe
import Derived.RangeFuncNested
import Derived.RangeFuncBound
import Derived.RangeFuncCalls
import Derived.RangeFuncLeaves
import Derived.RangeFuncFrom
import Derived.Shelf.Abstract
import Derived.Shelf.RegionOpen
import Derived.OwnWalkIn
import Derived.TacticsInMore
import Derived.LoopNIn
import Derived.LoopIn
namespace Go.Proofs.Ytjkbhdlbomcbeaa
open Go.RowKit Go.Shelf Shf
attribute [local go_sem] Oper.semAt_some

/-! ## the intervals, as they are yielded -/
abbrev Ivl := { p : Nat × Nat // p.1 < p.2 ∧ p.2 ≤ 24 }
def Cov (pre : List Ivl) (a b : Nat) : Prop := ∀ x y : Nat, x < y → y ≤ 24 → (x < a ∨ (x = a ∧ y < b)) → ∃ p ∈ pre, p.1 = (x, y)
theorem Cov.nil : Cov [] 0 1 := fun x y h1 h2 h3 => by omega
theorem Cov.next {pre : List Ivl} {a b : Nat} (h : Cov pre a b) (x : Ivl) (hx : x.1 = (a, b)) : Cov (pre ++ [x]) a (b + 1) := fun u v h1 h2 h3 => by
  by_cases e : u = a ∧ v = b
  · exact ⟨x, by simp, by rw [hx, e.1, e.2]⟩
  · obtain ⟨p, hp, hq⟩ := h u v h1 h2 (by omega)
    exact ⟨p, by simp [hp], hq⟩
theorem Cov.row {pre : List Ivl} {a : Nat} (h : Cov pre a 25) : Cov pre (a + 1) (a + 2) := fun u v h1 h2 h3 => by
  refine h u v h1 h2 ?_; omega

set_option maxRecDepth 100000 in
set_option maxHeartbeats 1000000 in
theorem intervals64_in (F : Fence) (n : Nat) (h64 : F.fn 64) (hro : F.round = none) (hn : 1 ≤ n) (l : Nat) (J Jx : List Ivl → World → Prop)
    (hY : ∀ pre x W, J pre W → pre.length < 1000 → YieldAt F (n - 1) Try.prog l #[.int .i64 ((x : Ivl).1.1 : Int), .int .i64 (x.1.2 : Int)] W fun e W' =>
      (e = .returned (.bool true) ∧ J (pre ++ [x]) W') ∨ (e = .returned (.bool false) ∧ Jx (pre ++ [x]) W'))
    (W : World) (h0 : J [] W) :
    CallsIn F n Try.prog 64 #[.func (.yield l) #[] #[]] W fun e W' => (∃ v, e = .returned v) ∧
      ((∃ ys, Cov ys 24 25 ∧ J ys W') ∨ (∃ pre, (∃ p0 x, pre = p0 ++ [x] ∧ Cov p0 x.1.1 x.1.2) ∧ Jx pre W')) := by
  refine callsIn_of_wp Try.func64 rfl h64 ?_ hro
  simp only [Try.ntmps64, List.size_toArray, List.length_cons, List.length_nil, Nat.reduceAdd, Nat.reduceSub, Array.replicate_succ, Array.replicate_zero, List.push_toArray, List.append_toArray, List.nil_append, List.cons_append]
  gi_wp2
  gi_loopw [4] (fun p wr => ∃ a : Nat, ∃ pre : List Ivl, a ≤ 24 ∧ p = .int .i64 (a : Int) ∧ pre.length ≤ 25 * a + a ∧ Cov pre a (a + 1) ∧ J pre wr)
    (fun p wr => 24 - (intOf p).toNat)
  case atStart =>
    exact ⟨0, [], by omega, rfl, by simp, Cov.nil, h0⟩
  case round =>
    obtain ⟨a, pre0, ha, rfl, hl0, hc0, hJ0⟩ := hrel
    by_cases ha24 : a < 24
    · have htB : decide ((a : Int) < 24) = true := by simp; omega
      gi_wp2
      clear htB
      gi_loopw [3] (fun p wr => ∃ b : Nat, ∃ pre : List Ivl, a < b ∧ b ≤ 25 ∧ p = .int .i64 (b : Int) ∧ pre.length ≤ 25 * a + b ∧ Cov pre a b ∧ J pre wr)
        (fun p wr => 25 - (intOf p).toNat)
      case atStart => exact ⟨a + 1, pre0, by omega, by omega, by go_num, by omega, hc0, hJ0⟩
      case round =>
        clear hl0 hc0 hJ0
        obtain ⟨b, pre, hab, hb, rfl, hl, hc, hJ⟩ := hrel
        by_cases hb24 : b ≤ 24
        · obtain ⟨fn, tmps, assign, body, hy, hR⟩ := hY pre ⟨(a, b), hab, hb24⟩ wr hJ (by omega)
          have hc' := Lib.hid (hc.next ⟨(a, b), hab, hb24⟩ rfl)
          have hc0' := Lib.hid hc
          clear hc
          gi_wp2
          refine hR.mono ?_
          rintro e W3 (⟨rfl, hJ3⟩ | ⟨rfl, hJx3⟩)
          · gi_wp2
            go_roundw
            case rel => exact ⟨b + 1, _, by omega, by omega, by go_num, by simp; omega, hc'.out, hJ3⟩
            case measure => simp [intOf]; omega
          · gi_wp2
            refine bodyPost_ret (results_none rfl _ _ _) rfl ?_
            exact ⟨⟨_, rfl⟩, .inr ⟨_, ⟨_, _, rfl, hc0'.out⟩, hJx3⟩⟩
        · obtain rfl : b = 25 := by omega
          rw [show ((25 : Nat) : Int) = 25 from rfl]
          have hc2 := Lib.hid hc.row
          clear hc
          gi_wp2
          go_roundw
          case rel => exact ⟨a + 1, pre, by omega, by go_num, by omega, hc2.out, hJ⟩
          case measure => simp [intOf]; omega
    · obtain rfl : a = 24 := by omega
      rw [show ((24 : Nat) : Int) = 24 from rfl]
      gi_wp2
      go_end0
      exact ⟨⟨_, rfl⟩, .inl ⟨_, hc0, hJ0⟩⟩
theorem intervals64_stops (F : Fence) (n : Nat) (h64 : F.fn 64) (hro : F.round = none) (hn : 1 ≤ n) (w : World) :
    SeqStopsK F n Try.prog 64 #[] (fun x : Ivl => #[Value.int .i64 (x.1.1 : Int), Value.int .i64 (x.1.2 : Int)]) (fun _ _ => True) (fun ys => Cov ys 24 25) (fun pre => ∃ p0 x, pre = p0 ++ [x] ∧ Cov p0 x.1.1 x.1.2) 1000 w := fun l J Jx W _ _ _ hY h0 =>
  intervals64_in F n h64 hro hn l J Jx (fun pre x W1 hJ hlt => by
    obtain ⟨fn, tmps, assign, body, hy, hR⟩ := hY pre x W1 hJ hlt
    refine ⟨fn, tmps, assign, body, hy, hR.mono ?_⟩
    rintro e W' (⟨rfl, h1, -⟩ | h1)
    · exact .inl ⟨rfl, h1⟩
    · exact .inr h1) W h0
end Go.Proofs.Ytjkbhdlbomcbeaa
