import Derived.Test.YtbcoaiaocfommaaSa
namespace Go.Proofs.Ytbcoaiaocfommaa
open Go.RowKit

/-! ## different squares and parts: the reference -/
def addS (seen : List (List UInt8)) (y : List UInt8) : List (List UInt8) := if seen.contains y then seen else seen ++ [y]
/-- part of a list -/
def subL (l : List UInt8) (i j : Nat) : List UInt8 := (l.drop i).take (j - i)
def sqB (l : List UInt8) (i h : Nat) : Bool := subL l i (i + h) == subL l (i + h) (i + 2 * h)
def sqStep (l : List UInt8) (i : Nat) (seen : List (List UInt8)) (h : Nat) : List (List UInt8) := if sqB l i (h + 1) then addS seen (subL l i (i + 2 * (h + 1))) else seen
def sqRow (l : List UInt8) (seen : List (List UInt8)) (i k : Nat) : List (List UInt8) := (List.range k).foldl (sqStep l i) seen
def sqAll (l : List UInt8) (i : Nat) : List (List UInt8) := (List.range i).foldl (fun seen i => sqRow l seen i ((l.length - i) / 2)) []
theorem sqRow_succ (l : List UInt8) (seen : List (List UInt8)) (i k : Nat) : sqRow l seen i (k + 1) = sqStep l i (sqRow l seen i k) k := by unfold sqRow; rw [List.range_succ]; simp
theorem sqAll_succ (l : List UInt8) (i : Nat) : sqAll l (i + 1) = sqRow l (sqAll l i) i ((l.length - i) / 2) := by unfold sqAll; rw [List.range_succ]; simp
theorem addS_len (seen : List (List UInt8)) (y : List UInt8) : (addS seen y).length ≤ seen.length + 1 := by unfold addS; split <;> simp
theorem sqStep_len (l : List UInt8) (i : Nat) (seen : List (List UInt8)) (h : Nat) : (sqStep l i seen h).length ≤ seen.length + 1 := by
  unfold sqStep; split
  · exact addS_len _ _
  · omega
theorem sqRow_len (l : List UInt8) (seen : List (List UInt8)) (i k : Nat) : (sqRow l seen i k).length ≤ seen.length + k := by
  induction k with
  | zero => exact Nat.le_refl _
  | succ k ih => rw [sqRow_succ]; have := sqStep_len l i (sqRow l seen i k) k; omega
theorem sqAll_len (l : List UInt8) (i : Nat) : (sqAll l i).length ≤ i * l.length := by
  induction i with
  | zero => exact Nat.zero_le _
  | succ i ih => rw [sqAll_succ]; have := sqRow_len l (sqAll l i) i ((l.length - i) / 2); rw [Nat.succ_mul]; omega
theorem subL_extract (s : ByteArray) (i j : Nat) : (s.extract i j).data.toList = subL s.data.toList i j := by
  rw [Lib.extract_data]; rfl

set_option maxHeartbeats 1000000 in
set_option maxRecDepth 100000 in
theorem squares40 (s : ByteArray) (w : World) (hs : s.size ≤ 1000) :
    Calls Try.prog 40 #[.string s] w fun e w' => e = .returned (.int .i64 ((sqAll s.data.toList s.size).length : Nat)) ∧ Below w.heap.size w w' := by
  go_enter Try.func40, Try.ntmps40
  go_wp2_with fail
  go_loopw [3, 4] (fun v i wr => ∃ k : Nat, k ≤ s.size ∧ i = .int .i64 k ∧ Strs wr w.heap.size v (sqAll s.data.toList k) ∧ Below w.heap.size w wr) (fun _ i _ => s.size - (intOf i).toNat)
  case atStart => exact ⟨0, Nat.zero_le _, rfl, Strs.lit w _ (Nat.le_refl _), (Below.refl _ _).alloc (Nat.le_refl _) _⟩
  case round =>
    obtain ⟨k, hk, rfl, hv, hb⟩ := hrel
    by_cases hlt : k < s.size
    · go_wp2_with fail
      go_loopw [3, 5] (fun v j wr => ∃ h : Nat, h ≤ (s.size - k) / 2 ∧ j = .int .i64 ((h : Int) + 1) ∧ Strs wr w.heap.size v (sqRow s.data.toList (sqAll s.data.toList k) k h) ∧ Below w.heap.size w wr) (fun _ j _ => s.size + 1 - (intOf j).toNat)
      case atStart => exact ⟨0, Nat.zero_le _, rfl, hv, hb⟩
      case round =>
        obtain ⟨h, hh, rfl, hv, hb⟩ := hrel
        have hln := sqRow_len s.data.toList (sqAll s.data.toList k) k h
        have hln2 := sqAll_len s.data.toList k
        rw [size_len] at hln2
        have hln3 : k * s.size ≤ 999 * 1000 := Nat.mul_le_mul (by omega) hs
        by_cases hlt2 : h < (s.size - k) / 2
        · obtain ⟨xs, hxs⟩ : ∃ xs, xs = sqRow s.data.toList (sqAll s.data.toList k) k h := ⟨_, rfl⟩
          rw [← hxs] at hv hln
          have hxs' := Lib.hid hxs
          clear hxs
          have hxl : xs.length ≤ 1000000 := by omega
          have hhi : k + 2 * (h + 1) ≤ s.size := by omega
          have f1 : IntKind.i64.wrap ((k : Int) + ((h : Int) + 1)) = (k : Int) + ((h : Int) + 1) := IntWalk.i64_in _ (by omega)
          have f2 : ((k : Int) + ((h : Int) + 1)).toNat = k + (h + 1) := by omega
          have f3 : (0 : Int) ≤ (k : Int) + ((h : Int) + 1) := by omega
          have f4 : IntKind.i64.wrap (2 * ((h : Int) + 1)) = 2 * ((h : Int) + 1) := IntWalk.i64_in _ (by omega)
          have f5 : IntKind.i64.wrap ((k : Int) + 2 * ((h : Int) + 1)) = (k : Int) + 2 * ((h : Int) + 1) := IntWalk.i64_in _ (by omega)
          have f6 : ((k : Int) + 2 * ((h : Int) + 1)).toNat = k + 2 * (h + 1) := by omega
          have f7 : (0 : Int) ≤ (k : Int) + 2 * ((h : Int) + 1) := by omega
          have f8 : (k : Int) ≤ (k : Int) + ((h : Int) + 1) := by omega
          have f9 : (k : Int) + ((h : Int) + 1) ≤ (k : Int) + 2 * ((h : Int) + 1) := by omega
          have f10 : (k : Int) ≤ (k : Int) + 2 * ((h : Int) + 1) := by omega
          have f11 : (k : Int) + 2 * ((h : Int) + 1) ≤ s.size := by omega
          have q1 : (s.extract k (k + (h + 1))).toList = subL s.data.toList k (k + (h + 1)) := by rw [toList_data, subL_extract]
          have q2 : (s.extract (k + (h + 1)) (k + 2 * (h + 1))).toList = subL s.data.toList (k + (h + 1)) (k + 2 * (h + 1)) := by rw [toList_data, subL_extract]
          have qB : ((s.extract k (k + (h + 1))).toList == (s.extract (k + (h + 1)) (k + 2 * (h + 1))).toList) = sqB s.data.toList k (h + 1) := by rw [q1, q2]; rfl
          have hstep := sqRow_succ s.data.toList (sqAll s.data.toList k) k h
          rw [← hxs'.out] at hstep
          unfold sqStep at hstep
          clear q1 q2
          have hhas : ∀ n, Calls Try.prog 68 #[u3, .string (s.extract k (k + 2 * (h + 1)))] (wr.drewN n) fun e w' => e = .returned (.bool (xs.contains (subL s.data.toList k (k + 2 * (h + 1))))) ∧ w' = wr.drewN n := fun n => by
            rw [← subL_extract]
            exact (has68 u3 xs _ _ (hv.shape.below (below_drewN (Below.refl _ _) _)) hxl).mono fun e w' h => ⟨h.1, h.2.symm⟩
          cases hq : sqB s.data.toList k (h + 1)
          · rw [hq] at qB hstep
            rw [if_neg (by simp)] at hstep
            have hstep' := Lib.hid hstep
            clear hstep hhas
            go_wp2_with fail
            go_quiet (fail)
            go_wp2
            go_roundw
            case rel => exact ⟨h + 1, by omega, by go_num, by rw [hstep'.out]; exact hv.below (below_drewN (Below.refl _ _) _), below_drewN hb _⟩
            case measure => simp [intOf]; omega
          · rw [hq] at qB hstep
            rw [if_pos rfl] at hstep
            unfold addS at hstep
            cases hc : xs.contains (subL s.data.toList k (k + 2 * (h + 1)))
            · rw [hc] at hhas hstep
              rw [if_neg (by simp)] at hstep
              have hstep' := Lib.hid hstep
              have hhas' := Lib.hid hhas
              have hc' := Lib.hid hc
              clear hstep hhas hq hc
              go_wp2_with fail
              go_quiet ((go_at_call 68; exact Calls.quiet_of_same (hhas'.out _)))
              have hvd : Strs (wr.drewN nq) w.heap.size u3 xs := hv.below (below_drewN (Below.refl _ _) _)
              have hbs := hb.size
              go_wp2_with (at_builtin; refine app_str hvd (by omega) hbs rfl _ _ rfl rfl rfl ?_; intro v' w3 hown3 hb3)
              go_roundw
              case rel => exact ⟨h + 1, by omega, by go_num, by rw [hstep'.out, ← subL_extract]; exact hown3, (below_drewN hb _).trans hb3⟩
              case measure => simp [intOf]; omega
            · rw [hc] at hhas hstep
              rw [if_pos rfl] at hstep
              have hstep' := Lib.hid hstep
              have hhas' := Lib.hid hhas
              have hc' := Lib.hid hc
              clear hstep hhas hq hc
              go_wp2_with fail
              go_quiet ((go_at_call 68; exact Calls.quiet_of_same (hhas'.out _)))
              go_wp2
              go_roundw
              case rel => exact ⟨h + 1, by omega, by go_num, by rw [hstep'.out]; exact hv.below (below_drewN (Below.refl _ _) _), below_drewN hb _⟩
              case measure => simp [intOf]; omega
        · have hhe : h = (s.size - k) / 2 := by omega
          have hstep := sqAll_succ s.data.toList k
          rw [size_len, ← hhe] at hstep
          have hstep' := Lib.hid hstep
          clear hstep hhe
          go_wp2
          go_roundw
          case rel => exact ⟨k + 1, by omega, by go_num, by rw [hstep'.out]; exact hv, hb⟩
          case measure => simp [intOf]; omega
    · have hke : k = s.size := by omega
      have hke' := Lib.hid hke
      have hln2 := sqAll_len s.data.toList k
      rw [size_len] at hln2
      have hln3 : k * s.size ≤ 1000 * 1000 := Nat.mul_le_mul (by omega) hs
      obtain ⟨ao, c, rfl, _⟩ := hv.shape
      clear hke
      go_wp2
      go_ret
      exact ⟨by rw [← hke'.out]; rfl, hb⟩
end Go.Proofs.Ytbcoaiaocfommaa
