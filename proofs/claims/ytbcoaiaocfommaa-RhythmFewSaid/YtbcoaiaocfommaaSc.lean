import Derived.Test.YtbcoaiaocfommaaSb
namespace Go.Proofs.Ytbcoaiaocfommaa
open Go.RowKit

def paRow (l : List UInt8) (n k : Nat) : List (List UInt8) := (List.range k).foldl (fun seen i => addS seen (subL l i (i + n))) []
def paAll (l : List UInt8) (m : Nat) : List Int := (List.range m).map fun n => ((paRow l (n + 1) (l.length - n)).length : Int)
theorem paRow_succ (l : List UInt8) (n k : Nat) : paRow l n (k + 1) = addS (paRow l n k) (subL l k (k + n)) := by unfold paRow; rw [List.range_succ]; simp
theorem paAll_succ (l : List UInt8) (m : Nat) : paAll l (m + 1) = paAll l m ++ [((paRow l (m + 1) (l.length - m)).length : Int)] := by unfold paAll; rw [List.range_succ]; simp
theorem paRow_len (l : List UInt8) (n k : Nat) : (paRow l n k).length ≤ k := by
  induction k with
  | zero => exact Nat.le_refl _
  | succ k ih => rw [paRow_succ]; have := addS_len (paRow l n k) (subL l k (k + n)); omega
theorem paAll_len (l : List UInt8) (m : Nat) : (paAll l m).length = m := by unfold paAll; simp

set_option maxHeartbeats 1000000 in
set_option maxRecDepth 100000 in
theorem parts41 (s : ByteArray) (w : World) (hs : s.size ≤ 1000) :
    Calls Try.prog 41 #[.string s] w fun e w' => ∃ v, e = .returned v ∧ Ints w' w.heap.size v (paAll s.data.toList s.size) ∧ Below w.heap.size w w' := by
  go_enter Try.func41, Try.ntmps41
  go_wp2_with fail
  go_loopw [3, 4] (fun v i wr => ∃ k : Nat, k ≤ s.size ∧ i = .int .i64 ((k : Int) + 1) ∧ Ints wr w.heap.size v (paAll s.data.toList k) ∧ Below w.heap.size w wr) (fun _ i _ => s.size + 1 - (intOf i).toNat)
  case atStart => exact ⟨0, Nat.zero_le _, rfl, Ints.lit w _ (Nat.le_refl _), (Below.refl _ _).alloc (Nat.le_refl _) _⟩
  case round =>
    obtain ⟨k, hk, rfl, hv, hb⟩ := hrel
    obtain ⟨w1, rfl⟩ : ∃ w1, w1 = wr := ⟨_, rfl⟩
    have hpl := paAll_len s.data.toList k
    by_cases hlt : k < s.size
    · have d1 : decide ((k : Int) + 1 ≤ s.size) = true := by simp; omega
      go_wp2_with fail
      go_loopw [5, 6] (fun v i w2 => ∃ h : Nat, h ≤ s.size - k ∧ i = .int .i64 (h : Int) ∧ Strs w2 w1.heap.size v (paRow s.data.toList (k + 1) h) ∧ Below w1.heap.size w1 w2) (fun _ j _ => s.size + 1 - (intOf j).toNat)
      case atStart => exact ⟨0, Nat.zero_le _, rfl, Strs.lit w1 _ (Nat.le_refl _), (Below.refl _ _).alloc (Nat.le_refl _) _⟩
      case round =>
        obtain ⟨h, hh, rfl, hu, hb2⟩ := hrel
        obtain ⟨w2, rfl⟩ : ∃ w2, w2 = wr := ⟨_, rfl⟩
        have hln := paRow_len s.data.toList (k + 1) h
        by_cases hlt2 : h < s.size - k
        · obtain ⟨xs, hxs⟩ : ∃ xs, xs = paRow s.data.toList (k + 1) h := ⟨_, rfl⟩
          rw [← hxs] at hu hln
          have hxs' := Lib.hid hxs
          clear hxs
          have hxl : xs.length ≤ 1000000 := by omega
          have hhi : h + (k + 1) ≤ s.size := by omega
          have f1 : IntKind.i64.wrap ((h : Int) + ((k : Int) + 1)) = (h : Int) + ((k : Int) + 1) := IntWalk.i64_in _ (by omega)
          have f2 : ((h : Int) + ((k : Int) + 1)).toNat = h + (k + 1) := by omega
          have f3 : (0 : Int) ≤ (h : Int) + ((k : Int) + 1) := by omega
          have f8 : (h : Int) ≤ (h : Int) + ((k : Int) + 1) := by omega
          have f9 : (h : Int) + ((k : Int) + 1) ≤ s.size := by omega
          have hstep := paRow_succ s.data.toList (k + 1) h
          rw [← hxs'.out] at hstep
          have hhas := (has68 u5 xs (s.extract h (h + (k + 1))) w2 hu.shape hxl)
          rw [subL_extract] at hhas
          unfold addS at hstep
          cases hc : xs.contains (subL s.data.toList h (h + (k + 1)))
          · rw [hc] at hstep
            rw [if_neg (by simp)] at hstep
            unfold HasPost at hhas
            rw [hc] at hhas
            have hstep' := Lib.hid hstep
            have hhas' := Lib.hid hhas
            clear hstep hhas hc
            have hbs := hb2.size
            go_wp2_with (first | (go_at_call 68; refine hhas'.out.mono ?_; rintro e w3 ⟨rfl, rfl⟩) | (at_builtin; refine app_str hu (by omega) hbs rfl _ _ rfl rfl rfl ?_; intro v' w3 hown3 hb3))
            go_roundw
            case rel => exact ⟨h + 1, by omega, by go_num, by rw [hstep'.out, ← subL_extract]; exact hown3, hb2.trans hb3⟩
            case measure => simp [intOf]; omega
          · rw [hc] at hstep
            rw [if_pos rfl] at hstep
            unfold HasPost at hhas
            rw [hc] at hhas
            have hstep' := Lib.hid hstep
            have hhas' := Lib.hid hhas
            clear hstep hhas hc
            go_wp2_with (first | (go_at_call 68; refine hhas'.out.mono ?_; rintro e w3 ⟨rfl, rfl⟩))
            go_roundw
            case rel => exact ⟨h + 1, by omega, by go_num, by rw [hstep'.out]; exact hu, hb2⟩
            case measure => simp [intOf]; omega
        · have hhe : h = s.size - k := by omega
          have hstep := paAll_succ s.data.toList k
          rw [size_len, ← hhe] at hstep
          have hstep' := Lib.hid hstep
          obtain ⟨xs, hxs⟩ : ∃ xs, xs = paRow s.data.toList (k + 1) h := ⟨_, rfl⟩
          rw [← hxs] at hu hln hstep'
          clear hstep hhe hxs
          obtain ⟨ao, c, rfl, _⟩ := hu.shape
          have hbs := hb.size
          have hbs2 := hb2.size
          have hv2 := hv.below hb2
          go_wp2_with (at_builtin; refine app_int hv2 (by omega) (by omega) rfl _ _ rfl rfl rfl ?_; intro v' w3 hown3 hb3)
          go_roundw
          case rel => exact ⟨k + 1, by omega, by go_num, by rw [hstep'.out]; exact hown3, (below_seq hb hb2 (by omega)).trans hb3⟩
          case measure => simp [intOf]; omega
    · have hke : k = s.size := by omega
      have hke' := Lib.hid hke
      clear hke
      go_wp2
      go_ret
      exact ⟨_, rfl, by rw [← hke'.out]; exact hv, hb⟩
end Go.Proofs.Ytbcoaiaocfommaa
