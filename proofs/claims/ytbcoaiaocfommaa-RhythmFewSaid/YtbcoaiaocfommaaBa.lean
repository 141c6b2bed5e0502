import Derived.Test.YtbcoaiaocfommaaN
namespace Go.Proofs.Ytbcoaiaocfommaa
open Go.RowKit

/-! ## balanced: the reference -/
def bN (l : List UInt8) : Nat := l.countP (· == 98)
theorem bN_le (l : List UInt8) : bN l ≤ l.length := List.countP_le_length
theorem bN_snoc (l : List UInt8) (c : UInt8) : bN (l ++ [c]) = bN l + (if c = 98 then 1 else 0) := by
  unfold bN
  rw [List.countP_append, List.countP_cons]; simp

set_option maxHeartbeats 1000000 in
set_option maxRecDepth 100000 in
theorem bs53 (s : ByteArray) (w : World) (hs : s.size ≤ 1000000) :
    Calls Try.prog 53 #[.string s] w fun e w' => e = .returned (.int .i64 (bN s.data.toList)) ∧ w' = w := by
  go_enter Try.func53, Try.ntmps53
  go_wp2_with fail
  go_loop [3, 4] (fun nn i => ∃ k : Nat, k ≤ s.size ∧ i = .int .i64 (k : Int) ∧ nn = .int .i64 ((bN (s.data.toList.take k) : Nat) : Int)) (fun _ i => s.size - (intOf i).toNat)
  case atStart => exact ⟨0, by omega, rfl, by simp [bN]⟩
  case round =>
    obtain ⟨k, hk, rfl, rfl⟩ := hrel
    have hb := bN_le (s.data.toList.take k)
    rw [List.length_take] at hb
    obtain ⟨B, hB⟩ : ∃ B, B = bN (s.data.toList.take k) := ⟨_, rfl⟩
    rw [← hB] at hb ⊢
    have hB' := Lib.hid hB
    clear hB
    have hb2 : B ≤ 1000000 := by omega
    by_cases hlt : k < s.size
    · by_cases hc : (s[k].toNat : Int) = 98
      · have hcc := Lib.hid (show s[k] = 98 from UInt8.toNat_inj.1 (by simpa using (show s[k].toNat = 98 by omega)))
        go_wp2
        go_round
        case rel => exact ⟨k + 1, by omega, by go_num, by rw [take_snoc s k hlt, bN_snoc, ← hB'.out, hcc.out]; rfl⟩
        case measure => simp [intOf]; omega
      · have hcc := Lib.hid (show ¬ s[k] = 98 from fun e => hc (by rw [e]; rfl))
        go_wp2
        go_round
        case rel => exact ⟨k + 1, by omega, by go_num, by rw [take_snoc s k hlt, bN_snoc, ← hB'.out, if_neg hcc.out]; rfl⟩
        case measure => simp [intOf]; omega
    · have hkl : k = s.size := by omega
      have hBe := Lib.hid (show B = bN s.data.toList by rw [hB'.out, take_all s k (by omega)])
      go_wp2
      go_ret
      first | exact ⟨rfl, rfl⟩ | exact ⟨by rw [hBe.out]; rfl, rfl⟩
end Go.Proofs.Ytbcoaiaocfommaa
