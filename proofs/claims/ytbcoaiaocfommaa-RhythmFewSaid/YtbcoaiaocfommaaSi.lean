import Derived.Test.YtbcoaiaocfommaaSh
import Derived.Test.YtbcoaiaocfommaaLaw3
namespace Go.Proofs.Ytbcoaiaocfommaa
open Go.RowKit

set_option maxHeartbeats 1000000 in
set_option maxRecDepth 100000 in
theorem squares38_bad (s : ByteArray) (w : World) (hs : s.size ≤ maxLen) (hc : chk s ≠ 0) :
    Calls Try.prog 38 #[.string s] w fun e w' => e = .returned (.tuple #[.int .i64 0, .int .i64 (chk s)]) ∧ w = w' := by
  have hd : (chk s != 0) = true := by simpa using hc
  go_enter Try.func38, Try.ntmps38
  go_wp2_with (first | (go_at_call 55; refine (check55 _ _ hs).mono ?_; rintro e w1 ⟨rfl, rfl⟩))
  go_ret2
  exact ⟨rfl, rfl⟩
set_option maxHeartbeats 1000000 in
set_option maxRecDepth 100000 in
theorem parts39_bad (s : ByteArray) (w : World) (hs : s.size ≤ maxLen) (hc : chk s ≠ 0) :
    Calls Try.prog 39 #[.string s] w fun e w' => e = .returned (.tuple #[.slice none 0 0, .int .i64 (chk s)]) ∧ w = w' := by
  have hd : (chk s != 0) = true := by simpa using hc
  go_enter Try.func39, Try.ntmps39
  go_wp2_with (first | (go_at_call 55; refine (check55 _ _ hs).mono ?_; rintro e w1 ⟨rfl, rfl⟩))
  go_ret2
  exact ⟨rfl, rfl⟩
end Go.Proofs.Ytbcoaiaocfommaa
