import Derived.Test.YtbcoaiaocfommaaLaw3
import Derived.Test.YtbcoaiaocfommaaJ
namespace Go.Proofs.Ytbcoaiaocfommaa
open Go.RowKit

set_option maxHeartbeats 1000000 in
set_option maxRecDepth 100000 in
theorem walk5 (x : ByteArray) (w : World) (hx : x.size ≤ maxLen) :
    Calls Try.prog 5 #[.string x] w fun e w' => e = .returned (.bool true) ∧ Below w.heap.size w w' := by
  go_enter Try.func5, Try.ntmps5
  go_wp2_with fail
  refine (cut_any x 200 w hx (by omega) (by omega)).mono ?_
  rintro e w1 ⟨s, hs, rfl, rfl⟩
  have hm : s.size ≤ maxLen := by unfold maxLen; omega
  by_cases hc : chk s = 0
  · have hc1 : (chk s != 0) = false := by simpa using hc
    obtain ⟨h1, h2, _⟩ := chk_size hc
    go_wp2_with fail
    refine (turn29 s w hc).mono ?_
    rintro e w1 ⟨rfl, hb1⟩
    go_wp2_with fail
    refine (check23 s w1 hm).mono ?_
    rintro e w2 ⟨rfl, rfl⟩
    go_wp2_with fail
    refine (turn30 s w1 h1 (by omega)).mono ?_
    rintro e w2 ⟨rfl, hb2⟩
    go_wp2_with fail
    refine (lives24 w2).mono ?_
    rintro e w4 ⟨rfl, hb4⟩
    go_wp2_with fail
    go_ret
    exact ⟨rfl, below_call (below_call hb1 hb2) hb4⟩
  · have hc1 : (chk s != 0) = true := by simpa using hc
    go_wp2_with fail
    refine (turn29_bad s w hm hc).mono ?_
    rintro e w1 ⟨rfl, hb1⟩
    go_wp2_with fail
    refine (check23 s w1 hm).mono ?_
    rintro e w2 ⟨rfl, rfl⟩
    go_wp2_with fail
    refine (lives24 w1).mono ?_
    rintro e w4 ⟨rfl, hb4⟩
    go_wp2_with fail
    go_ret
    exact ⟨rfl, below_call hb1 hb4⟩
end Go.Proofs.Ytbcoaiaocfommaa
