import Derived.Test.YtbcoaiaocfommaaRg
namespace Go.Proofs.Ytbcoaiaocfommaa
open Go.RowKit

set_option maxHeartbeats 1000000 in
set_option maxRecDepth 100000 in
theorem walk7 (x : ByteArray) (w : World) (hx : x.size ≤ maxLen) :
    Calls Try.prog 7 #[.string x] w fun e w' => e = .returned (.bool true) ∧ Below w.heap.size w w' := by
  go_enter Try.func7, Try.ntmps7
  go_wp2_with fail
  refine (cut_any x 60 w hx (by omega) (by omega)).mono ?_
  rintro e w1 ⟨s, hs, rfl, rfl⟩
  have hm : s.size ≤ maxLen := by unfold maxLen; omega
  by_cases hc : chk s = 0
  · have hc1 : (chk s != 0) = false := by simpa using hc
    obtain ⟨h1, h2, _⟩ := chk_size hc
    have k35 := Lib.hid (fun w => runs35 s w hc)
    have k23 := Lib.hid (fun w => check23 s w hm)
    have k37 := Lib.hid (fun w => runs37 s w (by omega))
    have hc' := Lib.hid hc
    have hln := rrAll_len s.data.toList s.size
    rw [size_len] at hln
    have hmul : s.size * s.size ≤ 200 * 200 := Nat.mul_le_mul h2 h2
    clear hc
    obtain ⟨rs, hrs⟩ : ∃ rs, rs = rrAll s.data.toList s.size := ⟨_, rfl⟩
    rw [← hrs] at k35 k37 hln
    clear hrs
    go_wp2_with fail
    refine (k35.out _).mono ?_
    rintro e w1 ⟨v, rfl, hv, hb1⟩
    go_wp2_with fail
    refine (k23.out _).mono ?_
    rw [hc'.out]
    rintro e w3 ⟨rfl, rfl⟩
    go_wp2_with fail
    refine (k37.out _).mono ?_
    rintro e w4 ⟨u, rfl, hu, hb4⟩
    go_wp2_with fail
    refine (same36_yes (hv.shape.below hb4) hu.shape (by omega)).mono ?_
    rintro e w6 ⟨rfl, hb6⟩
    go_wp2_with fail
    refine (lives24 w6).mono ?_
    rintro e w7 ⟨rfl, hb7⟩
    go_wp2_with fail
    go_ret
    exact ⟨rfl, below_call (below_call (below_call hb1 hb4) hb6) hb7⟩
  · have hc1 : (chk s != 0) = true := by simpa using hc
    have k35 := Lib.hid (fun w => runs35_bad s w hm hc)
    have k23 := Lib.hid (fun w => check23 s w hm)
    clear hc
    go_wp2_with (first | (go_at_call 35; refine (k35.out _).mono ?_; rintro e w2 ⟨rfl, rfl⟩) | (go_at_call 23; refine (k23.out _).mono ?_; rintro e w3 ⟨rfl, rfl⟩) | (go_at_call 24; refine (lives24 _).mono ?_; rintro e w5 ⟨rfl, hb5⟩))
    go_ret
    exact ⟨rfl, hb5⟩
end Go.Proofs.Ytbcoaiaocfommaa
