import Derived.Test.YtbcoaiaocfommaaBf
namespace Go.Proofs.Ytbcoaiaocfommaa
open Go.RowKit

set_option maxHeartbeats 1000000 in
set_option maxRecDepth 100000 in
theorem walk9 (x : ByteArray) (w : World) (hx : x.size ≤ maxLen) :
    Calls Try.prog 9 #[.string x] w fun e w' => e = .returned (.bool true) ∧ Below w.heap.size w w' := by
  go_enter Try.func9, Try.ntmps9
  go_wp2_with fail
  refine (cut_any x 100 w hx (by omega) (by omega)).mono ?_
  rintro e w1 ⟨s, hs, rfl, rfl⟩
  have hm : s.size ≤ maxLen := by unfold maxLen; omega
  by_cases hc : chk s = 0
  · have hc1 : (chk s != 0) = false := by simpa using hc
    obtain ⟨h1, h2, _⟩ := chk_size hc
    have hbal := Lib.hid (fun w => balanced42 s w hc)
    have href := Lib.hid (fun w => balanced43 s w (by omega))
    have hchk := Lib.hid (fun w => check23 s w hm)
    have hc' := Lib.hid hc
    clear hc
    obtain ⟨b, hb⟩ : ∃ b, b = balB s.data.toList := ⟨_, rfl⟩
    rw [← hb] at hbal href
    clear hb
    cases b
    · go_wp2_with (first | (go_at_call 42; refine (hbal.out _).mono ?_; rintro e w2 ⟨rfl, hb2⟩) | (go_at_call 23; refine (hchk.out _).mono ?_; rw [hc'.out]; rintro e w3 ⟨rfl, rfl⟩) | (go_at_call 43; refine (href.out _).mono ?_; rintro e w4 ⟨rfl, hb4⟩) | (go_at_call 24; refine (lives24 _).mono ?_; rintro e w5 ⟨rfl, hb5⟩))
      go_ret
      exact ⟨rfl, below_call (below_call hb2 hb4) hb5⟩
    · go_wp2_with (first | (go_at_call 42; refine (hbal.out _).mono ?_; rintro e w2 ⟨rfl, hb2⟩) | (go_at_call 23; refine (hchk.out _).mono ?_; rw [hc'.out]; rintro e w3 ⟨rfl, rfl⟩) | (go_at_call 43; refine (href.out _).mono ?_; rintro e w4 ⟨rfl, hb4⟩) | (go_at_call 24; refine (lives24 _).mono ?_; rintro e w5 ⟨rfl, hb5⟩))
      go_ret
      exact ⟨rfl, below_call (below_call hb2 hb4) hb5⟩
  · have hc1 : (chk s != 0) = true := by simpa using hc
    have hbal := Lib.hid (fun w => balanced42_bad s w hm hc)
    have hchk := Lib.hid (fun w => check23 s w hm)
    clear hc
    go_wp2_with (first | (go_at_call 42; refine (hbal.out _).mono ?_; rintro e w2 ⟨rfl, rfl⟩) | (go_at_call 23; refine (hchk.out _).mono ?_; rintro e w3 ⟨rfl, rfl⟩) | (go_at_call 24; refine (lives24 _).mono ?_; rintro e w5 ⟨rfl, hb5⟩))
    go_ret
    exact ⟨rfl, hb5⟩
end Go.Proofs.Ytbcoaiaocfommaa
