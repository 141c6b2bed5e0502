import Derived.Test.YtbcoaiaocfommaaSi
import Derived.Test.YtbcoaiaocfommaaSg
namespace Go.Proofs.Ytbcoaiaocfommaa
open Go.RowKit

theorem squares38' (s : ByteArray) (w : World) (hc : chk s = 0) :
    Calls Try.prog 38 #[.string s] w fun e w' => e = .returned (.tuple #[.int .i64 ((sqAll s.data.toList s.size).length : Nat), .int .i64 0]) ∧ Below w.heap.size w w' := by
  have := squares38 s w hc
  rw [squares_same] at this
  exact this

set_option maxHeartbeats 1000000 in
set_option maxRecDepth 100000 in
theorem walk8 (x : ByteArray) (w : World) (hx : x.size ≤ maxLen) :
    Calls Try.prog 8 #[.string x] w fun e w' => e = .returned (.bool true) ∧ Below w.heap.size w w' := by
  go_enter Try.func8, Try.ntmps8
  go_wp2_with fail
  refine (cut_any x 80 w hx (by omega) (by omega)).mono ?_
  rintro e w1 ⟨s, hs, rfl, rfl⟩
  have hm : s.size ≤ maxLen := by unfold maxLen; omega
  by_cases hc : chk s = 0
  · have hc1 : (chk s != 0) = false := by simpa using hc
    obtain ⟨h1, h2, _⟩ := chk_size hc
    have k38 := Lib.hid (fun w => squares38' s w hc)
    have k39 := Lib.hid (fun w => parts39 s w hc)
    have k23 := Lib.hid (fun w => check23 s w hm)
    have k40 := Lib.hid (fun w => squares40 s w (by omega))
    have k41 := Lib.hid (fun w => parts41 s w (by omega))
    have hc' := Lib.hid hc
    clear hc
    obtain ⟨n, hn⟩ : ∃ n, n = (sqAll s.data.toList s.size).length := ⟨_, rfl⟩
    have hpl := paAll_len s.data.toList s.size
    obtain ⟨ps, hps⟩ : ∃ ps, ps = paAll s.data.toList s.size := ⟨_, rfl⟩
    rw [← hn] at k38 k40
    rw [← hps] at k39 k41 hpl
    clear hn hps
    go_wp2_with fail
    refine (k38.out _).mono ?_
    rintro e w1 ⟨rfl, hb1⟩
    go_wp2_with fail
    refine (k39.out _).mono ?_
    rintro e w2 ⟨v, rfl, hv, hb2⟩
    go_wp2_with fail
    refine (k23.out _).mono ?_
    rw [hc'.out]
    rintro e w3 ⟨rfl, rfl⟩
    go_wp2_with fail
    refine (k40.out _).mono ?_
    rintro e w4 ⟨rfl, hb4⟩
    go_wp2_with fail
    refine (k41.out _).mono ?_
    rintro e w5 ⟨u, rfl, hu, hb5⟩
    go_wp2_with fail
    refine (same25_yes ((hv.shape.below hb4).below hb5) hu.shape (by omega)).mono ?_
    rintro e w6 ⟨rfl, hb6⟩
    go_wp2_with fail
    refine (lives24 w6).mono ?_
    rintro e w7 ⟨rfl, hb7⟩
    go_wp2_with fail
    go_ret
    exact ⟨rfl, below_call (below_call (below_call (below_call (below_call hb1 hb2) hb4) hb5) hb6) hb7⟩
  · have hc1 : (chk s != 0) = true := by simpa using hc
    have k38 := Lib.hid (fun w => squares38_bad s w hm hc)
    have k39 := Lib.hid (fun w => parts39_bad s w hm hc)
    have k23 := Lib.hid (fun w => check23 s w hm)
    clear hc
    go_wp2_with (first | (go_at_call 38; refine (k38.out _).mono ?_; rintro e w2 ⟨rfl, rfl⟩) | (go_at_call 39; refine (k39.out _).mono ?_; rintro e w2 ⟨rfl, rfl⟩) | (go_at_call 23; refine (k23.out _).mono ?_; rintro e w3 ⟨rfl, rfl⟩) | (go_at_call 24; refine (lives24 _).mono ?_; rintro e w5 ⟨rfl, hb5⟩))
    go_ret
    exact ⟨rfl, hb5⟩
end Go.Proofs.Ytbcoaiaocfommaa
