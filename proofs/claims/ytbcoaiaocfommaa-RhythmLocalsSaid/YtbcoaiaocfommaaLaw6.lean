import Derived.Test.YtbcoaiaocfommaaLaw3
namespace Go.Proofs.Ytbcoaiaocfommaa
open Go.RowKit

set_option maxHeartbeats 1000000 in
set_option maxRecDepth 100000 in
theorem walk6 (x : ByteArray) (w : World) (hx : x.size ≤ maxLen) :
    Calls Try.prog 6 #[.string x] w fun e w' => e = .returned (.bool true) ∧ Below w.heap.size w w' := by
  go_enter Try.func6, Try.ntmps6
  go_wp2_with fail
  refine (cut_any x 200 w hx (by omega) (by omega)).mono ?_
  rintro e w1 ⟨s, hs, rfl, rfl⟩
  have hm : s.size ≤ maxLen := by unfold maxLen; omega
  by_cases hc : chk s = 0
  · have hc1 : (chk s != 0) = false := by simpa using hc
    obtain ⟨h1, h2, _⟩ := chk_size hc
    go_wp2_with fail
    refine (local31 s w hc).mono ?_
    rintro e w1 ⟨v, rfl, hv, hb1⟩
    go_wp2_with fail
    refine (critical32 s w1 hc).mono ?_
    rintro e w2 ⟨u, rfl, hu, hb2⟩
    go_wp2_with fail
    refine (check23 s w2 hm).mono ?_
    rintro e w3 ⟨rfl, rfl⟩
    go_wp2_with fail
    refine (locals33 s w2 h1 (by omega)).mono ?_
    rintro e w3 ⟨v', rfl, hv', hb3⟩
    go_wp2_with fail
    refine (same25_yes ((hv.shape.below hb2).below hb3) hv'.shape (by rw [locs_len]; omega)).mono ?_
    rintro e w4 ⟨rfl, hb4⟩
    go_wp2_with fail
    refine (critical34 s w4 h1 (by omega)).mono ?_
    rintro e w5 ⟨u', rfl, hu', hb5⟩
    go_wp2_with fail
    refine (same25_yes (((hu.shape.below hb3).below hb4).below hb5) hu' (by have := crits_le s.data.toList (leastP s.data.toList) (s.size - 1); omega)).mono ?_
    rintro e w6 ⟨rfl, hb6⟩
    go_wp2_with fail
    refine (lives24 w6).mono ?_
    rintro e w7 ⟨rfl, hb7⟩
    go_wp2_with fail
    go_ret
    exact ⟨rfl, below_call (below_call (below_call (below_call (below_call (below_call hb1 hb2) hb3) hb4) hb5) hb6) hb7⟩
  · have hc1 : (chk s != 0) = true := by simpa using hc
    go_wp2_with fail
    refine (local31_bad s w hm hc).mono ?_
    rintro e w1 ⟨v, rfl, hv, hb1⟩
    obtain ⟨ao, c, rfl, _⟩ := hv.shape
    go_wp2_with fail
    refine (critical32_bad s w1 hm hc).mono ?_
    rintro e w2 ⟨v, rfl, hv, hb2⟩
    obtain ⟨ao, c, rfl, _⟩ := hv.shape
    go_wp2_with fail
    refine (check23 s w2 hm).mono ?_
    rintro e w3 ⟨rfl, rfl⟩
    go_wp2_with fail
    refine (lives24 w2).mono ?_
    rintro e w4 ⟨rfl, hb4⟩
    go_wp2_with fail
    go_ret
    exact ⟨rfl, below_call (below_call hb1 hb2) hb4⟩
end Go.Proofs.Ytbcoaiaocfommaa
