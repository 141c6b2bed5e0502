import Derived.Test.YtbcoaiaocfommaaI
namespace Go.Proofs.Ytbcoaiaocfommaa
open Go.RowKit

theorem chk_le {s : ByteArray} : s.size ≤ maxLen ∨ 200 < s.size := by unfold maxLen; omega

theorem below_call {w w1 : World} (h : Below w.heap.size w w1) {w2 : World} (k : Below w1.heap.size w1 w2) : Below w.heap.size w w2 := below_seq h k (Nat.le_refl _)

set_option maxHeartbeats 1000000 in
set_option maxRecDepth 100000 in
theorem walk3 (x : ByteArray) (w : World) (hx : x.size ≤ maxLen) :
    Calls Try.prog 3 #[.string x] w fun e w' => e = .returned (.bool true) ∧ Below w.heap.size w w' := by
  go_enter Try.func3, Try.ntmps3
  go_wp2_with fail
  refine (cut_any x 200 w hx (by omega) (by omega)).mono ?_
  rintro e w1 ⟨s, hs, rfl, rfl⟩
  have hm : s.size ≤ maxLen := by unfold maxLen; omega
  by_cases hc : chk s = 0
  · have hc1 : (chk s != 0) = false := by simpa using hc
    obtain ⟨h1, h2, _⟩ := chk_size hc
    go_wp2_with fail
    refine (periods22 s w hc).mono ?_
    rintro e w1 ⟨v, rfl, hv, hb1⟩
    go_wp2_with fail
    refine (check23 s w1 hm).mono ?_
    rintro e w2 ⟨rfl, rfl⟩
    go_wp2_with fail
    refine (periods26 s w1 (by omega)).mono ?_
    rintro e w2 ⟨u, rfl, hu, hb2⟩
    go_wp2_with fail
    refine (same25_yes (hv.shape.below hb2) hu.shape (by have := pers_le s.data.toList s.size; omega)).mono ?_
    rintro e w3 ⟨rfl, hb3⟩
    go_wp2_with fail
    refine (lives24 w3).mono ?_
    rintro e w4 ⟨rfl, hb4⟩
    go_wp2_with fail
    go_ret
    exact ⟨rfl, below_call (below_call (below_call hb1 hb2) hb3) hb4⟩
  · have hc1 : (chk s != 0) = true := by simpa using hc
    go_wp2_with fail
    refine (periods22_bad s w hm hc).mono ?_
    rintro e w1 ⟨v, rfl, hv, hb1⟩
    obtain ⟨ao, c, rfl, _⟩ := hv.shape
    go_wp2_with fail
    refine (check23 s w1 hm).mono ?_
    rintro e w2 ⟨rfl, rfl⟩
    go_wp2_with fail
    refine (lives24 w1).mono ?_
    rintro e w4 ⟨rfl, hb4⟩
    go_wp2_with fail
    go_ret
    exact ⟨rfl, below_call hb1 hb4⟩
end Go.Proofs.Ytbcoaiaocfommaa
