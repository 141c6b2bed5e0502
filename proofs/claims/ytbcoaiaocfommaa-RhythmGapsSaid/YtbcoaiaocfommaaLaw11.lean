import Derived.Test.YtbcoaiaocfommaaY
namespace Go.Proofs.Ytbcoaiaocfommaa
open Go.RowKit

/-- A call that Gaps refuses. -/
def BadG (s c n : Int) : Prop := n < 1 ∨ 1000 < n ∨ s < 0 ∨ n ≤ s ∨ c < 1 ∨ n < c
/-- Which of the six tests refuses first. -/
theorem badG_cases {s c n : Int} (h : BadG s c n) {T : Prop}
    (k1 : decide (n < 1) = true → T)
    (k2 : decide (n < 1) = false → decide (1000 < n) = true → T)
    (k3 : decide (n < 1) = false → decide (1000 < n) = false → decide (s < 0) = true → T)
    (k4 : decide (n < 1) = false → decide (1000 < n) = false → decide (s < 0) = false → decide (n ≤ s) = true → T)
    (k5 : decide (n < 1) = false → decide (1000 < n) = false → decide (s < 0) = false → decide (n ≤ s) = false → decide (c < 1) = true → T)
    (k6 : decide (n < 1) = false → decide (1000 < n) = false → decide (s < 0) = false → decide (n ≤ s) = false → decide (c < 1) = false → decide (n < c) = true → T)
    : T := by
  unfold BadG at h
  by_cases h1 : n < 1
  · exact k1 (by simpa using h1)
  by_cases h2 : 1000 < n
  · exact k2 (by simpa using h1) (by simpa using h2)
  by_cases h3 : s < 0
  · exact k3 (by simpa using h1) (by simpa using h2) (by simpa using h3)
  by_cases h4 : n ≤ s
  · exact k4 (by simpa using h1) (by simpa using h2) (by simpa using h3) (by simpa using h4)
  by_cases h5 : c < 1
  · exact k5 (by simpa using h1) (by simpa using h2) (by simpa using h3) (by simpa using h4) (by simpa using h5)
  by_cases h6 : n < c
  · exact k6 (by simpa using h1) (by simpa using h2) (by simpa using h3) (by simpa using h4) (by simpa using h5) (by simpa using h6)
  exact absurd h (by omega)

set_option maxHeartbeats 1000000 in
set_option maxRecDepth 100000 in
theorem gaps47_arg (s c n : Int) (w : World) (h : BadG s c n) :
    Calls Try.prog 47 #[.int .i64 s, .int .i64 c, .int .i64 n] w fun e w' => e = .returned (.tuple #[.slice none 0 0, .int .i64 1]) ∧ Below w.heap.size w w' := by
  refine badG_cases h ?_ ?_ ?_ ?_ ?_ ?_
  · intro d1
    go_enter Try.func47, Try.ntmps47
    go_wp2_with fail
    go_ret2
    exact ⟨rfl, Below.refl _ _⟩
  · intro d1 d2
    go_enter Try.func47, Try.ntmps47
    go_wp2_with fail
    go_ret2
    exact ⟨rfl, Below.refl _ _⟩
  · intro d1 d2 d3
    go_enter Try.func47, Try.ntmps47
    go_wp2_with fail
    go_ret2
    exact ⟨rfl, Below.refl _ _⟩
  · intro d1 d2 d3 d4
    go_enter Try.func47, Try.ntmps47
    go_wp2_with fail
    go_ret2
    exact ⟨rfl, Below.refl _ _⟩
  · intro d1 d2 d3 d4 d5
    go_enter Try.func47, Try.ntmps47
    go_wp2_with fail
    go_ret2
    exact ⟨rfl, Below.refl _ _⟩
  · intro d1 d2 d3 d4 d5 d6
    go_enter Try.func47, Try.ntmps47
    go_wp2_with fail
    go_ret2
    exact ⟨rfl, Below.refl _ _⟩

set_option maxHeartbeats 1000000 in
set_option maxRecDepth 100000 in
theorem walk11_arg (s c n : Int) (w : World) (h : BadG s c n) :
    Calls Try.prog 11 #[.int .i64 s, .int .i64 c, .int .i64 n] w fun e w' => e = .returned (.bool true) ∧ Below w.heap.size w w' := by
  have hcall := Lib.hid (gaps47_arg s c n w h)
  refine badG_cases h ?_ ?_ ?_ ?_ ?_ ?_
  · intro d1
    go_enter Try.func11, Try.ntmps11
    go_wp2_with fail
    refine hcall.out.mono ?_
    rintro e w1 ⟨rfl, hb1⟩
    go_wp2_with (first | (go_at_call 24; refine (lives24 _).mono ?_; rintro e w2 ⟨rfl, hb2⟩))
    go_ret
    exact ⟨rfl, below_call hb1 hb2⟩
  · intro d1 d2
    go_enter Try.func11, Try.ntmps11
    go_wp2_with fail
    refine hcall.out.mono ?_
    rintro e w1 ⟨rfl, hb1⟩
    go_wp2_with (first | (go_at_call 24; refine (lives24 _).mono ?_; rintro e w2 ⟨rfl, hb2⟩))
    go_ret
    exact ⟨rfl, below_call hb1 hb2⟩
  · intro d1 d2 d3
    go_enter Try.func11, Try.ntmps11
    go_wp2_with fail
    refine hcall.out.mono ?_
    rintro e w1 ⟨rfl, hb1⟩
    go_wp2_with (first | (go_at_call 24; refine (lives24 _).mono ?_; rintro e w2 ⟨rfl, hb2⟩))
    go_ret
    exact ⟨rfl, below_call hb1 hb2⟩
  · intro d1 d2 d3 d4
    go_enter Try.func11, Try.ntmps11
    go_wp2_with fail
    refine hcall.out.mono ?_
    rintro e w1 ⟨rfl, hb1⟩
    go_wp2_with (first | (go_at_call 24; refine (lives24 _).mono ?_; rintro e w2 ⟨rfl, hb2⟩))
    go_ret
    exact ⟨rfl, below_call hb1 hb2⟩
  · intro d1 d2 d3 d4 d5
    go_enter Try.func11, Try.ntmps11
    go_wp2_with fail
    refine hcall.out.mono ?_
    rintro e w1 ⟨rfl, hb1⟩
    go_wp2_with (first | (go_at_call 24; refine (lives24 _).mono ?_; rintro e w2 ⟨rfl, hb2⟩))
    go_ret
    exact ⟨rfl, below_call hb1 hb2⟩
  · intro d1 d2 d3 d4 d5 d6
    go_enter Try.func11, Try.ntmps11
    go_wp2_with fail
    refine hcall.out.mono ?_
    rintro e w1 ⟨rfl, hb1⟩
    go_wp2_with (first | (go_at_call 24; refine (lives24 _).mono ?_; rintro e w2 ⟨rfl, hb2⟩))
    go_ret
    exact ⟨rfl, below_call hb1 hb2⟩

set_option maxHeartbeats 1000000 in
set_option maxRecDepth 100000 in
theorem walk11_fit (s c n : Nat) (w : World) (hn1 : 1 ≤ n) (hn2 : n ≤ 1000) (hs : s < n) (hc1 : 1 ≤ c) (hc2 : c ≤ n) :
    Calls Try.prog 11 #[.int .i64 s, .int .i64 c, .int .i64 n] w fun e w' => e = .returned (.bool true) ∧ Below w.heap.size w w' := by
  have d1 : decide ((n : Int) < 1) = false := by simp; omega
  have d2 : decide ((1000 : Int) < n) = false := by simp; omega
  have d3 : decide ((s : Int) < 0) = false := by simp
  have d4 : decide (n ≤ s) = false := by simp; omega
  have d5 : decide ((c : Int) < 1) = false := by simp; omega
  have d6 : decide (n < c) = false := by simp; omega
  cases hz : zeroB (circle s n c) c with
  | false =>
    have hz' := Lib.hid hz
    have hnd := Lib.hid ((zero_nodup (s := s) (c := c) hn1).1 hz)
    clear hz
    go_enter Try.func11, Try.ntmps11
    go_wp2_with fail
    refine gaps47_head s c n w hn1 hn2 hs hc1 hc2 _ (fun _ v w1 hown1 hb1 => ?_) (fun hx => by rw [hz'.out] at hx; simp at hx)
    go_wp2_with fail
    refine gaps48 s c n w1 hn1 hn2 hs hc1 hc2 _ (fun _ u w2 hown2 hb2 => ?_) (fun hx => absurd hnd.out hx)
    rw [scan_diffs hn1 hc1 hz'.out] at hown2
    go_wp2_with fail
    refine (same25_yes (hown1.shape.below hb2) hown2.shape (by rw [diffs_len]; omega)).mono ?_
    rintro e w3 ⟨rfl, hb3⟩
    go_wp2_with fail
    refine (lives24 w3).mono ?_
    rintro e w4 ⟨rfl, hb4⟩
    go_wp2_with fail
    go_ret
    exact ⟨rfl, below_call (below_call (below_call hb1 hb2) hb3) hb4⟩
  | true =>
    have hz' := Lib.hid hz
    have hnd := Lib.hid (show ¬ (pts s n c).Nodup from fun e => by have := (zero_nodup (s := s) (c := c) hn1).2 e; rw [hz] at this; simp at this)
    clear hz
    go_enter Try.func11, Try.ntmps11
    go_wp2_with fail
    refine gaps47_head s c n w hn1 hn2 hs hc1 hc2 _ (fun hx => by rw [hz'.out] at hx; simp at hx) (fun _ w1 hb1 => ?_)
    go_wp2_with fail
    refine gaps48 s c n w1 hn1 hn2 hs hc1 hc2 _ (fun hx => absurd hx hnd.out) (fun _ w2 hb2 => ?_)
    go_wp2_with fail
    refine (lives24 w2).mono ?_
    rintro e w4 ⟨rfl, hb4⟩
    go_wp2_with fail
    go_ret
    exact ⟨rfl, below_call (below_call hb1 hb2) hb4⟩

theorem walk11 (s c n : Int) (w : World) (hs : (Lit.int .i64 s).wf = true) (hc : (Lit.int .i64 c).wf = true) (hn : (Lit.int .i64 n).wf = true) :
    Calls Try.prog 11 #[.int .i64 s, .int .i64 c, .int .i64 n] w fun e w' => e = .returned (.bool true) ∧ Below w.heap.size w w' := by
  by_cases h : BadG s c n
  · exact walk11_arg s c n w h
  · have h' := h
    unfold BadG at h'
    obtain ⟨a, rfl⟩ : ∃ a : Nat, s = a := ⟨s.toNat, by omega⟩
    obtain ⟨b, rfl⟩ : ∃ b : Nat, c = b := ⟨c.toNat, by omega⟩
    obtain ⟨m, rfl⟩ : ∃ m : Nat, n = m := ⟨n.toNat, by omega⟩
    exact walk11_fit a b m w (by omega) (by omega) (by omega) (by omega) (by omega)
end Go.Proofs.Ytbcoaiaocfommaa
