import Derived.Test.YtbcoaiaocfommaaRf
namespace Go.Proofs.Ytbcoaiaocfommaa
open Go.RowKit Go.Sort

set_option maxHeartbeats 1000000 in
set_option maxRecDepth 100000 in
theorem runs35_bad (s : ByteArray) (w : World) (hs : s.size ≤ maxLen) (hc : chk s ≠ 0) :
    Calls Try.prog 35 #[.string s] w fun e w' => e = .returned (.tuple #[.slice none 0 0, .int .i64 (chk s)]) ∧ w = w' := by
  have hd : (chk s != 0) = true := by simpa using hc
  go_enter Try.func35, Try.ntmps35
  go_wp2_with (first | (go_at_call 55; refine (check55 _ _ hs).mono ?_; rintro e w1 ⟨rfl, rfl⟩))
  go_ret2
  exact ⟨rfl, rfl⟩

set_option maxHeartbeats 1000000 in
set_option maxRecDepth 100000 in
theorem runs35 (s : ByteArray) (w : World) (hc : chk s = 0) :
    Calls Try.prog 35 #[.string s] w (MadeRunsE w (rrAll s.data.toList s.size) 0) := by
  obtain ⟨h1, h2, hg⟩ := chk_size hc
  have hs : s.size ≤ 1000000 := by omega
  have hc1 : (chk s != 0) = false := by simpa using hc
  have hm : s.size ≤ maxLen := by unfold maxLen; omega
  clear hg hc
  go_enter Try.func35, Try.ntmps35
  go_wp2_with (first | (go_at_call 55; refine (check55 _ _ hm).mono ?_; rintro e w1 ⟨rfl, rfl⟩))
  go_loopw [5, 6] (fun v i wr => ∃ k : Nat, k ≤ s.size / 2 ∧ i = .int .i64 ((k : Int) + 1) ∧ Runs3 wr w.heap.size v (runsCat s.data.toList k) ∧ Below w.heap.size w wr) (fun _ i _ => s.size + 1 - (intOf i).toNat)
  case atStart => exact ⟨0, Nat.zero_le _, rfl, Runs3.nil _ _, Below.refl _ _⟩
  case round =>
    obtain ⟨k, hk, rfl, hown, hb⟩ := hrel
    have hlen := runsCat_len s.data.toList k
    have hlen2 := runsL_len s.data.toList (k + 1) (s.size + 1) 0
    rw [size_len] at hlen
    have hmul : k * (s.size + 1) ≤ 100 * 201 := Nat.mul_le_mul (by omega) (by omega)
    by_cases hlt : 2 * ((k : Int) + 1) ≤ s.size
    · have hlen' := Lib.hid (show (runsCat s.data.toList k).length + (runsL s.data.toList (k + 1) (s.size + 1) 0).length ≤ 1000000000 by omega)
      clear hlen hlen2 hmul
      have hsz := hb.size
      go_wp2_with (first | (go_at_call 62; refine (runsOf62 _ (k + 1) _ hs (by omega) (by omega)).mono ?_; rintro e w1 ⟨u, rfl, hu, hb1⟩) | (at_builtin; refine app_runs (hown.below hb1) hu hlen'.out (by have := hb1.size; omega) rfl _ _ rfl rfl rfl ?_; intro v' w2 hown2 hb2))
      go_roundw
      case rel => exact ⟨k + 1, by omega, by go_num, by rw [runsCat, size_len]; exact hown2, (below_seq hb hb1 (Nat.le_refl _)).trans hb2⟩
      case measure => simp [intOf]; omega
    · have hkl : s.size / 2 = k := by omega
      have hkl := Lib.hid hkl
      obtain ⟨ao, c, rfl⟩ := hown.slice
      have hsort := Lib.hid (sortRuns63 hown (by omega))
      clear hlen hlen2 hmul
      go_wp2_with (first | (go_at_call 63; refine hsort.out.mono ?_; rintro e w1 ⟨rfl, ys, hS, hown2, hb2⟩))
      go_ret2
      have hye : ys = rrAll s.data.toList s.size := by
        have := sorts_eq (l := s.data.toList) (ys := ys) (by rw [size_len, hkl.out]; exact hS)
        rw [size_len] at this; exact this
      have hyl : ys.length = (runsCat s.data.toList k).length := hS.1
      refine ⟨_, rfl, ?_, hb.trans hb2⟩
      rw [← hye]
      exact hown2
end Go.Proofs.Ytbcoaiaocfommaa
