import Derived.Test.YtbcoaiaocfommaaLaw3
import Derived.OpenShut
namespace Go.Proofs.Ytbcoaiaocfommaa
open Go.RowKit

theorem bd64 {n : Int} (h : (Lit.int .i64 n).wf = true) : -9223372036854775808 ≤ n ∧ n ≤ 9223372036854775807 := by
  simp [Lit.wf] at h
  exact h

def BadS (w : World) (err : Int) (e : Ending) (w' : World) : Prop := e = .returned (.tuple #[.string ⟨#[]⟩, .int .i64 err]) ∧ Below w.heap.size w w'

theorem even44_arg (p q : Int) (w : World) (hp : p ≤ 9223372036854775807) (hq : q ≤ 9223372036854775807) (h : p < 1 ∨ q < 1 ∨ 200 < p + q) :
    Calls Try.prog 44 #[.int .i64 p, .int .i64 q] w (BadS w 1) := by
  by_cases h1 : p < 1
  · have hd : decide (p < 1) = true := by simpa using h1
    go_enter Try.func44, Try.ntmps44
    go_wp2_with fail
    go_ret2
    exact ⟨rfl, Below.refl _ _⟩
  · have hd : decide (p < 1) = false := by simpa using h1
    by_cases h2 : q < 1
    · have hd2 : decide (q < 1) = true := by simpa using h2
      go_enter Try.func44, Try.ntmps44
      go_wp2_with fail
      go_ret2
      exact ⟨rfl, Below.refl _ _⟩
    · have hd2 : decide (q < 1) = false := by simpa using h2
      have h3 : 200 - q < p := by omega
      go_enter Try.func44, Try.ntmps44
      go_wp2_with fail
      go_ret2
      exact ⟨rfl, Below.refl _ _⟩

theorem even44_none (p q : Nat) (w : World) (hp : 1 ≤ p) (hq : 1 ≤ q) (h : p + q ≤ 200) (hg : 1 < Nat.gcd p q) :
    Calls Try.prog 44 #[.int .i64 p, .int .i64 q] w (BadS w 5) := by
  have hpq : ¬ ((200 : Int) - q < p) := by omega
  have hd1 : decide ((p : Int) < 1) = false := by simp; omega
  have hd2 : decide ((q : Int) < 1) = false := by simp; omega
  obtain ⟨g, hgg⟩ : ∃ g, g = Nat.gcd p q := ⟨_, rfl⟩
  rw [← hgg] at hg
  have hgg' := Lib.hid hgg
  clear hgg
  go_enter Try.func44, Try.ntmps44
  go_wp2_with (first | (go_at_call 71; refine (gcd71 _ _ _ (by omega) (by omega)).mono ?_; rw [← hgg'.out]; rintro e w1 ⟨rfl, hb1⟩))
  go_ret2
  exact ⟨rfl, hb1⟩

theorem str_ne_empty (l : List UInt8) (h : l ≠ []) : (⟨l.toArray⟩ : ByteArray).toList.isEmpty = false := by
  rw [toList_data]; simpa using h

set_option maxHeartbeats 1000000 in
set_option maxRecDepth 100000 in
theorem walk10_arg (p q : Int) (w : World) (hp : p ≤ 9223372036854775807) (hq : q ≤ 9223372036854775807) (h : p < 1 ∨ q < 1 ∨ 200 < p + q) :
    Calls Try.prog 10 #[.int .i64 p, .int .i64 q] w fun e w' => e = .returned (.bool true) ∧ Below w.heap.size w w' := by
  have hcall := Lib.hid (even44_arg p q w hp hq h)
  by_cases h1 : p < 1
  · have hd : decide (p < 1) = true := by simpa using h1
    go_enter Try.func10, Try.ntmps10
    go_wp2_with (first | (go_at_call 44; refine hcall.out.mono ?_; rintro e w1 ⟨rfl, hb1⟩) | (go_at_call 24; refine (lives24 _).mono ?_; rintro e w2 ⟨rfl, hb2⟩))
    go_ret
    exact ⟨rfl, below_call hb1 hb2⟩
  · have hd : decide (p < 1) = false := by simpa using h1
    by_cases h2 : q < 1
    · have hd2 : decide (q < 1) = true := by simpa using h2
      go_enter Try.func10, Try.ntmps10
      go_wp2_with (first | (go_at_call 44; refine hcall.out.mono ?_; rintro e w1 ⟨rfl, hb1⟩) | (go_at_call 24; refine (lives24 _).mono ?_; rintro e w2 ⟨rfl, hb2⟩))
      go_ret
      exact ⟨rfl, below_call hb1 hb2⟩
    · have hd2 : decide (q < 1) = false := by simpa using h2
      by_cases h3 : 200 < p
      · have hd3 : decide (200 < p) = true := by simpa using h3
        go_enter Try.func10, Try.ntmps10
        go_wp2_with (first | (go_at_call 44; refine hcall.out.mono ?_; rintro e w1 ⟨rfl, hb1⟩) | (go_at_call 24; refine (lives24 _).mono ?_; rintro e w2 ⟨rfl, hb2⟩))
        go_ret
        exact ⟨rfl, below_call hb1 hb2⟩
      · have hd3 : decide (200 < p) = false := by simpa using h3
        by_cases h4 : 200 < q
        · have hd4 : decide (200 < q) = true := by simpa using h4
          go_enter Try.func10, Try.ntmps10
          go_wp2_with (first | (go_at_call 44; refine hcall.out.mono ?_; rintro e w1 ⟨rfl, hb1⟩) | (go_at_call 24; refine (lives24 _).mono ?_; rintro e w2 ⟨rfl, hb2⟩))
          go_ret
          exact ⟨rfl, below_call hb1 hb2⟩
        · have hd4 : decide (200 < q) = false := by simpa using h4
          have h5 : 200 < p + q := by omega
          have hd5 : decide (200 < p + q) = true := by simpa using h5
          go_enter Try.func10, Try.ntmps10
          go_wp2_with (first | (go_at_call 44; refine hcall.out.mono ?_; rintro e w1 ⟨rfl, hb1⟩) | (go_at_call 24; refine (lives24 _).mono ?_; rintro e w2 ⟨rfl, hb2⟩))
          go_ret
          exact ⟨rfl, below_call hb1 hb2⟩

set_option maxHeartbeats 1000000 in
set_option maxRecDepth 100000 in
theorem walk10_fit (p q : Nat) (w : World) (hp : 1 ≤ p) (hq : 1 ≤ q) (h : p + q ≤ 200) :
    Calls Try.prog 10 #[.int .i64 p, .int .i64 q] w fun e w' => e = .returned (.bool true) ∧ Below w.heap.size w w' := by
  have hd1 : decide ((p : Int) < 1) = false := by simp; omega
  have hd2 : decide ((q : Int) < 1) = false := by simp; omega
  have hd3 : decide ((200 : Int) < p) = false := by simp; omega
  have hd4 : decide ((200 : Int) < q) = false := by simp; omega
  have hd5 : decide ((200 : Int) < (p : Int) + q) = false := by simp; omega
  have hpos : 1 ≤ Nat.gcd p q := Nat.gcd_pos_of_pos_left _ (by omega)
  by_cases hg : Nat.gcd p q = 1
  · have hg' := Lib.hid hg
    clear hg hpos
    have hse := Lib.hid (str_ne_empty (evenL p q (p + q)) (fun e => by have := evenL_len p q (p + q); rw [e] at this; simp at this; omega))
    have hself : ((⟨(evenL p q (p + q)).toArray⟩ : ByteArray).toList == (⟨(evenL p q (p + q)).toArray⟩ : ByteArray).toList) = true := by simp
    obtain ⟨t, ht⟩ : ∃ t : ByteArray, t = ⟨(evenL p q (p + q)).toArray⟩ := ⟨_, rfl⟩
    have ht' := Lib.hid ht
    clear ht hself
    go_enter Try.func10, Try.ntmps10
    go_wp2_with (first | (go_at_call 44; refine (even44 p q _ hp hq h hg'.out).mono ?_; rintro e w1 ⟨rfl, hb1⟩; rw [← ht'.out]) | (go_at_call 45; refine (gcd45 p q _ (by omega) (by omega)).mono ?_; rw [hg'.out]; rintro e w2 ⟨rfl, hb2⟩) | (go_at_call 46; refine (even46 p q _ hp hq (by omega)).mono ?_; rw [← ht'.out]; rintro e w3 ⟨rfl, rfl⟩) | (go_at_call 24; refine (lives24 _).mono ?_; rintro e w4 ⟨rfl, hb4⟩))
    go_ret
    exact ⟨by simp, below_call (below_call hb1 hb2) hb4⟩
  · have hg1 : 1 < Nat.gcd p q := by omega
    obtain ⟨g, hgg⟩ : ∃ g, g = Nat.gcd p q := ⟨_, rfl⟩
    have hg2 : 1 < g := by omega
    have hgg' := Lib.hid hgg
    have hg1' := Lib.hid hg1
    clear hgg hg1 hg hpos
    go_enter Try.func10, Try.ntmps10
    go_wp2_with (first | (go_at_call 44; refine (even44_none p q _ hp hq h hg1'.out).mono ?_; rintro e w1 ⟨rfl, hb1⟩) | (go_at_call 45; refine (gcd45 p q _ (by omega) (by omega)).mono ?_; rw [← hgg'.out]; rintro e w2 ⟨rfl, hb2⟩) | (go_at_call 24; refine (lives24 _).mono ?_; rintro e w4 ⟨rfl, hb4⟩))
    go_ret
    exact ⟨rfl, below_call (below_call hb1 hb2) hb4⟩

theorem walk10 (p q : Int) (w : World) (hp : (Lit.int .i64 p).wf = true) (hq : (Lit.int .i64 q).wf = true) :
    Calls Try.prog 10 #[.int .i64 p, .int .i64 q] w fun e w' => e = .returned (.bool true) ∧ Below w.heap.size w w' := by
  obtain ⟨_, hp2⟩ := bd64 hp
  obtain ⟨_, hq2⟩ := bd64 hq
  by_cases h : p < 1 ∨ q < 1 ∨ 200 < p + q
  · exact walk10_arg p q w hp2 hq2 h
  · obtain ⟨a, rfl⟩ : ∃ a : Nat, p = a := ⟨p.toNat, by omega⟩
    obtain ⟨b, rfl⟩ : ∃ b : Nat, q = b := ⟨q.toNat, by omega⟩
    exact walk10_fit a b w (by omega) (by omega) (by omega)
end Go.Proofs.Ytbcoaiaocfommaa
