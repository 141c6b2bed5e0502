import Derived.Test.YtbemlfppekpmjaaQa
import Derived.Test.YtbemlfppekpmjaaR
namespace Go.Proofs.Ytbemlfppekpmjaa
open Go.RowKit Rng
set_option maxRecDepth 100000 in
theorem in53 {w : World} (v a b : Int) : Calls Try.prog 53 #[.int .i64 v, .int .i64 a, .int .i64 b] w fun e w' => e = .returned (.bool (decide (a ≤ v) && decide (v ≤ b))) ∧ w = w' := by
  by_cases h : a ≤ v
  · go_enter Try.func53, Try.ntmps53
    go_wp2
    go_ret
    exact ⟨ret_b (by simp [h]), rfl⟩
  · have h' : decide (v ≥ a) = false := by simpa using h
    go_enter Try.func53, Try.ntmps53
    go_wp2
    go_ret
    exact ⟨ret_b (by simp), rfl⟩
theorem in53' {w : World} (v : Int) (n : Nat) {d : Bool} (h : inB v n = d) : Calls Try.prog 53 #[.int .i64 v, .int .i64 0, .int .i64 ((n : Int) - 1)] w fun e w' => e = .returned (.bool d) ∧ w = w' := by
  refine (in53 v 0 ((n : Int) - 1)).mono ?_
  rintro e w' ⟨rfl, rfl⟩
  refine ⟨ret_b ?_, rfl⟩
  rw [← h]; unfold inB
  congr 1
  exact decide_eq_decide.2 (by omega)
set_option maxRecDepth 100000 in
theorem exists64 {w : World} {B b h c n : Nat} {fv : Value} {ts : List (Bool × Hd)} {ls : List Lt} (k : TkRow w B b h c fv n ts ls) (hn10 : n ≤ 1000) (i : Int) {d : Bool} (hd : inB i n = d) : Calls Try.prog 64 #[.pointer (some ⟨b, 0, none⟩), .int .i64 i] w fun e w' => e = .returned (.bool d) ∧ w = w' := by
  have c0 := k.c0
  have hi := Lib.hid (in53' (w := w) i n hd)
  clear k hd
  go_enter Try.func64, Try.ntmps64
  go_wp2_with (go_at_call 53; refine hi.out.mono ?_; rintro e wj ⟨rfl, rfl⟩)
  go_ret
  exact ⟨rfl, rfl⟩
def leavesB (S : WS) (i : Nat) : Bool := !(i == 0) && S.eng i && decide ((S.hd i).owed = 0)
set_option maxHeartbeats 2000000 in
set_option maxRecDepth 100000 in
theorem leaves67 {w : World} {B b h c : Nat} {fv : Value} {S : WS} (k : TkAt w B b h c fv S) {i : Nat} (hi : i < S.n) {d : Bool} (hd : leavesB S i = d) : Calls Try.prog 67 #[.pointer (some ⟨b, 0, none⟩), .int .i64 i] w fun e w' => e = .returned (.bool d) ∧ w = w' := by
  subst hd
  have c0 := k.c0
  have hnc := k.nc
  obtain ⟨-, k1, -, k3, -⟩ := k.hand hi
  obtain ⟨n, hn⟩ : ∃ n, n = S.n := ⟨_, rfl⟩
  rw [← hn] at c0 hi hnc
  have hin : (i : Int) < (n : Int) := by omega
  unfold leavesB
  obtain ⟨g, hg⟩ : ∃ g, g = S.eng i := ⟨_, rfl⟩
  obtain ⟨o, ho⟩ : ∃ g, g = (S.hd i).owed := ⟨_, rfl⟩
  rw [← hg] at k1 ⊢
  rw [← ho] at k3 ⊢
  clear k hn hg ho
  by_cases h0 : i = 0
  · subst h0
    go_enter Try.func67, Try.ntmps67
    go_wp2
    go_ret
    exact ⟨rfl, rfl⟩
  · have h1 : ((i : Int) == 0) = false := by simpa using h0
    have h1' : (i == 0) = false := by simpa using h0
    rw [h1']
    cases g
    · go_enter Try.func67, Try.ntmps67
      go_wp2
      go_ret
      exact ⟨rfl, rfl⟩
    · go_enter Try.func67, Try.ntmps67
      go_wp2
      go_ret
      exact ⟨ret_b (by by_cases e : o = 0 <;> simp [e, h0]), rfl⟩
set_option maxHeartbeats 2000000 in
set_option maxRecDepth 100000 in
theorem ended54 {w : World} {B b h c : Nat} {fv : Value} {S : WS} (k : TkAt w B b h c fv S) (hn1 : 1 ≤ S.n) : Calls Try.prog 54 #[.pointer (some ⟨b, 0, none⟩)] w fun e w' => e = .returned (.bool (endB S)) ∧ w = w' := by
  have c0 := k.c0
  have hnc := k.nc
  obtain ⟨k1, -, -, k2, -⟩ := k.hand (i := 0) (by omega)
  rw [Nat.zero_mul] at k1
  rw [Nat.zero_mul, Nat.zero_add] at k2
  obtain ⟨n, hn⟩ : ∃ n, n = S.n := ⟨_, rfl⟩
  rw [← hn] at c0 hnc hn1
  have hin : (0 : Int) < (n : Int) := by omega
  unfold endB
  obtain ⟨o, ho⟩ : ∃ o, o = (S.hd 0).owed := ⟨_, rfl⟩
  obtain ⟨x, hx⟩ : ∃ x, x = (S.hd 0).wk := ⟨_, rfl⟩
  rw [← ho, ← hx]
  rw [← ho] at k2
  rw [← hx] at k1
  clear k hn ho hx
  cases x
  · go_enter Try.func54, Try.ntmps54
    go_wp2
    go_ret
    exact ⟨ret_b (by cases o <;> simp <;> omega), rfl⟩
  · go_enter Try.func54, Try.ntmps54
    go_wp2
    go_ret
    exact ⟨rfl, rfl⟩
end Go.Proofs.Ytbemlfppekpmjaa
