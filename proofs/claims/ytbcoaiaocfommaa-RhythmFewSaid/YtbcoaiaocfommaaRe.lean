import Derived.Test.YtbcoaiaocfommaaRd
namespace Go.Proofs.Ytbcoaiaocfommaa
open Go.RowKit Go.Shelf Go.Sort

theorem len8_0 : Lib.len8 0 = 0 := by kernel_rfl
theorem len76_none (w : World) : Calls Try.prog 76 #[.int .u64 0] w fun e w' => e = .returned (.int .i64 0) ∧ w = w' := by
  go_enter Try.func76, Try.ntmps76
  go_wp2
  go_ret
  exact ⟨by simp [len8_0, wrap64], rfl⟩
theorem ins82_none (fv : Value) (a : Option Addr) (c : Nat) (w : World) :
    Calls Try.prog 82 #[.slice a 0 c, .int .i64 0, .int .i64 0, fv] w fun e w' => e = .returned (.tuple #[]) ∧ w = w' := by
  go_enter Try.func82, Try.ntmps82
  go_wp2
  refine wp_loop_rounds 1 ?_
  rw [rounds_succ]
  go_wp2
  go_end0
  exact ⟨rfl, rfl⟩
theorem pdq75_none (fv : Value) (a : Option Addr) (c : Nat) (w : World) :
    Calls Try.prog 75 #[.slice a 0 c, .int .i64 0, .int .i64 0, .int .i64 0, fv] w fun e w' => e = .returned (.tuple #[]) ∧ w = w' := by
  go_enter Try.func75, Try.ntmps75
  go_wp2_with fail
  refine wp_loop_rounds 1 ?_
  rw [rounds_succ]
  go_wp2_with (first | (go_at_call 82; refine (ins82_none _ _ _ _).mono ?_; rintro e w1 ⟨rfl, rfl⟩))
  exact bodyPost_ret (results_none rfl _ _ _) rfl ⟨rfl, rfl⟩
theorem sort63_none (fv : Value) (a : Option Addr) (c : Nat) (w : World) :
    Calls Try.prog 63 #[.slice a 0 c, fv] w fun e w' => e = .returned (.tuple #[]) ∧ w = w' := by
  go_enter Try.func63, Try.ntmps63
  go_wp2_with (first | (go_at_call 76; refine (len76_none _).mono ?_; rintro e w1 ⟨rfl, rfl⟩) | (go_at_call 75; refine (pdq75_none _ _ _ _).mono ?_; rintro e w1 ⟨rfl, rfl⟩))
  go_end0
  exact ⟨rfl, rfl⟩

def SortsPost (B : Nat) (v : Value) (rs : List RunT) (w : World) (e : Ending) (w' : World) : Prop := e = .returned (.tuple #[]) ∧ ∃ ys, Sorts rs ys ∧ Runs3 w' B v ys ∧ Below B w w'
theorem sortRuns63 {w : World} {B : Nat} {v : Value} {rs : List RunT} (h : Runs3 w B v rs) (hl : rs.length < 1000000) :
    Calls Try.prog 63 #[v, .func (.func 64) #[] #[]] w (SortsPost B v rs w) := by
  rcases h.2 with ⟨e0, e1⟩ | ⟨g, cap, cur, rfl, hb, hg, hn, hm, hs, ht⟩
  · have e2 : rs = [] := List.length_eq_zero_iff.1 (by simpa using e1)
    subst e2; subst e0
    refine (sort63_none _ none 0 w).mono ?_
    rintro e w' ⟨rfl, rfl⟩
    exact ⟨rfl, [], ⟨rfl, List.Perm.refl _, fun i j _ hj => by simp at hj⟩, h, Below.refl _ _⟩
  · obtain ⟨hB, hlt, hH⟩ := holds_runs h
    refine (sort63 g cap rs w hH hlt hl).mono ?_
    rintro e w' ⟨rfl, d', n, os, h1, h2, rfl⟩
    have hS := sorts_of h1 h2
    refine ⟨rfl, d'.toList, hS, ?_, below_putK (Below.refl B w) hB hlt os⟩
    have h3 := runs_put (q := n) h hS.1
    have h4 := own_grow h3 os
    rw [hS.1] at h4
    unfold Runs3
    rw [hS.1]
    exact h4
end Go.Proofs.Ytbcoaiaocfommaa
