import Derived.Test.YtccmabckmpelcaaLaw4
import Derived.Test.YtccmabckmpelcaaGb
import Derived.Test.YtccmabckmpelcaaKb
namespace Go.Proofs.Ytccmabckmpelcaa
open Go.RowKit

/-- What was added up ahead of the place `i` of a group, where a row begins. -/
def AlC (fs : List Int) (gs : List (List Int)) (ps : List Int) (i : Nat) (sum : Int) : Prop :=
  ∃ e : Nat, (i = 0 → e = 0) ∧ (0 < i → ps.getD (i - 1) 0 + 1 = (e : Int)) ∧ sum = Al fs gs (inG ps) e ∧ (0 < i → i < ps.length → (e : Int) < ps.getD i 0)
theorem AlC.state {fs : List Int} {gs : List (List Int)} {ps : List Int} {i : Nat} {sum : Int} (h : AlC fs gs ps i sum) : AlState fs gs ps i sum 0 := by
  obtain ⟨e, h0, h1, h2, h3⟩ := h
  exact ⟨e, fun hi => ⟨h0 hi, rfl⟩, h1, .inl ⟨h2, h3⟩⟩
theorem AlC.start (fs : List Int) (gs : List (List Int)) (ps : List Int) : AlC fs gs ps 0 0 := ⟨0, fun _ => rfl, fun h => by omega, (Al_zero fs gs _).symm, fun h => by omega⟩
/-- The row from the place `i` of the group up to, not with, its place `k`. -/
def RowSt (fs : List Int) (gs : List (List Int)) (ps : List Int) (i k : Nat) (sum : Int) (a b : Nat) : Prop :=
  i < k ∧ k ≤ ps.length ∧ ps.getD i 0 = (a : Int) ∧ ps.getD (k - 1) 0 = (b : Int) ∧ a ≤ b ∧ sum = aC fs gs (inG ps) b ∧ aSt (inG ps) b = a
theorem RowSt.start {fs : List Int} {gs : List (List Int)} {ps : List Int} {n : Int} (hg : grpFrom n 0 ps = true) {i : Nat} {sum : Int} (h : AlC fs gs ps i sum) (hi : i < ps.length) : ∃ a, RowSt fs gs ps i (i + 1) sum a a := by
  obtain ⟨q0, _, _⟩ := grp_at ps 0 hg i hi
  obtain ⟨a, ha⟩ : ∃ a : Nat, ps.getD i 0 = (a : Int) := ⟨(ps.getD i 0).toNat, by omega⟩
  obtain ⟨f', hf', _, hfa, hs⟩ := h.state.at hg hi ha
  have hfi : f' = i := by
    obtain ⟨e, h0, h1, h2, h3⟩ := h
    by_cases hi0 : 0 < i
    · have h4 := h1 hi0
      have h5 := h3 hi0 hi
      rw [hf', if_pos ⟨hi0, by omega⟩]
    · rw [hf', if_neg (fun h => hi0 h.1)]; omega
  rw [hfi, ha] at hfa
  exact ⟨a, by omega, by omega, ha, by rw [Nat.add_sub_cancel]; exact ha, Nat.le_refl _, hs, by omega⟩
theorem RowSt.step {fs : List Int} {gs : List (List Int)} {ps : List Int} {i k : Nat} {sum : Int} {a b : Nat} (h : RowSt fs gs ps i k sum a b) (hk : k < ps.length) (he : ps.getD k 0 = (b : Int) + 1) : RowSt fs gs ps i (k + 1) sum a (b + 1) := by
  obtain ⟨h1, h2, h3, h4, h5, h6, h7⟩ := h
  have hM := Al_yes (fs := fs) (gs := gs) (inG_at (show k - 1 < ps.length by omega) h4)
  exact ⟨by omega, by omega, h3, by rw [Nat.add_sub_cancel, he]; omega, by omega, by rw [hM.1, h6], by rw [hM.2, h7]⟩
theorem RowSt.close {fs : List Int} {gs : List (List Int)} {ps : List Int} {n : Int} (hg : grpFrom n 0 ps = true) {i k : Nat} {sum : Int} {a b : Nat} (h : RowSt fs gs ps i k sum a b) (he : ¬ (k < ps.length ∧ ps.getD k 0 = (b : Int) + 1)) : AlC fs gs ps k (sum + row fs gs a (b + 1)) := by
  obtain ⟨h1, h2, h3, h4, h5, h6, h7⟩ := h
  have hM := Al_yes (fs := fs) (gs := gs) (inG_at (show k - 1 < ps.length by omega) h4)
  refine ⟨b + 1, fun h => by omega, fun _ => by rw [h4]; omega, ?_, fun _ hl => ?_⟩
  · show _ = aC fs gs (inG ps) (b + 1) + row fs gs (aSt (inG ps) (b + 1)) (b + 1)
    rw [hM.1, hM.2, h6, h7]
  · have := (grp_at ps 0 hg k hl).2.2 (k - 1) (by omega)
    by_cases e : ps.getD k 0 = (b : Int) + 1
    · exact absurd ⟨hl, e⟩ he
    · omega
theorem AlC.done {fs : List Int} {gs : List (List Int)} {ps : List Int} {n : Nat} (hg : grpFrom n 0 ps = true) {sum : Int} (h : AlC fs gs ps ps.length sum) : sum = Al fs gs (inG ps) n := AlState.done hg h.state
theorem AlC.bd {fs : List Int} {gs : List (List Int)} {ps : List Int} {i : Nat} {sum : Int} {n : Nat} (hok : GOk gs) (hn : n = gs.length) (hg : grpFrom n 0 ps = true) (hi : i ≤ ps.length) (h : AlC fs gs ps i sum) : 0 ≤ sum := by
  obtain ⟨e, h0, h1, h2, h3⟩ := h
  rw [h2]
  refine Al_nn hok e ?_
  by_cases hi0 : 0 < i
  · have := h1 hi0
    have := (grp_at ps 0 hg (i - 1) (by omega)).2.1
    omega
  · rw [h0 (by omega)]; exact Nat.zero_le _
end Go.Proofs.Ytccmabckmpelcaa
