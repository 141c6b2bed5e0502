import Derived.Test.YtjkbhdlbomcbeaaXj
namespace Go.Proofs.Ytjkbhdlbomcbeaa
open Go.RowKit Go.Shelf Shf

def js1 : List J := [⟨0, 4, 2, 2⟩, ⟨0, 4, 2, 2⟩]
def js2 : List J := [⟨0, 2, 2, 1⟩, ⟨0, 4, 2, 1⟩]
theorem load1 (S : Nat → Int) (t : Int) : loadAt (shOf 2 js1 []) S t = act ⟨0, 4, 2, 2⟩ (S 0) t + act ⟨0, 4, 2, 2⟩ (S 1) t := by
  show sm 2 _ = _
  simp only [sm]
  show 0 + act ⟨0, 4, 2, 2⟩ (S 0) t + act ⟨0, 4, 2, 2⟩ (S 1) t = _
  omega
theorem range1 {S : Nat → Int} (h : Sched (shOf 2 js1 []) S) : (0 ≤ S 0 ∧ S 0 ≤ 2) ∧ (0 ≤ S 1 ∧ S 1 ≤ 2) ∧ ∀ t, 0 ≤ t → t < 24 → ¬ ((S 0 ≤ t ∧ t < S 0 + 2) ∧ (S 1 ≤ t ∧ t < S 1 + 2)) := by
  have a := h.range 0 (by decide)
  have b := h.range 1 (by decide)
  have e0 : (shOf 2 js1 []).job 0 = ⟨0, 4, 2, 2⟩ := rfl
  have e1 : (shOf 2 js1 []).job 1 = ⟨0, 4, 2, 2⟩ := rfl
  rw [e0] at a
  rw [e1] at b
  simp only [lat] at a b
  refine ⟨by omega, by omega, fun t h1 h2 h3 => ?_⟩
  have := h.load t h1 h2
  rw [load1] at this
  unfold act at this
  rw [if_pos h3.1, if_pos h3.2] at this
  have hp : (shOf 2 js1 []).P = 2 := rfl
  rw [hp] at this
  simp at this
theorem first1 : First (shOf 2 js1 []) (fun i => ([0, 2] : List Int).getD i 0) := by
  refine ⟨⟨fun i hi => ?_, fun t h1 h2 => ?_, fun o ho => by cases ho⟩, fun S hS => ?_⟩
  · have : i = 0 ∨ i = 1 := by have : (shOf 2 js1 []).n = 2 := rfl; omega
    rcases this with rfl | rfl
    · exact ⟨by decide, by decide⟩
    · exact ⟨by decide, by decide⟩
  · rw [load1]
    show act ⟨0, 4, 2, 2⟩ 0 t + act ⟨0, 4, 2, 2⟩ 2 t ≤ 2
    unfold act
    simp only
    split <;> split <;> omega
  · obtain ⟨a, b, c⟩ := range1 hS
    by_cases h0 : S 0 = 0
    · have hs1 : S 1 = 2 := by
        have c0 := c 0 (by omega) (by omega)
        have c1 := c 1 (by omega) (by omega)
        omega
      refine .inl fun i hi => ?_
      have : i = 0 ∨ i = 1 := by have : (shOf 2 js1 []).n = 2 := rfl; omega
      rcases this with rfl | rfl
      · exact h0.symm
      · exact hs1.symm
    · exact .inr ⟨0, by decide, fun j hj => by omega, by show (0 : Int) < S 0; omega⟩
theorem two_list {xs : List Int} (hl : xs.length = 2) (h0 : xs.getD 0 0 = 0) (h1 : xs.getD 1 0 = 2) : xs = [0, 2] := by
  match xs, hl with
  | [a, b], _ =>
    simp at h0 h1
    rw [h0, h1]
theorem firstIs1 {xs : List Int} {err : Int} (h : FirstAns 2 js1 [] xs err) : xs = [0, 2] ∧ err = 0 := by
  rcases h with ⟨h, _⟩ | ⟨_, ⟨h, _⟩ | ⟨h1, h2, h3⟩⟩
  · exact absurd h (by decide)
  · exact absurd ⟨_, first1.is⟩ h
  · have := first_only h2 first1
    exact ⟨two_list h1 (this 0 (by decide)) (this 1 (by decide)), h3⟩
theorem shortIs1 {xs : List Int} {en err : Int} (h : ShortAns 2 js1 [] xs en err) : xs = [0, 2] ∧ en = 4 ∧ err = 0 := by
  rcases h with ⟨h, _⟩ | ⟨_, ⟨h, _⟩ | ⟨m, hm, he, h1, h2, h3⟩⟩
  · exact absurd h (by decide)
  · exact absurd ⟨_, first1.is⟩ h
  · have h4 : m = 4 := by
      obtain ⟨_, ⟨S, hS⟩, hno⟩ := hm
      have hle : m ≤ 4 := Nat.le_of_not_lt fun h => hno 4 h ⟨_, (show Sched (ending (shOf 2 js1 []) 4) _ from first1.is)⟩
      obtain ⟨hS1, hS2⟩ := (sched_ending (fun o ho => by cases ho) S).1 hS
      obtain ⟨a, b, c⟩ := range1 hS1
      have e0 := hS2 0 (by decide)
      have e1 := hS2 1 (by decide)
      rw [show ((shOf 2 js1 []).job 0).l = 2 from rfl] at e0
      rw [show ((shOf 2 js1 []).job 1).l = 2 from rfl] at e1
      have c1 := c 1 (by omega) (by omega)
      omega
    subst h4
    have h2' : First (shOf 2 js1 []) (fun i => xs.getD i 0) := h2
    have := first_only h2' first1
    exact ⟨two_list h1 (this 0 (by decide)) (this 1 (by decide)), he, h3⟩
theorem none2 : ¬ ∃ S, Sched (shOf 1 js2 [(1, 0)]) S := by
  rintro ⟨S, hS⟩
  have a := hS.range 0 (by decide)
  have b := hS.range 1 (by decide)
  have c := hS.order (1, 0) (by decide)
  have e0 : (shOf 1 js2 [(1, 0)]).job 0 = ⟨0, 2, 2, 1⟩ := rfl
  have e1 : (shOf 1 js2 [(1, 0)]).job 1 = ⟨0, 4, 2, 1⟩ := rfl
  rw [e0] at a
  rw [e1] at b
  simp only [e1, lat] at a b c
  omega
end Go.Proofs.Ytjkbhdlbomcbeaa
