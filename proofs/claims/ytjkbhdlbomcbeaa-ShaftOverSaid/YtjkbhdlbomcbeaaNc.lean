import Derived.Test.YtjkbhdlbomcbeaaZi
import Derived.Test.YtjkbhdlbomcbeaaNb
namespace Go.Proofs.Ytjkbhdlbomcbeaa
open Go.RowKit Go.Shelf Shf

/-! What any schedule has in an interval, and what is needed there. -/
theorem need_le {j : J} (hj : JobIn j) {x : Int} (h1 : j.f ≤ x) (h2 : x ≤ lat j) {a b : Nat} (hab : a < b) : needJ j a b ≤ sm b (fun t => act j x (t : Int)) - sm a (fun t => act j x (t : Int)) := by
  unfold JobIn at hj
  unfold lat at h2
  rw [sm_act (by omega) (by omega), sm_act (by omega) (by omega), ← Int.sub_mul, Int.mul_comm]
  unfold needJ lat
  refine Int.mul_le_mul_of_nonneg_left ?_ (by omega)
  omega
theorem sm_sub (f g : Nat → Int) : ∀ n, sm n (fun i => f i - g i) = sm n f - sm n g
  | 0 => rfl
  | n + 1 => by simp only [sm]; rw [sm_sub f g n]; omega
theorem needs_le {s : Sh} (hs : Loose s) {S : Nat → Int} (h : Sched s S) {a b : Nat} (hab : a < b) : needS s.js a b s.n ≤ sm b (fun t => loadAt s S (t : Int)) - sm a (fun t => loadAt s S (t : Int)) := by
  unfold loadAt
  rw [sm_swap (fun i t => act (s.job i) (S i) (t : Int)), sm_swap (fun i t => act (s.job i) (S i) (t : Int)), ← sm_sub]
  exact sm_le _ fun i hi => need_le (hs.jobs i hi) (h.range i hi).1 (h.range i hi).2 hab
theorem sm_more {f : Nat → Int} {c : Int} (a : Nat) : ∀ d, (∀ i, a ≤ i → i < a + d → f i ≤ c) → sm (a + d) f - sm a f ≤ c * d
  | 0, _ => by simp
  | d + 1, h => by
    have h1 := sm_more a d (fun i h1 h2 => h i h1 (by omega))
    have h2 := h (a + d) (by omega) (by omega)
    rw [← Nat.add_assoc]
    simp only [sm]
    rw [show ((d + 1 : Nat) : Int) = (d : Int) + 1 from by omega, Int.mul_add, Int.mul_one]
    omega
/-- A shaft with a schedule has no overfull interval. -/
theorem never_over {s : Sh} (hs : Loose s) {S : Nat → Int} (h : Sched s S) {a b : Nat} (hab : a < b) (hb : b ≤ 24) : ovB s.P s.js a b = false := by
  have h1 := needs_le hs h hab
  have h2 := sm_more (f := fun t => loadAt s S (t : Int)) (c := s.P) a (b - a) (fun i h1 h2 => h.load i (by omega) (by omega))
  rw [show a + (b - a) = b from by omega] at h2
  unfold ovB
  rw [decide_eq_false_iff_not]
  have e : ((b - a : Nat) : Int) = (b : Int) - a := by omega
  rw [e] at h2
  show ¬ s.P * ((b : Int) - a) < needS s.js a b s.n
  omega
theorem not_over {P : Int} {js : List J} {os : List (Int × Int)} (hs : Loose (shOf P js os)) (h : ∃ S, Sched (shOf P js os) S) : OverIs P js 0 0 false := by
  obtain ⟨S, hS⟩ := h
  exact .inr ⟨rfl, rfl, rfl, fun x y h1 h2 _ => never_over hs hS h1 h2⟩
end Go.Proofs.Ytjkbhdlbomcbeaa
