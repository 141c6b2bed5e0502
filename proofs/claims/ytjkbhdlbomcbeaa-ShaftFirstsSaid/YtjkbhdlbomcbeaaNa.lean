import Derived.Test.YtjkbhdlbomcbeaaWd
import Derived.Test.YtjkbhdlbomcbeaaXb
namespace Go.Proofs.Ytjkbhdlbomcbeaa
open Go.RowKit Go.Shelf Shf

/-! Mathematics of the sums of a schedule's load. -/
theorem sm_add (f g : Nat → Int) : ∀ n, sm n (fun i => f i + g i) = sm n f + sm n g
  | 0 => rfl
  | n + 1 => by simp only [sm]; rw [sm_add f g n]; omega
theorem sm_zero {f : Nat → Int} : ∀ n, (∀ i, i < n → f i = 0) → sm n f = 0
  | 0, _ => rfl
  | n + 1, h => by simp only [sm]; rw [sm_zero n (fun i hi => h i (by omega)), h n (by omega)]; rfl
theorem sm_swap (f : Nat → Nat → Int) : ∀ a b, sm a (fun t => sm b (fun i => f i t)) = sm b (fun i => sm a (fun t => f i t))
  | 0, b => (sm_zero b (fun _ _ => rfl)).symm
  | a + 1, b => by simp only [sm]; rw [sm_swap f a b, sm_add]
theorem sm_act {j : J} {x : Int} (hx : 0 ≤ x) (hl : 0 ≤ j.l) : ∀ n : Nat, sm n (fun t => act j x (t : Int)) = (min ((n : Int)) (x + j.l) - min (n : Int) x) * j.p
  | 0 => by
    have e : min ((0 : Nat) : Int) (x + j.l) - min ((0 : Nat) : Int) x = 0 := by omega
    rw [e]; simp [sm]
  | n + 1 => by
    simp only [sm]
    rw [sm_act hx hl n]
    unfold act
    by_cases h : x ≤ (n : Int) ∧ (n : Int) < x + j.l
    · rw [if_pos h]
      have e : min (((n + 1 : Nat)) : Int) (x + j.l) - min ((n + 1 : Nat) : Int) x = (min ((n : Int)) (x + j.l) - min (n : Int) x) + 1 := by omega
      rw [e, Int.add_mul, Int.one_mul]
    · rw [if_neg h]
      have e : min (((n + 1 : Nat)) : Int) (x + j.l) - min ((n + 1 : Nat) : Int) x = (min ((n : Int)) (x + j.l) - min (n : Int) x) := by omega
      rw [e, Int.add_zero]
theorem load_sum {s : Sh} (hs : Loose s) {S : Nat → Int} (h : Sched s S) : sm 24 (fun t => loadAt s S (t : Int)) = sm s.n (fun i => (s.job i).l * (s.job i).p) := by
  unfold loadAt
  rw [sm_swap (fun i t => act (s.job i) (S i) (t : Int))]
  refine sm_congr _ fun i hi => ?_
  have hj := hs.jobs i hi
  have hr := h.range i hi
  unfold lat at hr
  rw [sm_act (by omega) (by omega)]
  have e : min ((24 : Nat) : Int) (S i + (s.job i).l) - min ((24 : Nat) : Int) (S i) = (s.job i).l := by omega
  rw [e]
theorem load_late {s : Sh} {S : Nat → Int} {e t : Int} (h : ∀ i, i < s.n → S i + (s.job i).l ≤ e) (ht : e ≤ t) : loadAt s S t = 0 :=
  sm_zero _ fun i hi => by
    have := h i hi
    unfold act
    rw [if_neg (by omega)]
theorem ends_in {s : Sh} (hs : Loose s) {S : Nat → Int} {m : Int} (h : Sched (ending s m) S) : Sched s S ∧ ∀ i, i < s.n → S i + (s.job i).l ≤ m := (sched_ending hs.orders S).1 h

/-! The contracts of First and Short, where it is known whether there is a schedule. -/
def NoL (w : World) (e : Ending) (w' : World) : Prop := ∃ a c, e = .returned (.tuple #[.slice a 0 c, .int .i64 5]) ∧ Below w.heap.size w w'
def OkL (w : World) (s : Sh) (n : Nat) (e : Ending) (w' : World) : Prop := ∃ a c xs, e = .returned (.tuple #[.slice a n c, .int .i64 0]) ∧ xs.length = n ∧ Reads w' (.slice a n c) xs ∧ First s (fun i => xs.getD i 0) ∧ Below w.heap.size w w'
def NoS (w : World) (e : Ending) (w' : World) : Prop := ∃ a c, e = .returned (.tuple #[.slice a 0 c, .int .i64 0, .int .i64 5]) ∧ Below w.heap.size w w'
def OkS (w : World) (s : Sh) (n : Nat) (e : Ending) (w' : World) : Prop := ∃ a c xs, ∃ m : Nat, e = .returned (.tuple #[.slice a n c, .int .i64 m, .int .i64 0]) ∧ xs.length = n ∧ Reads w' (.slice a n c) xs ∧ LeastEnd s m ∧ First (ending s m) (fun i => xs.getD i 0) ∧ Below w.heap.size w w'
variable {w : World} {v : Value} {P : Int} {js : List J} {os : List (Int × Int)}
theorem firstNo (h : ShV w v P js os) (hv : validB P js os = true) (h7 : js.length ≤ 7) (h21 : os.length ≤ 21) (hn : ¬ ∃ S, Sched (shOf P js os) S) : Calls Try.prog 21 #[v] w (NoL w) := by
  refine (first21 h h7 h21).mono ?_
  rintro e w' ⟨u, xs, err, rfl, hI, hb, hA⟩
  rcases hA with ⟨g, _⟩ | ⟨_, ⟨_, rfl, rfl⟩ | ⟨_, g, _⟩⟩
  · rw [hv] at g; cases g
  · obtain ⟨a, c, rfl, _⟩ := hI.shape
    exact ⟨a, c, rfl, hb⟩
  · exact absurd ⟨_, g.is⟩ hn
theorem firstOk (h : ShV w v P js os) (hv : validB P js os = true) (h7 : js.length ≤ 7) (h21 : os.length ≤ 21) (hn : ∃ S, Sched (shOf P js os) S) {n : Nat} (hjn : n = js.length) : Calls Try.prog 21 #[v] w (OkL w (shOf P js os) n) := by
  refine (first21 h h7 h21).mono ?_
  rintro e w' ⟨u, xs, err, rfl, hI, hb, hA⟩
  rcases hA with ⟨g, _⟩ | ⟨_, ⟨g, _⟩ | ⟨hl, g, rfl⟩⟩
  · rw [hv] at g; cases g
  · exact absurd hn g
  · have hl' : xs.length = n := by rw [hl, hjn]; rfl
    have hr := hI.shape
    obtain ⟨a, c, rfl, _⟩ := id hr
    rw [hl'] at hr ⊢
    exact ⟨a, c, xs, rfl, hl', hr, g, hb⟩
theorem shortNo (h : ShV w v P js os) (hv : validB P js os = true) (h7 : js.length ≤ 7) (h21 : os.length ≤ 21) (hn : ¬ ∃ S, Sched (shOf P js os) S) : Calls Try.prog 22 #[v] w (NoS w) := by
  refine (short22 h h7 h21).mono ?_
  rintro e w' ⟨u, xs, en, err, rfl, hI, hb, hA⟩
  rcases hA with ⟨g, _⟩ | ⟨_, ⟨_, rfl, rfl, rfl⟩ | ⟨m, g, _⟩⟩
  · rw [hv] at g; cases g
  · obtain ⟨a, c, rfl, _⟩ := hI.shape
    exact ⟨a, c, rfl, hb⟩
  · obtain ⟨S, hS⟩ := g.2.1
    exact absurd ⟨S, (ends_in (valid_sh hv).1.loose hS).1⟩ hn
theorem shortOk (h : ShV w v P js os) (hv : validB P js os = true) (h7 : js.length ≤ 7) (h21 : os.length ≤ 21) (hn : ∃ S, Sched (shOf P js os) S) {n : Nat} (hjn : n = js.length) : Calls Try.prog 22 #[v] w (OkS w (shOf P js os) n) := by
  refine (short22 h h7 h21).mono ?_
  rintro e w' ⟨u, xs, en, err, rfl, hI, hb, hA⟩
  rcases hA with ⟨g, _⟩ | ⟨_, ⟨g, _⟩ | ⟨m, g, rfl, hl, hF, rfl⟩⟩
  · rw [hv] at g; cases g
  · exact absurd hn g
  · have hl' : xs.length = n := by rw [hl, hjn]; rfl
    have hr := hI.shape
    obtain ⟨a, c, rfl, _⟩ := id hr
    rw [hl'] at hr ⊢
    exact ⟨a, c, xs, m, rfl, hl', hr, g, hF, hb⟩
end Go.Proofs.Ytjkbhdlbomcbeaa
