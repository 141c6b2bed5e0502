import Derived.Test.YtpcjigdmfchbdaaDoorV
import Derived.Test.YtpcjigdmfchbdaaDoorShA
import Derived.Lib.OwnBridge
namespace Go.Proofs.YtpcjigdmfchbdaaDoor
open Go.RowKit Go.Shelf Cl Go.Sort

/-! ## Lists of sets in order -/
theorem cmpI_neg (a b : Int) : cmpI a b = - cmpI b a := by unfold cmpI; split <;> split <;> omega
theorem cmpI_zero {a b : Int} (h : cmpI a b = 0) : a = b := by unfold cmpI at h; split at h <;> (try split at h) <;> omega
theorem cmpI_self (a : Int) : cmpI a a = 0 := by unfold cmpI; simp
theorem cmpI_trans {a b c : Int} (h : cmpI a b ≤ 0) (k : cmpI b c ≤ 0) : cmpI a c ≤ 0 ∧ (cmpI a b < 0 ∨ cmpI b c < 0 → cmpI a c < 0) := by
  unfold cmpI at *
  constructor
  · repeat' split at h
    all_goals repeat' split at k
    all_goals repeat' split
    all_goals omega
  · intro h2
    repeat' split at h
    all_goals repeat' split at k
    all_goals repeat' split
    all_goals first | omega | (rcases h2 with h2 | h2 <;> (repeat' split at h2) <;> omega)
theorem cmpL_cons (x y : Int) (xs ys : List Int) : cmpL (x :: xs) (y :: ys) = if cmpI x y = 0 then cmpL xs ys else cmpI x y := rfl
theorem cmpL_self : ∀ a : List Int, cmpL a a = 0
  | [] => rfl
  | x :: xs => by unfold cmpL; rw [cmpI_self, if_pos rfl]; exact cmpL_self xs
theorem cmpL_neg : ∀ a b : List Int, cmpL a b = - cmpL b a
  | [], [] => rfl
  | [], _ :: _ => rfl
  | _ :: _, [] => rfl
  | x :: xs, y :: ys => by
    unfold cmpL
    have h := cmpI_neg x y
    by_cases e : cmpI x y = 0
    · rw [if_pos e, if_pos (by omega)]; exact cmpL_neg xs ys
    · rw [if_neg e, if_neg (by omega)]; exact h
theorem cmpL_zero : ∀ {a b : List Int}, cmpL a b = 0 → a = b
  | [], [], _ => rfl
  | [], _ :: _, h => by simp [cmpL] at h
  | _ :: _, [], h => by simp [cmpL] at h
  | x :: xs, y :: ys, h => by
    unfold cmpL at h
    by_cases e : cmpI x y = 0
    · rw [if_pos e] at h
      rw [cmpI_zero e, cmpL_zero h]
    · rw [if_neg e] at h; exact absurd h e
theorem cmpL_trans : ∀ {a b c : List Int}, cmpL a b ≤ 0 → cmpL b c ≤ 0 → cmpL a c ≤ 0 ∧ (cmpL a b < 0 ∨ cmpL b c < 0 → cmpL a c < 0)
  | [], [], [], _, _ => by simp [cmpL]
  | [], [], _ :: _, _, _ => by simp [cmpL]
  | [], _ :: _, [], _, k => by simp [cmpL] at k
  | [], _ :: _, _ :: _, _, _ => by simp [cmpL]
  | _ :: _, [], _, h, _ => by simp [cmpL] at h
  | _ :: _, _ :: _, [], _, k => by simp [cmpL] at k
  | x :: xs, y :: ys, z :: zs, h, k => by
    have ih := @cmpL_trans xs ys zs
    have hx := cmpI_zero (a := x) (b := y)
    have hy := cmpI_zero (a := y) (b := z)
    have ht := cmpI_trans (a := x) (b := y) (c := z)
    simp only [cmpL_cons] at h k ⊢
    by_cases e1 : cmpI x y = 0
    · obtain rfl := hx e1
      rw [if_pos e1] at h ⊢
      by_cases e2 : cmpI x z = 0
      · rw [if_pos e2] at k ⊢
        rw [if_pos e2]
        exact ih h k
      · rw [if_neg e2] at k ⊢
        exact ⟨k, fun _ => by omega⟩
    · rw [if_neg e1] at h ⊢
      by_cases e2 : cmpI y z = 0
      · obtain rfl := hy e2
        rw [if_pos e2] at k ⊢
        rw [if_neg e1]
        exact ⟨h, fun _ => by omega⟩
      · rw [if_neg e2] at k ⊢
        have h3 : cmpI x z < 0 := (ht h k).2 (.inl (by omega))
        rw [if_neg (by omega)]
        exact ⟨by omega, fun _ => h3⟩
/-- The order of sets as they are listed. -/
def ltL (a b : List Int) : Bool := decide (cmpL a b < 0)
def insL (out : List (List Int)) (l : List Int) : List (List Int) := out.takeWhile (fun x => ltL x l) ++ l :: out.dropWhile (fun x => ltL x l)
def srt (xss : List (List Int)) : List (List Int) := xss.foldl insL []
def LeL (a b : List Int) : Prop := cmpL a b ≤ 0
theorem leL_trans {a b c : List Int} (h : LeL a b) (k : LeL b c) : LeL a c := (cmpL_trans h k).1
theorem leL_of {a b : List Int} (h : ltL a b = false) : LeL b a := by
  unfold ltL at h
  have := cmpL_neg a b
  simp only [decide_eq_false_iff_not] at h
  unfold LeL
  omega
theorem leL_lt {a b : List Int} (h : ltL a b = true) : LeL a b := by
  unfold ltL at h
  simp only [decide_eq_true_eq] at h
  unfold LeL
  omega
theorem insL_perm (out : List (List Int)) (l : List Int) : (insL out l).Perm (l :: out) := by
  unfold insL
  refine (List.perm_middle).trans ?_
  rw [List.takeWhile_append_dropWhile]
theorem mem_takeWhile_lt {out : List (List Int)} {l x : List Int} (h : x ∈ out.takeWhile (fun x => ltL x l)) : ltL x l = true := by
  induction out with
  | nil => simp at h
  | cons y ys ih =>
    rw [List.takeWhile_cons] at h
    by_cases e : ltL y l = true
    · rw [if_pos e] at h
      rcases List.mem_cons.1 h with h | h
      · rw [h]; exact e
      · exact ih h
    · rw [if_neg e] at h; simp at h
theorem insL_sorted {out : List (List Int)} (l : List Int) (h : out.Pairwise LeL) : (insL out l).Pairwise LeL := by
  induction out with
  | nil => simp [insL]
  | cons y ys ih =>
    obtain ⟨h1, h2⟩ := List.pairwise_cons.1 h
    by_cases e : ltL y l = true
    · have e2 : insL (y :: ys) l = y :: insL ys l := by unfold insL; rw [List.takeWhile_cons, if_pos e, List.dropWhile_cons, if_pos e]; rfl
      rw [e2, List.pairwise_cons]
      refine ⟨fun z hz => ?_, ih h2⟩
      rcases List.mem_cons.1 ((insL_perm ys l).mem_iff.1 hz) with hz | hz
      · rw [hz]; exact leL_lt e
      · exact h1 z hz
    · have e2 : insL (y :: ys) l = l :: y :: ys := by unfold insL; rw [List.takeWhile_cons, if_neg e, List.dropWhile_cons, if_neg e]; rfl
      have hly : LeL l y := leL_of (by simpa using e)
      rw [e2, List.pairwise_cons]
      refine ⟨fun z hz => ?_, h⟩
      rcases List.mem_cons.1 hz with hz | hz
      · rw [hz]; exact hly
      · exact leL_trans hly (h1 z hz)
theorem srt_go (xss out : List (List Int)) (h : out.Pairwise LeL) : (xss.foldl insL out).Pairwise LeL ∧ (xss.foldl insL out).Perm (out ++ xss) := by
  induction xss generalizing out with
  | nil => exact ⟨h, by simp⟩
  | cons x xs ih =>
    rw [List.foldl_cons]
    obtain ⟨h1, h2⟩ := ih (insL out x) (insL_sorted x h)
    refine ⟨h1, h2.trans ?_⟩
    refine ((insL_perm out x).append_right xs).trans ?_
    rw [List.cons_append]
    exact (List.perm_middle).symm
theorem srt_sorted (xss : List (List Int)) : (srt xss).Pairwise LeL := (srt_go xss [] List.Pairwise.nil).1
theorem srt_perm (xss : List (List Int)) : (srt xss).Perm xss := by have := (srt_go xss [] List.Pairwise.nil).2; simpa [srt] using this
theorem srt_unique {xss yss : List (List Int)} (h : yss.Perm xss) (hs : yss.Pairwise LeL) : yss = srt xss :=
  List.Perm.eq_of_pairwise (fun a b _ _ h1 h2 => cmpL_zero (by have := cmpL_neg a b; unfold LeL at h1 h2; omega)) hs (srt_sorted xss) (h.trans (srt_perm xss).symm)
end Go.Proofs.YtpcjigdmfchbdaaDoor
