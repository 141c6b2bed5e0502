import Derived.Test.YtccmabckmpelcaaSa
namespace Go.Proofs.Ytccmabckmpelcaa

/-! ## The worth alone of a group -/
def row (fs : List Int) (gs : List (List Int)) (a b : Nat) : Int := bestW (part fs a b) (part gs a b)
def aSt (M : Nat → Bool) : Nat → Nat
  | 0 => 0
  | k + 1 => if M k then aSt M k else k + 1
def aC (fs : List Int) (gs : List (List Int)) (M : Nat → Bool) : Nat → Int
  | 0 => 0
  | k + 1 => if M k then aC fs gs M k else aC fs gs M k + row fs gs (aSt M k) k
/-- The worth of the rows of the group among the first `k` places. -/
def Al (fs : List Int) (gs : List (List Int)) (M : Nat → Bool) (k : Nat) : Int := aC fs gs M k + row fs gs (aSt M k) k
theorem row_nil (fs : List Int) (gs : List (List Int)) (a b : Nat) (h : b ≤ a) : row fs gs a b = 0 := by
  unfold row part
  rw [show b - a = 0 by omega]
  simp [bestW, bestU, greedy, worthL]
theorem aSt_le (M : Nat → Bool) : ∀ k, aSt M k ≤ k := by
  intro k
  induction k with
  | zero => exact Nat.le_refl _
  | succ k ih => unfold aSt; split <;> omega
theorem Al_not {fs : List Int} {gs : List (List Int)} {M : Nat → Bool} {k : Nat} (h : M k = false) : aC fs gs M (k + 1) = Al fs gs M k ∧ aSt M (k + 1) = k + 1 ∧ Al fs gs M (k + 1) = Al fs gs M k := by
  have h1 : aC fs gs M (k + 1) = Al fs gs M k := by rw [aC, if_neg (by rw [h]; simp)]; rfl
  have h2 : aSt M (k + 1) = k + 1 := by rw [aSt, if_neg (by rw [h]; simp)]
  refine ⟨h1, h2, ?_⟩
  show aC fs gs M (k + 1) + row fs gs (aSt M (k + 1)) (k + 1) = _
  rw [h1, h2, row_nil _ _ _ _ (Nat.le_refl _)]
  omega
theorem Al_yes {fs : List Int} {gs : List (List Int)} {M : Nat → Bool} {k : Nat} (h : M k = true) : aC fs gs M (k + 1) = aC fs gs M k ∧ aSt M (k + 1) = aSt M k := by
  rw [aC, aSt, if_pos h, if_pos h]; exact ⟨rfl, rfl⟩
/-- No place of the group from `a` on. -/
theorem Al_gap {fs : List Int} {gs : List (List Int)} {M : Nat → Bool} {a : Nat} : ∀ b, a ≤ b → (∀ k, a ≤ k → k < b → M k = false) → Al fs gs M b = Al fs gs M a ∧ (a < b → aC fs gs M b = Al fs gs M a ∧ aSt M b = b) := by
  intro b
  induction b with
  | zero => intro h _; obtain rfl : a = 0 := by omega
            exact ⟨rfl, fun h => by omega⟩
  | succ b ih =>
    intro h hM
    by_cases e : a = b + 1
    · subst e; exact ⟨rfl, fun h => by omega⟩
    · obtain ⟨i1, _⟩ := ih (by omega) (fun k h1 h2 => hM k h1 (by omega))
      obtain ⟨n1, n2, n3⟩ := Al_not (fs := fs) (gs := gs) (hM b (by omega) (by omega))
      exact ⟨by rw [n3, i1], fun _ => ⟨by rw [n1, i1], n2⟩⟩
theorem Al_zero (fs : List Int) (gs : List (List Int)) (M : Nat → Bool) : Al fs gs M 0 = 0 := by
  unfold Al; rw [aC, aSt, row_nil _ _ _ _ (Nat.le_refl _)]; rfl

theorem grp_at {n : Int} : ∀ (ps : List Int) (m : Int), grpFrom n m ps = true → ∀ j, j < ps.length → m ≤ ps.getD j 0 ∧ ps.getD j 0 < n ∧ ∀ i, i < j → ps.getD i 0 < ps.getD j 0 := by
  intro ps
  induction ps with
  | nil => intro m _ j h; simp at h
  | cons p r ih =>
    intro m h j hj
    unfold grpFrom at h
    simp only [Bool.and_eq_true, decide_eq_true_eq] at h
    obtain ⟨⟨h1, h2⟩, h3⟩ := h
    cases j with
    | zero => exact ⟨by simpa using h1, by simpa using h2, fun i hi => by omega⟩
    | succ j =>
      obtain ⟨a1, a2, a3⟩ := ih (p + 1) h3 j (by simpa using hj)
      refine ⟨by simp at a1 ⊢; omega, by simpa using a2, fun i hi => ?_⟩
      cases i with
      | zero => simp at a1 ⊢; omega
      | succ i => simpa using a3 i (by omega)
def inG (ps : List Int) (j : Nat) : Bool := decide (((j : Nat) : Int) ∈ ps)
theorem inG_at {ps : List Int} {j q : Nat} (hj : j < ps.length) (hq : ps.getD j 0 = (q : Int)) : inG ps q = true := by
  unfold inG
  rw [decide_eq_true_eq, ← hq, List.getD_eq_getElem?_getD, List.getElem?_eq_getElem hj]
  exact List.getElem_mem _
theorem inG_gap {n : Int} {ps : List Int} (_ : grpFrom n 0 ps = true) {i : Nat} {k : Nat} (h1 : ∀ j, j < i → j < ps.length → ps.getD j 0 < k) (h2 : ∀ j, i ≤ j → j < ps.length → (k : Int) < ps.getD j 0) : inG ps k = false := by
  unfold inG
  rw [decide_eq_false_iff_not]
  intro hm
  obtain ⟨j, hj, e⟩ := List.mem_iff_getElem.1 hm
  have e2 : ps.getD j 0 = (k : Int) := by rw [List.getD_eq_getElem?_getD, List.getElem?_eq_getElem hj]; simpa using e
  by_cases c : j < i
  · have := h1 j c hj; omega
  · have := h2 j (by omega) hj; omega

/-- The state of the walk over a group, ahead of its place `i`: what was added up, and the first place of the row that is open. -/
def AlState (fs : List Int) (gs : List (List Int)) (ps : List Int) (i : Nat) (sum : Int) (f : Nat) : Prop :=
  ∃ e : Nat, (i = 0 → e = 0 ∧ f = 0) ∧ (0 < i → ps.getD (i - 1) 0 + 1 = (e : Int)) ∧
    ((sum = Al fs gs (inG ps) e ∧ (0 < i → i < ps.length → (e : Int) < ps.getD i 0)) ∨
     (sum = aC fs gs (inG ps) e ∧ 0 < i ∧ i < ps.length ∧ ps.getD i 0 = (e : Int) ∧ f < ps.length ∧ ps.getD f 0 = (aSt (inG ps) e : Int)))
/-- At the place `i`, which is `q`: where the row begins. -/
theorem AlState.at {fs : List Int} {gs : List (List Int)} {ps : List Int} {n : Int} (hg : grpFrom n 0 ps = true) {i q : Nat} {sum : Int} {f : Nat} (h : AlState fs gs ps i sum f) (hi : i < ps.length) (hq : ps.getD i 0 = (q : Int)) :
    ∃ f' : Nat, f' = (if 0 < i ∧ ps.getD (i - 1) 0 + 1 < (q : Int) then i else f) ∧ f' < ps.length ∧ ps.getD f' 0 = (aSt (inG ps) q : Int) ∧ sum = aC fs gs (inG ps) q := by
  obtain ⟨e, h0, h1, h2⟩ := h
  refine ⟨_, rfl, ?_⟩
  rcases h2 with ⟨hs, hlt⟩ | ⟨hs, hi0, _, hqe, hf, hfa⟩
  · by_cases hi0 : 0 < i
    · have he := h1 hi0
      have hlt := hlt hi0 hi
      rw [if_pos ⟨hi0, by omega⟩]
      have hgap := Al_gap (fs := fs) (gs := gs) (M := inG ps) (a := e) q (by omega) (fun k k1 k2 => inG_gap hg (i := i) (fun j j1 j2 => by
        have : ps.getD j 0 ≤ ps.getD (i - 1) 0 := by
          by_cases ej : j = i - 1
          · rw [ej]; exact Int.le_refl _
          · exact Int.le_of_lt ((grp_at ps 0 hg (i - 1) (by omega)).2.2 j (by omega))
        omega) (fun j j1 j2 => by
        by_cases ej : j = i
        · rw [ej]; omega
        · have := (grp_at ps 0 hg j j2).2.2 i (by omega); omega))
      obtain ⟨g1, g2⟩ := hgap.2 (by omega)
      exact ⟨hi, by rw [g2, hq], by rw [hs, g1]⟩
    · have hi00 : i = 0 := by omega
      obtain ⟨e0, f0⟩ := h0 hi00
      subst hi00 e0 f0
      rw [if_neg (by omega)]
      by_cases hq0 : q = 0
      · subst hq0
        exact ⟨hi, by rw [hq]; rfl, by rw [hs, Al_zero]; rfl⟩
      · have hgap := Al_gap (fs := fs) (gs := gs) (M := inG ps) (a := 0) q (by omega) (fun k k1 k2 => inG_gap hg (i := 0) (fun j j1 j2 => by omega) (fun j j1 j2 => by
          by_cases ej : j = 0
          · rw [ej]; omega
          · have := (grp_at ps 0 hg j j2).2.2 0 (by omega); omega))
        obtain ⟨g1, g2⟩ := hgap.2 (by omega)
        exact ⟨hi, by rw [g2, hq], by rw [hs, g1]⟩
  · have he := h1 hi0
    have hqe2 : q = e := by omega
    subst hqe2
    rw [if_neg (by omega)]
    exact ⟨hf, hfa, hs⟩
/-- The row is closed. -/
theorem AlState.close {fs : List Int} {gs : List (List Int)} {ps : List Int} {i q : Nat} {sum : Int} {f : Nat} (hi : i < ps.length) (hq : ps.getD i 0 = (q : Int)) (hs : sum = aC fs gs (inG ps) q) (hend : i + 1 < ps.length → (q : Int) + 1 < ps.getD (i + 1) 0) :
    AlState fs gs ps (i + 1) (sum + row fs gs (aSt (inG ps) q) (q + 1)) f := by
  have hM := Al_yes (fs := fs) (gs := gs) (inG_at hi hq)
  refine ⟨q + 1, fun h => by omega, fun _ => by rw [Nat.add_sub_cancel, hq]; omega, .inl ⟨?_, fun _ h => by have := hend h; omega⟩⟩
  show _ = aC fs gs (inG ps) (q + 1) + row fs gs (aSt (inG ps) (q + 1)) (q + 1)
  rw [hM.1, hM.2, hs]
/-- The row goes on. -/
theorem AlState.go {fs : List Int} {gs : List (List Int)} {ps : List Int} {i q : Nat} {sum : Int} {f : Nat} (hi : i + 1 < ps.length) (hq : ps.getD i 0 = (q : Int)) (hs : sum = aC fs gs (inG ps) q) (hf : f < ps.length) (hfa : ps.getD f 0 = (aSt (inG ps) q : Int)) (hnext : ps.getD (i + 1) 0 = (q : Int) + 1) :
    AlState fs gs ps (i + 1) sum f := by
  have hM := Al_yes (fs := fs) (gs := gs) (inG_at (show i < ps.length by omega) hq)
  exact ⟨q + 1, fun h => by omega, fun _ => by rw [Nat.add_sub_cancel, hq]; omega, .inr ⟨by rw [hM.1, hs], by omega, hi, by rw [hnext]; omega, hf, by rw [hM.2, hfa]⟩⟩
theorem AlState.done {fs : List Int} {gs : List (List Int)} {ps : List Int} {n : Nat} (hg : grpFrom n 0 ps = true) {sum : Int} {f : Nat} (h : AlState fs gs ps ps.length sum f) : sum = Al fs gs (inG ps) n := by
  obtain ⟨e, h0, h1, h2⟩ := h
  rcases h2 with ⟨hs, _⟩ | ⟨_, _, h, _⟩
  · have hen : e ≤ n := by
      by_cases hi0 : 0 < ps.length
      · have := h1 hi0
        have := (grp_at ps 0 hg (ps.length - 1) (by omega)).2.1
        omega
      · have := (h0 (by omega)).1; omega
    rw [hs]
    symm
    refine (Al_gap n hen fun k k1 k2 => inG_gap hg (i := ps.length) (fun j j1 j2 => ?_) (fun j j1 j2 => by omega)).1
    have := h1 (by omega)
    have : ps.getD j 0 ≤ ps.getD (ps.length - 1) 0 := by
      by_cases ej : j = ps.length - 1
      · rw [ej]; exact Int.le_refl _
      · exact Int.le_of_lt ((grp_at ps 0 hg (ps.length - 1) (by omega)).2.2 j (by omega))
    omega
  · omega
theorem AlState.start (fs : List Int) (gs : List (List Int)) (ps : List Int) : AlState fs gs ps 0 0 0 := ⟨0, fun _ => ⟨rfl, rfl⟩, fun h => by omega, .inl ⟨(Al_zero fs gs _).symm, fun h => by omega⟩⟩
end Go.Proofs.Ytccmabckmpelcaa
