import Derived.Test.YtccmabckmpelcaaHa
namespace Go.Proofs.Ytccmabckmpelcaa

/-! ## What a group aspires to -/
/-- The gains of a group; the other places gain nothing. -/
def maskG (gs : List (List Int)) (M : Nat → Bool) : List (List Int) := (List.range gs.length).map fun j => if M j then gs.getD j [] else []
theorem maskG_len (gs : List (List Int)) (M : Nat → Bool) : (maskG gs M).length = gs.length := by simp [maskG]
theorem maskG_at (gs : List (List Int)) (M : Nat → Bool) (j : Nat) : (maskG gs M).getD j [] = if M j then gs.getD j [] else [] := by
  unfold maskG
  by_cases h : j < gs.length
  · simp [List.getD_eq_getElem?_getD, h]
  · rw [List.getD_eq_getElem?_getD, List.getElem?_eq_none (by simp; omega), List.getD_eq_getElem?_getD, List.getElem?_eq_none (by omega)]
    simp
theorem maskG_ok {gs : List (List Int)} (h : GOk gs) (M : Nat → Bool) : GOk (maskG gs M) := by
  refine ⟨by rw [maskG_len]; exact h.1, fun j hj => ?_⟩
  rw [maskG_len] at hj
  rw [maskG_at]
  split
  · exact h.2 j hj
  · rfl
theorem Gf_mask (gs : List (List Int)) (M : Nat → Bool) (j : Nat) (x : Int) : Gf (maskG gs M) j x = if M j then Gf gs j x else 0 := by
  unfold Gf
  rw [maskG_at]
  split
  · rfl
  · simp [gainTo]
theorem mg_mask (gs : List (List Int)) (M : Nat → Bool) (j : Nat) (x : Int) : mg (maskG gs M) j x = if M j then mg gs j x else 0 := by
  unfold mg
  rw [maskG_at]
  split
  · rfl
  · simp
def asp (fs : List Int) (gs : List (List Int)) (M : Nat → Bool) : Int := bestW fs (maskG gs M)
/-- No use gives a group more than it aspires to; one gives as much. -/
theorem asp_spec {fs : List Int} {gs : List (List Int)} (hok : GOk gs) (hfl : fs.length = gs.length) (hf : FlowOk fs) (M : Nat → Bool) :
    (∀ y, Feas gs.length (S (L fs)) y → S (fun j => if M j then Gf gs j (y j) else 0) gs.length ≤ asp fs gs M) ∧
    ∃ y, Feas gs.length (S (L fs)) y ∧ S (fun j => if M j then Gf gs j (y j) else 0) gs.length = asp fs gs M ∧ ∀ j, j < gs.length → M j = false → y j = 0 := by
  have hm := maskG_len gs M
  have hW : ∀ y, Wf (maskG gs M) gs.length y = S (fun j => if M j then Gf gs j (y j) else 0) gs.length := fun y => S_congr fun j _ => Gf_mask gs M j (y j)
  obtain ⟨_, _, h1, h2, h3⟩ := best_spec (maskG_ok hok M) (by rw [hm]; exact hfl) hf
  have hu := bestU_ok (fs := fs) (gs := maskG gs M) (by rw [hm]; exact hfl)
  rw [hm] at h1 h2 h3
  refine ⟨fun y hy => ?_, L (bestU fs (maskG gs M)), h1, ?_, fun j hj hM => ?_⟩
  · rw [← hW]; unfold asp; rw [h3]; exact (h2 y hy).1
  · rw [← hW]; unfold asp; rw [h3]
  · have h4 := hu.2 j (by rw [hu.1, hm]; exact hj)
    rw [maskG_at, hM] at h4
    simp only [Bool.false_eq_true, if_false, List.length_nil] at h4
    show (bestU fs (maskG gs M)).getD j 0 = 0
    omega
theorem Gf_nn {gs : List (List Int)} (h : GOk gs) (j : Nat) (x : Int) : 0 ≤ Gf gs j x := (gainTo_bd (gain_any h j) _).1
theorem Gf_zero (gs : List (List Int)) (j : Nat) : Gf gs j 0 = 0 := by simp [Gf, gainTo]

theorem S_split (u v : Nat → Int) (k : Nat) : S (fun j => u j + v j) k = S u k + S v k := by
  induction k with
  | zero => rfl
  | succ k ih => rw [S, S, S, ih]; omega
/-- What two groups aspire to together. -/
theorem asp_sub {fs : List Int} {gs : List (List Int)} (hok : GOk gs) (hfl : fs.length = gs.length) (hf : FlowOk fs) {A B C : Nat → Bool} (hC : ∀ j, C j = (A j || B j)) (hdis : ∀ j, A j = true → B j = false) : asp fs gs C ≤ asp fs gs A + asp fs gs B := by
  obtain ⟨_, y, hy, e, _⟩ := asp_spec hok hfl hf C
  have ha := (asp_spec hok hfl hf A).1 y hy
  have hb := (asp_spec hok hfl hf B).1 y hy
  rw [← e, S_congr (v := fun j => (if A j then Gf gs j (y j) else 0) + (if B j then Gf gs j (y j) else 0)) (fun j _ => by
    rw [hC]
    cases hA : A j with
    | true => rw [hdis j hA]; simp
    | false => simp), S_split]
  omega
/-- A use of the group alone is possible. -/
theorem Al_use {fs : List Int} {gs : List (List Int)} (hok : GOk gs) (hfl : fs.length = gs.length) (hf : FlowOk fs) (M : Nat → Bool) : ∀ k, k ≤ gs.length → ∃ y : Nat → Int, (∀ i, 0 ≤ y i) ∧ (∀ j, j ≤ k → S y j ≤ S (L fs) j) ∧ (∀ i, (k ≤ i ∨ M i = false) → y i = 0) ∧ S (fun j => Gf gs j (y j)) k = Al fs gs M k := by
  intro k
  induction k using Nat.strongRecOn with
  | ind k ih =>
    intro hk
    by_cases h0 : k = 0
    · subst h0
      exact ⟨fun _ => 0, fun _ => Int.le_refl _, fun j hj => by rw [show j = 0 by omega]; exact Int.le_refl _, fun _ _ => rfl, by rw [Al_zero]; rfl⟩
    · obtain ⟨a1, a2, a3, a4⟩ := Al_last fs gs M k
      have hmono : ∀ j, j ≤ k → ∀ i, i ≤ j → S (L fs) i ≤ S (L fs) j := fun j hj i hi => by
        obtain ⟨d, rfl⟩ : ∃ d, j = i + d := ⟨j - i, by omega⟩
        rw [S_add]
        have := S_nonneg (u := fun q => L fs (i + q)) (k := d) (fun q hq => (hf.2 (i + q) (by omega)).1)
        omega
      by_cases ha : aSt M k = k
      · have hM := a4 ha (by omega)
        obtain ⟨j, rfl⟩ : ∃ j, k = j + 1 := ⟨k - 1, by omega⟩
        rw [Nat.add_sub_cancel] at hM
        obtain ⟨y, y1, y2, y3, y4⟩ := ih j (by omega) (by omega)
        refine ⟨y, y1, fun i hi => ?_, fun i hi => ?_, ?_⟩
        · by_cases e : i = j + 1
          · subst e
            rw [S, y3 j (.inl (Nat.le_refl _))]
            have := y2 j (Nat.le_refl _)
            have := hmono (j + 1) (Nat.le_refl _) j (by omega)
            omega
          · exact y2 i (by omega)
        · rcases hi with hi | hi
          · exact y3 i (.inl (by omega))
          · exact y3 i (.inr hi)
        · rw [S, y4, (Al_not hM).2.2, y3 j (.inl (Nat.le_refl _)), Gf_zero]; omega
      · obtain ⟨x, x1, x2, x3, x4⟩ := ih (aSt M k) (by omega) (by omega)
        obtain ⟨y, y1, y2⟩ := row_at hok hfl hf a1 hk
        obtain ⟨c, hc⟩ : ∃ c, c = aSt M k := ⟨_, rfl⟩
        rw [← hc] at a1 a2 a3 ha x2 x3 x4 y1 y2
        refine ⟨join c x (fun i => if i < k then y i else 0), fun i => ?_, fun j hj => ?_, fun i hi => ?_, ?_⟩
        · unfold join
          dsimp only
          split
          · exact x1 i
          · split
            · exact y1.1 i (by omega) (by omega)
            · exact Int.le_refl _
        · by_cases e : j ≤ c
          · rw [S_join_lo _ _ _ _ e]; exact x2 j e
          · rw [S_join_hi _ _ _ _ (by omega)]
            have h5 := y1.2 j (by omega) hj
            have h6 := x2 c (Nat.le_refl _)
            rw [S_congr (u := fun i => if i < k then y i else 0) (v := y) (k := j) (fun i hi => by simp; omega), S_congr (u := fun i => if i < k then y i else 0) (v := y) (k := c) (fun i hi => by simp; omega)]
            omega
        · unfold join
          dsimp only
          rcases hi with hi | hi
          · rw [if_neg (by omega), if_neg (by omega)]
          · by_cases e : i < c
            · rw [if_pos e]; exact x3 i (.inr hi)
            · rw [if_neg e]
              by_cases e2 : i < k
              · have := a2 i (by omega) e2; rw [hi] at this; simp at this
              · rw [if_neg e2]
        · have h7 := WR_join gs 0 c k x (fun i => if i < k then y i else 0) (Nat.zero_le _) a1
          have h8 : WR gs c k (fun i => if i < k then y i else 0) = WR gs c k y := by
            unfold WR
            rw [S_congr (u := fun i => Gf gs i (if i < k then y i else 0)) (v := fun i => Gf gs i (y i)) (k := k) (fun i hi => by simp [hi]), S_congr (u := fun i => Gf gs i (if i < k then y i else 0)) (v := fun i => Gf gs i (y i)) (k := c) (fun i hi => by simp [show i < k by omega])]
          have h9 : WR gs 0 c x = Al fs gs M c := by
            rw [← x4]; unfold WR; simp [S]
          have h10 : S (fun j => Gf gs j (join c x (fun i => if i < k then y i else 0) j)) k = WR gs 0 k (join c x (fun i => if i < k then y i else 0)) := by unfold WR; simp [S]
          rw [h10, h7, h8, h9, y2, a3]
/-- A group is worth alone at most what it aspires to. -/
theorem Al_asp {fs : List Int} {gs : List (List Int)} (hok : GOk gs) (hfl : fs.length = gs.length) (hf : FlowOk fs) (M : Nat → Bool) : Al fs gs M gs.length ≤ asp fs gs M := by
  obtain ⟨y, y1, y2, y3, y4⟩ := Al_use hok hfl hf M gs.length (Nat.le_refl _)
  rw [← y4]
  refine Int.le_trans (Int.le_of_eq ?_) ((asp_spec hok hfl hf M).1 y ⟨fun i _ => y1 i, y2⟩)
  refine S_congr fun j _ => ?_
  cases hM : M j with
  | true => simp
  | false => rw [y3 j (.inr hM), Gf_zero]; simp
end Go.Proofs.Ytccmabckmpelcaa
