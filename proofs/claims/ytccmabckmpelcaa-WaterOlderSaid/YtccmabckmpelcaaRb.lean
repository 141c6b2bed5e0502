import Derived.Test.YtccmabckmpelcaaRa
namespace Go.Proofs.Ytccmabckmpelcaa

/-! ## The greatest worth, place by place -/
def mx (h : Nat → Int) : Nat → Int
  | 0 => h 0
  | k + 1 => max (mx h k) (h (k + 1))
theorem mx_ge (h : Nat → Int) : ∀ n k, k ≤ n → h k ≤ mx h n := by
  intro n
  induction n with
  | zero => intro k hk; obtain rfl : k = 0 := by omega
            exact Int.le_refl _
  | succ n ih =>
    intro k hk
    rw [mx]
    by_cases e : k = n + 1
    · subst e; omega
    · have := ih k (by omega); omega
theorem mx_at (h : Nat → Int) : ∀ n, ∃ k, k ≤ n ∧ mx h n = h k := by
  intro n
  induction n with
  | zero => exact ⟨0, Nat.le_refl _, rfl⟩
  | succ n ih =>
    obtain ⟨k, h1, h2⟩ := ih
    rw [mx]
    rcases Int.le_total (mx h n) (h (n + 1)) with e | e
    · exact ⟨n + 1, Nat.le_refl _, by omega⟩
    · exact ⟨k, by omega, by omega⟩
theorem mx_le {h : Nat → Int} {b : Int} {n : Nat} (hb : ∀ k, k ≤ n → h k ≤ b) : mx h n ≤ b := by
  obtain ⟨k, h1, h2⟩ := mx_at h n
  rw [h2]; exact hb k h1

/-- The greatest worth of the places, with water `w` from upstream. -/
def V : List Int → List (List Int) → Int → Int
  | f :: fs, g :: gs, w => mx (fun x => gainTo g x + V fs gs (w + f - x)) (min g.length (w + f).toNat)
  | _, _, _ => 0
def term (f : Int) (fs : List Int) (g : List Int) (gs : List (List Int)) (w : Int) (x : Nat) : Int := gainTo g x + V fs gs (w + f - x)
theorem V_cons (f : Int) (fs : List Int) (g : List Int) (gs : List (List Int)) (w : Int) : V (f :: fs) (g :: gs) w = mx (term f fs g gs w) (min g.length (w + f).toNat) := rfl
/-- The least use that is worth it. -/
def first (P : Nat → Bool) : Nat → Nat → Nat
  | q, 0 => q
  | q, n + 1 => if P q then q else first P (q + 1) n
theorem first_spec (P : Nat → Bool) : ∀ (n a : Nat), (∃ q, a ≤ q ∧ q ≤ a + n ∧ P q = true) → a ≤ first P a n ∧ first P a n ≤ a + n ∧ P (first P a n) = true ∧ ∀ r, a ≤ r → r < first P a n → P r = false := by
  intro n
  induction n with
  | zero =>
    rintro a ⟨q, h1, h2, h3⟩
    obtain rfl : q = a := by omega
    exact ⟨Nat.le_refl _, Nat.le_refl _, h3, fun r h1 h2 => by unfold first at h2; omega⟩
  | succ n ih =>
    rintro a ⟨q, h1, h2, h3⟩
    unfold first
    by_cases hp : P a = true
    · rw [if_pos hp]; exact ⟨Nat.le_refl _, by omega, hp, fun r hr hr2 => by omega⟩
    · rw [if_neg hp]
      have hne : a ≠ q := fun e => hp (e ▸ h3)
      obtain ⟨g1, g2, g3, g4⟩ := ih (a + 1) ⟨q, by omega, by omega, h3⟩
      refine ⟨by omega, by omega, g3, fun r hr hr2 => ?_⟩
      by_cases e : r = a
      · subst e; simpa using hp
      · exact g4 r (by omega) hr2
def U : List Int → List (List Int) → Int → List Int
  | f :: fs, g :: gs, w =>
    let x := first (fun x => term f fs g gs w x == V (f :: fs) (g :: gs) w) 0 (min g.length (w + f).toNat)
    (x : Int) :: U fs gs (w + f - x)
  | _, _, _ => []
theorem U_len : ∀ (fs : List Int) (gs : List (List Int)) (w : Int), fs.length = gs.length → (U fs gs w).length = fs.length := by
  intro fs
  induction fs with
  | nil => intro gs w h; cases gs <;> simp_all [U]
  | cons f fs ih =>
    intro gs w h
    cases gs with
    | nil => simp at h
    | cons g gs => simp only [U, List.length_cons]; rw [ih gs _ (by simpa using h)]

theorem V_mono : ∀ (fs : List Int) (gs : List (List Int)) (w w' : Int), w ≤ w' → V fs gs w ≤ V fs gs w' := by
  intro fs
  induction fs with
  | nil => intro gs w w' _; simp [V]
  | cons f fs ih =>
    intro gs w w' h
    cases gs with
    | nil => simp [V]
    | cons g gs =>
      rw [V_cons, V_cons]
      refine mx_le fun k hk => Int.le_trans ?_ (mx_ge _ _ k (by omega))
      unfold term
      have := ih gs (w + f - k) (w' + f - k) (by omega)
      omega
/-- What is known of the least one of the best uses. -/
theorem U_spec : ∀ (fs : List Int) (gs : List (List Int)) (w : Int), fs.length = gs.length → 0 ≤ w → (∀ j, j < fs.length → 0 ≤ fs.getD j 0) →
    UseOk gs (U fs gs w) ∧ poss w fs (U fs gs w) = true ∧ worthL gs (U fs gs w) = V fs gs w ∧
    ∀ y : List Int, y.length = fs.length → NonNeg y → poss w fs y = true → worthL gs y ≤ V fs gs w ∧
      ∀ j, j < y.length → (∀ k, k < j → y.getD k 0 = (U fs gs w).getD k 0) → y.getD j 0 < (U fs gs w).getD j 0 → worthL gs y < V fs gs w := by
  intro fs
  induction fs with
  | nil =>
    intro gs w hl hw _
    have : gs = [] := List.length_eq_zero_iff.1 hl.symm
    subst this
    refine ⟨⟨rfl, fun j hj => by simp [U] at hj⟩, rfl, rfl, fun y hy _ _ => ?_⟩
    have : y = [] := List.length_eq_zero_iff.1 hy
    subst this
    exact ⟨Int.le_refl _, fun j hj => by simp at hj⟩
  | cons f fs ih =>
    intro gs w hl hw hf
    cases gs with
    | nil => simp at hl
    | cons g gs =>
      have hf0 : 0 ≤ f := by simpa using hf 0 (by simp)
      have hft : ∀ j, j < fs.length → 0 ≤ fs.getD j 0 := fun j hj => by simpa using hf (j + 1) (by simpa using hj)
      obtain ⟨q, hq1, hq2⟩ := mx_at (term f fs g gs w) (min g.length (w + f).toNat)
      have hfs := first_spec (fun x => term f fs g gs w x == V (f :: fs) (g :: gs) w) (min g.length (w + f).toNat) 0 ⟨q, by omega, by omega, by rw [V_cons, hq2]; simp⟩
      obtain ⟨x, hx⟩ : ∃ x, x = first (fun x => term f fs g gs w x == V (f :: fs) (g :: gs) w) 0 (min g.length (w + f).toNat) := ⟨_, rfl⟩
      have hU : U (f :: fs) (g :: gs) w = (x : Int) :: U fs gs (w + f - x) := by rw [hx]; rfl
      rw [← hx] at hfs
      obtain ⟨_, x1, x2, x3⟩ := hfs
      have x2 : term f fs g gs w x = V (f :: fs) (g :: gs) w := by simpa using x2
      have hxw : (x : Int) ≤ w + f := by omega
      obtain ⟨i1, i2, i3, i4⟩ := ih gs (w + f - x) (by simpa using hl) (by omega) hft
      rw [hU]
      refine ⟨⟨by simpa using i1.1, fun j hj => ?_⟩, ?_, ?_, fun y hy hny hpy => ?_⟩
      · cases j with
        | zero => simp; omega
        | succ j => simpa using i1.2 j (by simpa using hj)
      · rw [poss, if_neg (by omega)]; exact i2
      · rw [worthL, i3, ← x2, Int.toNat_natCast]; rfl
      · cases y with
        | nil => simp at hy
        | cons y0 ys =>
          have hy0 : 0 ≤ y0 := by simpa using hny 0 (by simp)
          have hnys : NonNeg ys := fun j hj => by simpa using hny (j + 1) (by simpa using hj)
          rw [poss] at hpy
          have hyw : y0 ≤ w + f := by
            rcases Int.lt_or_le (w + f) y0 with h | h
            · rw [if_pos h] at hpy; simp at hpy
            · exact h
          rw [if_neg (by omega)] at hpy
          obtain ⟨z, hz⟩ : ∃ z : Nat, (z : Int) = y0 := ⟨y0.toNat, by omega⟩
          subst hz
          obtain ⟨_, _, _, k4⟩ := ih gs (w + f - z) (by simpa using hl) (by omega) hft
          obtain ⟨k5, _⟩ := k4 ys (by simpa using hy) hnys hpy
          have hle : worthL (g :: gs) ((z : Int) :: ys) ≤ term f fs g gs w z := by
            rw [worthL, Int.toNat_natCast]; unfold term; omega
          have hterm : term f fs g gs w z ≤ V (f :: fs) (g :: gs) w := by
            by_cases hzl : z ≤ g.length
            · rw [V_cons]; exact mx_ge _ _ z (by omega)
            · refine Int.le_trans ?_ (by rw [V_cons]; exact mx_ge _ _ g.length (by omega))
              unfold term
              rw [gainTo_full g z (by omega)]
              have := V_mono fs gs (w + f - z) (w + f - g.length) (by omega)
              omega
          refine ⟨by omega, fun j hj hpre hlt => ?_⟩
          cases j with
          | zero =>
            simp at hlt
            have := x3 z (by omega) hlt
            have : term f fs g gs w z ≠ V (f :: fs) (g :: gs) w := by simpa using this
            omega
          | succ j =>
            have h0 := hpre 0 (by omega)
            simp at h0
            have h0 : z = x := by omega
            subst h0
            obtain ⟨_, k6⟩ := i4 ys (by simpa using hy) hnys hpy
            have := k6 j (by simpa using hj) (fun k hk => by simpa using hpre (k + 1) (by omega)) (by simpa using hlt)
            rw [worthL, Int.toNat_natCast, ← x2]
            unfold term
            omega

theorem L_range (n : Nat) (y : Nat → Int) (i : Nat) (h : i < n) : ((List.range n).map y).getD i 0 = y i := by
  simp [List.getD_eq_getElem?_getD, h]

/-- The use that grows, the greatest worth, and what no use exceeds. -/
theorem best_spec {fs : List Int} {gs : List (List Int)} (hok : GOk gs) (hfl : fs.length = gs.length) (hf : FlowOk fs) :
    bestU fs gs = U fs gs 0 ∧ bestW fs gs = V fs gs 0 ∧ Feas gs.length (S (L fs)) (L (bestU fs gs)) ∧ LM gs gs.length (S (L fs)) (L (bestU fs gs)) ∧ bestW fs gs = Wf gs gs.length (L (bestU fs gs)) := by
  obtain ⟨u1, u2, u3, u4⟩ := U_spec fs gs 0 hfl (Int.le_refl _) (fun j hj => (hf.2 j hj).1)
  have hul := U_len fs gs 0 hfl
  have hfe : Feas gs.length (S (L fs)) (L (U fs gs 0)) := ⟨fun i hi => (u1.2 i (by omega)).1, fun k hk => (poss_L hul).1 u2 k (by omega)⟩
  have hlm : LM gs gs.length (S (L fs)) (L (U fs gs 0)) := by
    intro y hy
    have hLy : ∀ i, i < gs.length → L ((List.range gs.length).map y) i = y i := fun i hi => L_range _ y i hi
    have hw : worthL gs ((List.range gs.length).map y) = Wf gs gs.length y := by
      rw [worthL_eq gs _ (by simp)]
      simp only [List.length_map, List.length_range]
      unfold Wf
      exact S_congr fun i hi => by rw [hLy i hi]
    have hwU : Wf gs gs.length (L (U fs gs 0)) = V fs gs 0 := by rw [← u3, worthL_eq gs _ u1.1, u1.1]
    obtain ⟨a, b⟩ := u4 ((List.range gs.length).map y) (by simp [hfl]) (fun j hj => by rw [L_range _ y j (by simpa using hj)]; exact hy.1 j (by simpa using hj))
      ((poss_L (by simp [hfl])).2 fun k hk => by rw [S_congr (v := y) (fun i hi => hLy i (by omega))]; exact hy.2 k (by omega))
    rw [hw] at a b
    rw [hwU]
    refine ⟨a, fun j hj hpre hlt => b j (by simpa using hj) (fun k hk => ?_) ?_⟩
    · rw [L_range _ y k (by omega)]; exact hpre k hk
    · rw [L_range _ y j hj]; exact hlt
  have heq : bestU fs gs = U fs gs 0 := by
    have h1 := bestU_is hok hfl hfe (fun i hi => (u1.2 i (by omega)).2) hlm
    refine List.ext_getElem (by rw [(bestU_ok hfl).1, u1.1]) fun i a b => ?_
    have := h1 i (by rw [(bestU_ok hfl).1] at a; exact a)
    unfold L at this
    simpa [List.getD_eq_getElem?_getD, a, b] using this
  refine ⟨heq, by unfold bestW; rw [heq, u3], by rw [heq]; exact hfe, by rw [heq]; exact hlm, ?_⟩
  unfold bestW
  rw [worthL_eq gs _ (bestU_ok hfl).1, (bestU_ok hfl).1]
end Go.Proofs.Ytccmabckmpelcaa
