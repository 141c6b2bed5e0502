import Derived.Test.YtccmabckmpelcaaG
namespace Go.Proofs.Ytccmabckmpelcaa

/-! ## Sums of the first numbers -/
def S (u : Nat → Int) : Nat → Int
  | 0 => 0
  | k + 1 => S u k + u k
theorem S_congr {u v : Nat → Int} : ∀ {k : Nat}, (∀ i, i < k → u i = v i) → S u k = S v k := by
  intro k
  induction k with
  | zero => intro _; rfl
  | succ k ih => intro h; rw [S, S, ih (fun i hi => h i (by omega)), h k (by omega)]
theorem S_le {u v : Nat → Int} : ∀ {k : Nat}, (∀ i, i < k → u i ≤ v i) → S u k ≤ S v k := by
  intro k
  induction k with
  | zero => intro _; simp [S]
  | succ k ih => intro h; rw [S, S]; have := ih (fun i hi => h i (by omega)); have := h k (by omega); omega
theorem S_lt {u v : Nat → Int} : ∀ {k : Nat}, S u k < S v k → ∃ j, j < k ∧ u j < v j := by
  intro k
  induction k with
  | zero => intro h; simp [S] at h
  | succ k ih =>
    intro h
    rw [S, S] at h
    by_cases e : u k < v k
    · exact ⟨k, by omega, e⟩
    · obtain ⟨j, h1, h2⟩ := ih (by omega)
      exact ⟨j, by omega, h2⟩
theorem S_nonneg {u : Nat → Int} : ∀ {k : Nat}, (∀ i, i < k → 0 ≤ u i) → 0 ≤ S u k := by
  intro k
  induction k with
  | zero => intro _; simp [S]
  | succ k ih => intro h; rw [S]; have := ih (fun i hi => h i (by omega)); have := h k (by omega); omega
def up (u : Nat → Int) (j : Nat) (d : Int) : Nat → Int := fun i => if i = j then u i + d else u i
theorem up_self (u : Nat → Int) (j : Nat) (d : Int) : up u j d j = u j + d := by simp [up]
theorem up_ne (u : Nat → Int) {i j : Nat} (d : Int) (h : i ≠ j) : up u j d i = u i := by simp [up, h]
theorem S_up (u : Nat → Int) (j : Nat) (d : Int) : ∀ k, S (up u j d) k = S u k + if j < k then d else 0 := by
  intro k
  induction k with
  | zero => simp [S]
  | succ k ih =>
    rw [S, S, ih]
    by_cases e : k = j
    · subst e; rw [up_self, if_neg (by omega), if_pos (by omega)]; omega
    · rw [up_ne _ _ e]
      by_cases h : j < k
      · rw [if_pos h, if_pos (by omega)]; omega
      · rw [if_neg h, if_neg (by omega)]; omega
theorem S_shift (u : Nat → Int) : ∀ k, S u (k + 1) = u 0 + S (fun i => u (i + 1)) k := by
  intro k
  induction k with
  | zero => simp [S]
  | succ k ih => rw [S, ih, S]; omega

/-! ## Gains -/
def mg (gs : List (List Int)) (i : Nat) (x : Int) : Int := (gs.getD i []).getD x.toNat 0
def Gf (gs : List (List Int)) (i : Nat) (x : Int) : Int := gainTo (gs.getD i []) x.toNat
theorem gainTo_succ (l : List Int) (x : Nat) : gainTo l (x + 1) = gainTo l x + l.getD x 0 := by
  by_cases h : x < l.length
  · exact gainTo_snoc l x h
  · rw [gainTo_full l (x + 1) (by omega), gainTo_full l x (by omega), List.getD_eq_getElem?_getD, List.getElem?_eq_none (by omega)]; simp
theorem Gf_succ (gs : List (List Int)) (i : Nat) {x : Int} (h : 0 ≤ x) : Gf gs i (x + 1) = Gf gs i x + mg gs i x := by
  unfold Gf mg
  rw [show (x + 1).toNat = x.toNat + 1 by omega, gainTo_succ]
theorem gain_any {gs : List (List Int)} (h : GOk gs) (i : Nat) : gainB (gs.getD i []) = true := by
  by_cases hi : i < gs.length
  · exact h.2 i hi
  · rw [List.getD_eq_getElem?_getD, List.getElem?_eq_none (by omega)]; rfl
theorem mg_nn {gs : List (List Int)} (h : GOk gs) (i : Nat) (x : Int) : 0 ≤ mg gs i x := by
  unfold mg
  by_cases hx : x.toNat < (gs.getD i []).length
  · exact ((gain_at (gain_any h i)).2 _ hx).1
  · rw [List.getD_eq_getElem?_getD, List.getElem?_eq_none (by omega)]; simp
theorem mg_anti {gs : List (List Int)} (h : GOk gs) (i : Nat) {x y : Int} (_ : 0 ≤ x) (hxy : x ≤ y) : mg gs i y ≤ mg gs i x := by
  by_cases hy : y.toNat < (gs.getD i []).length
  · exact ((gain_at (gain_any h i)).2 _ hy).2.2 x.toNat (by omega)
  · have : mg gs i y = 0 := by unfold mg; rw [List.getD_eq_getElem?_getD, List.getElem?_eq_none (by omega)]; rfl
    rw [this]; exact mg_nn h i x
theorem mg_end {gs : List (List Int)} {i : Nat} {x : Int} (h : ((gs.getD i []).length : Int) ≤ x) : mg gs i x = 0 := by
  unfold mg; rw [List.getD_eq_getElem?_getD, List.getElem?_eq_none (by omega)]; rfl
def Wf (gs : List (List Int)) (n : Nat) (u : Nat → Int) : Int := S (fun i => Gf gs i (u i)) n
theorem Wf_up {gs : List (List Int)} {n : Nat} (u : Nat → Int) {j : Nat} (hj : j < n) (h : 0 ≤ u j) : Wf gs n (up u j 1) = Wf gs n u + mg gs j (u j) := by
  unfold Wf
  rw [S_congr (v := up (fun i => Gf gs i (u i)) j (mg gs j (u j))) (fun i _ => by
    by_cases e : i = j
    · subst e; rw [up_self, up_self]; exact Gf_succ gs i h
    · rw [up_ne _ _ e, up_ne _ _ e]), S_up, if_pos hj]
theorem Wf_dn {gs : List (List Int)} {n : Nat} (u : Nat → Int) {j : Nat} (hj : j < n) (h : 1 ≤ u j) : Wf gs n (up u j (-1)) = Wf gs n u - mg gs j (u j - 1) := by
  unfold Wf
  rw [S_congr (v := up (fun i => Gf gs i (u i)) j (- mg gs j (u j - 1))) (fun i _ => by
    by_cases e : i = j
    · subst e; rw [up_self, up_self]
      have := Gf_succ gs i (x := u i - 1) (by omega)
      rw [show u i - 1 + 1 = u i by omega] at this
      show Gf gs i (u i + -1) = Gf gs i (u i) + - mg gs i (u i - 1)
      rw [this, show u i + -1 = u i - 1 by omega]; omega
    · rw [up_ne _ _ e, up_ne _ _ e]), S_up, if_pos hj]
  omega

/-! ## Uses -/
def L (l : List Int) : Nat → Int := fun i => l.getD i 0
def Feas (n : Nat) (F : Nat → Int) (u : Nat → Int) : Prop := (∀ i, i < n → 0 ≤ u i) ∧ ∀ k, k ≤ n → S u k ≤ F k
theorem L_cons (x : Int) (l : List Int) (k : Nat) : S (L (x :: l)) (k + 1) = x + S (L l) k := by
  rw [S_shift]; rfl
theorem poss_iff : ∀ (fs us : List Int) (left : Int), 0 ≤ left → us.length = fs.length → (poss left fs us = true ↔ ∀ k, k ≤ us.length → S (L us) k ≤ left + S (L fs) k) := by
  intro fs
  induction fs with
  | nil =>
    intro us left hl hlen
    have : us = [] := List.length_eq_zero_iff.1 hlen
    subst this
    simp only [poss, List.length_nil, Nat.le_zero_eq, true_iff]
    intro k hk
    subst hk
    simpa [S] using hl
  | cons f fs ih =>
    intro us left hl hlen
    cases us with
    | nil => simp at hlen
    | cons u us =>
      rw [poss]
      by_cases h : left + f < u
      · rw [if_pos h]
        constructor
        · intro e; simp at e
        · intro hk
          have := hk 1 (by simp)
          rw [L_cons, L_cons] at this
          simp [S] at this
          omega
      · rw [if_neg h, ih us (left + f - u) (by omega) (by simpa using hlen)]
        constructor
        · intro hk k hkl
          cases k with
          | zero => simpa [S] using hl
          | succ k =>
            rw [L_cons, L_cons]
            have := hk k (by simpa using hkl)
            omega
        · intro hk k hkl
          have := hk (k + 1) (by simpa using hkl)
          rw [L_cons, L_cons] at this
          omega
theorem worthL_eq : ∀ (gs : List (List Int)) (us : List Int), us.length = gs.length → worthL gs us = Wf gs us.length (L us) := by
  intro gs
  induction gs with
  | nil =>
    intro us h
    have : us = [] := List.length_eq_zero_iff.1 h
    subst this; rfl
  | cons g gs ih =>
    intro us h
    cases us with
    | nil => simp at h
    | cons u us =>
      rw [worthL, ih us (by simpa using h), Wf, Wf, List.length_cons, S_shift]
      rfl
theorem L_grow1 (us : List Int) (k : Nat) (h : k < us.length) : L (grow1 us k) = up (L us) k 1 := by
  funext i
  show (grow1 us k).getD i 0 = _
  rw [grow1_at us k i h]
  unfold up L
  by_cases e : i = k
  · subst e; simp
  · simp [e]

/-! ## Augmenting -/
theorem aug {b d F : Nat → Int} : ∀ p, (∀ k, k < p → S b k ≤ F k) → (∀ k, k < p → S d k ≤ F k) → S d p < S b p → ∃ j, j < p ∧ d j < b j ∧ ∀ k, j < k → k < p → S d k < F k := by
  intro p
  induction p with
  | zero => intro _ _ h; simp [S] at h
  | succ p ih =>
    intro hb hd h
    rw [S, S] at h
    by_cases e : d p < b p
    · exact ⟨p, by omega, e, fun k h1 h2 => by omega⟩
    · have h1 := hb p (by omega)
      have h2 := hd p (by omega)
      obtain ⟨j, j1, j2, j3⟩ := ih (fun k hk => hb k (by omega)) (fun k hk => hd k (by omega)) (by omega)
      refine ⟨j, by omega, j2, fun k k1 k2 => ?_⟩
      by_cases ek : k = p
      · subst ek; omega
      · exact j3 k k1 (by omega)
theorem least {P : Nat → Prop} : ∀ n, P n → ∃ m, P m ∧ ∀ k, k < m → ¬ P k := by
  intro n
  induction n using Nat.strongRecOn with
  | ind n ih =>
    intro h
    by_cases e : ∃ k, k < n ∧ P k
    · obtain ⟨k, hk, hp⟩ := e
      exact ih k hk hp
    · exact ⟨n, h, fun k hk hp => e ⟨k, hk, hp⟩⟩

/-! ## The least one of the best uses -/
/-- No use is better, and none that is less is as good. -/
def LM (gs : List (List Int)) (n : Nat) (F : Nat → Int) (x : Nat → Int) : Prop :=
  ∀ y, Feas n F y → Wf gs n y ≤ Wf gs n x ∧ ∀ j, j < n → (∀ k, k < j → y k = x k) → y j < x j → Wf gs n y < Wf gs n x

theorem pick_spec {fs : List Int} {gs : List (List Int)} {us : List Int} (hok : GOk gs) : ∀ k,
    ((pick fs gs us k).1 = none → (pick fs gs us k).2 = 0 ∧ ∀ j, j < k → us.getD j 0 ≠ ((gs.getD j []).length : Int) → poss 0 fs (grow1 us j) = false) ∧
    (∀ i, (pick fs gs us k).1 = some i → ∀ j, j < k → us.getD j 0 ≠ ((gs.getD j []).length : Int) → poss 0 fs (grow1 us j) = true →
      mg gs j (us.getD j 0) ≤ (pick fs gs us k).2 ∧ (i < j → mg gs j (us.getD j 0) < (pick fs gs us k).2)) := by
  intro k
  induction k with
  | zero => exact ⟨fun _ => ⟨rfl, fun j hj => by omega⟩, fun i h => by simp [pick] at h⟩
  | succ k ih =>
    obtain ⟨ih1, ih2⟩ := ih
    by_cases e : us.getD k 0 = ((gs.getD k []).length : Int)
    · have hp : pick fs gs us (k + 1) = pick fs gs us k := by rw [pick, if_pos e]
      rw [hp]
      refine ⟨fun h => ⟨(ih1 h).1, fun j hj hne => ?_⟩, fun i h j hj hne hpo => ?_⟩
      · by_cases ej : j = k
        · subst ej; exact absurd e hne
        · exact (ih1 h).2 j (by omega) hne
      · by_cases ej : j = k
        · subst ej; exact absurd e hne
        · exact ih2 i h j (by omega) hne hpo
    · by_cases e2 : (gs.getD k []).getD (us.getD k 0).toNat 0 < (pick fs gs us k).2
      · have hp : pick fs gs us (k + 1) = pick fs gs us k := by rw [pick, if_neg e, if_pos e2]
        rw [hp]
        have hm : mg gs k (us.getD k 0) < (pick fs gs us k).2 := e2
        refine ⟨fun h => ?_, fun i h j hj hne hpo => ?_⟩
        · have := (ih1 h).1
          have := mg_nn hok k (us.getD k 0)
          omega
        · by_cases ej : j = k
          · subst ej; exact ⟨by omega, fun _ => hm⟩
          · exact ih2 i h j (by omega) hne hpo
      · by_cases e3 : poss 0 fs (grow1 us k) = true
        · have hp : pick fs gs us (k + 1) = (some k, mg gs k (us.getD k 0)) := by rw [pick, if_neg e, if_neg e2, if_pos e3]; rfl
          rw [hp]
          have hm : (pick fs gs us k).2 ≤ mg gs k (us.getD k 0) := by unfold mg; omega
          refine ⟨fun h => by simp at h, fun i h j hj hne hpo => ?_⟩
          simp only [Option.some.injEq] at h
          subst h
          by_cases ej : j = k
          · subst ej; exact ⟨Int.le_refl _, fun h => by omega⟩
          · refine ⟨?_, fun h => by omega⟩
            cases hq : (pick fs gs us k).1 with
            | none =>
              have := (ih1 hq).2 j (by omega) hne
              rw [hpo] at this; simp at this
            | some q => have := (ih2 q hq j (by omega) hne hpo).1; show _ ≤ mg gs k _; omega
        · have hp : pick fs gs us (k + 1) = pick fs gs us k := by rw [pick, if_neg e, if_neg e2, if_neg e3]
          rw [hp]
          refine ⟨fun h => ⟨(ih1 h).1, fun j hj hne => ?_⟩, fun i h j hj hne hpo => ?_⟩
          · by_cases ej : j = k
            · subst ej; simpa using e3
            · exact (ih1 h).2 j (by omega) hne
          · by_cases ej : j = k
            · subst ej; exact absurd hpo e3
            · exact ih2 i h j (by omega) hne hpo
end Go.Proofs.Ytccmabckmpelcaa
