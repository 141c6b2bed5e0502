import Derived.Test.YtccmabckmpelcaaR
namespace Go.Proofs.Ytccmabckmpelcaa

theorem poss_L {fs us : List Int} (hl : us.length = fs.length) : poss 0 fs us = true ↔ ∀ k, k ≤ fs.length → S (L us) k ≤ S (L fs) k := by
  rw [poss_iff fs us 0 (Int.le_refl _) hl, hl]
  simp

theorem step_feas {n : Nat} {F us x : Nat → Int} (hx : Feas n F x) (hle : ∀ i, i < n → us i ≤ x i) {j : Nat} (h : us j < x j) : ∀ k, k ≤ n → S (up us j 1) k ≤ F k := by
  intro k hk
  refine Int.le_trans (S_le fun i hi => ?_) (hx.2 k hk)
  by_cases e : i = j
  · subst e; rw [up_self]; omega
  · rw [up_ne _ _ e]; exact hle i (by omega)

/-- The next piece lies in the least one of the best uses. -/
theorem greedy_step {fs us : List Int} {gs : List (List Int)} {x : Nat → Int} (hok : GOk gs) (hfl : fs.length = gs.length) (hu : UseOk gs us)
    (hx : Feas gs.length (S (L fs)) x) (hxl : ∀ i, i < gs.length → x i ≤ ((gs.getD i []).length : Int)) (hlm : LM gs gs.length (S (L fs)) x) (hle : ∀ i, i < gs.length → L us i ≤ x i) :
    ((pick fs gs us gs.length).2 = 0 → ∀ i, i < gs.length → L us i = x i) ∧
    ((pick fs gs us gs.length).2 ≠ 0 → ∃ i, (pick fs gs us gs.length).1 = some i ∧ i < gs.length ∧ L us i + 1 ≤ x i) := by
  obtain ⟨hs1, hs2⟩ := pick_spec (fs := fs) (us := us) hok gs.length
  have hul : us.length = gs.length := hu.1
  -- a piece that is in x, but not yet taken, is possible
  have hposs : ∀ j, j < gs.length → L us j < x j → us.getD j 0 ≠ ((gs.getD j []).length : Int) ∧ poss 0 fs (grow1 us j) = true := by
    intro j hj hlt
    refine ⟨?_, ?_⟩
    · have := hxl j hj
      show L us j ≠ _
      omega
    · rw [poss_L (by rw [grow1_len]; omega), L_grow1 us j (by omega)]
      intro k hk
      exact step_feas hx hle hlt k (by omega)
  refine ⟨fun hv i hi => ?_, fun hv => ?_⟩
  · rcases Int.lt_or_eq_of_le (hle i hi) with hlt | e
    · exfalso
      obtain ⟨h1, h2⟩ := hposs i hi hlt
      have hm : mg gs i (L us i) ≤ 0 := by
        cases hp : (pick fs gs us gs.length).1 with
        | none => have := (hs1 hp).2 i hi h1; rw [h2] at this; simp at this
        | some q => have := (hs2 q hp i hi h1 h2).1; rw [hv] at this; exact this
      have hui := (hu.2 i (by omega)).1
      have hui' : 0 ≤ L us i := hui
      have hy : Feas gs.length (S (L fs)) (up x i (-1)) := by
        refine ⟨fun q hq => ?_, fun k hk => ?_⟩
        · by_cases e : q = i
          · subst e; rw [up_self]; omega
          · rw [up_ne _ _ e]; exact hx.1 q hq
        · rw [S_up]
          have := hx.2 k hk
          split <;> omega
      have h3 := (hlm _ hy).2 i hi (fun k hk => up_ne _ _ (by omega)) (by rw [up_self]; omega)
      rw [Wf_dn x hi (by omega)] at h3
      have h4 := mg_anti hok i (x := L us i) (y := x i - 1) hui' (by omega)
      omega
    · exact e
  · cases hp : (pick fs gs us gs.length).1 with
    | none => exact absurd (hs1 hp).1 hv
    | some i =>
      obtain ⟨hi, hne, hpo, hval⟩ := pick_some _ hp
      refine ⟨i, rfl, hi, ?_⟩
      have hval' : (pick fs gs us gs.length).2 = mg gs i (L us i) := hval
      have hvp : 0 < mg gs i (L us i) := by
        have := mg_nn hok i (L us i)
        rw [hval'] at hv
        omega
      have hui : 0 ≤ L us i := (hu.2 i (by omega)).1
      rcases Int.lt_or_eq_of_le (hle i hi) with hlt | e
      · omega
      · exfalso
        by_cases hf : ∃ p, p ≤ gs.length ∧ i < p ∧ S x p = S (L fs) p
        · obtain ⟨p0, hp0⟩ := hf
          obtain ⟨p, ⟨hpn, hip, hpt⟩, hpl⟩ := least (P := fun p => p ≤ gs.length ∧ i < p ∧ S x p = S (L fs) p) p0 hp0
          have hfe := (poss_L (fs := fs) (us := grow1 us i) (by rw [grow1_len]; omega)).1 hpo
          rw [L_grow1 us i (by omega)] at hfe
          have h1 := hfe p (by omega)
          rw [S_up, if_pos hip] at h1
          obtain ⟨j, hj, hlt⟩ := S_lt (u := L us) (v := x) (k := p) (by omega)
          have hji : j ≠ i := fun e2 => by subst e2; omega
          obtain ⟨a1, a2⟩ := hposs j (by omega) hlt
          obtain ⟨b1, b2⟩ := hs2 i hp j (by omega) a1 a2
          rw [hval'] at b1 b2
          have huj : 0 ≤ L us j := (hu.2 j (by omega)).1
          have hmj := mg_anti hok j (x := L us j) (y := x j - 1) huj (by omega)
          have hxj : up x i 1 j = x j := up_ne _ _ hji
          have hy : Feas gs.length (S (L fs)) (up (up x i 1) j (-1)) := by
            refine ⟨fun q hq => ?_, fun k hk => ?_⟩
            · have hq1 := hx.1 q hq
              by_cases e2 : q = j
              · subst e2; rw [up_self, hxj]; omega
              · rw [up_ne _ _ e2]
                by_cases e3 : q = i
                · subst e3; rw [up_self]; omega
                · rw [up_ne _ _ e3]; exact hq1
            · rw [S_up, S_up]
              have hk1 := hx.2 k hk
              by_cases hik : i < k
              · rw [if_pos hik]
                by_cases hjk : j < k
                · rw [if_pos hjk]; omega
                · rw [if_neg hjk]
                  have : S x k ≠ S (L fs) k := fun e2 => hpl k (by omega) ⟨hk, hik, e2⟩
                  omega
              · rw [if_neg hik]
                split <;> omega
          have hw : Wf gs gs.length (up (up x i 1) j (-1)) = Wf gs gs.length x + mg gs i (x i) - mg gs j (x j - 1) := by
            rw [Wf_dn _ (by omega) (by rw [hxj]; omega), Wf_up x hi (by omega), hxj]
          have hc1 := (hlm _ hy).1
          rw [hw, ← e] at hc1
          have hmj' : mg gs j (us.getD j 0) = mg gs j (L us j) := rfl
          by_cases hij : i < j
          · have := b2 hij
            omega
          · have hc2 := (hlm _ hy).2 j (by omega) (fun k hk => by rw [up_ne _ _ (by omega), up_ne _ _ (by omega)]) (by rw [up_self, hxj]; omega)
            rw [hw, ← e] at hc2
            omega
        · have hy : Feas gs.length (S (L fs)) (up x i 1) := by
            refine ⟨fun q hq => ?_, fun k hk => ?_⟩
            · have hq1 := hx.1 q hq
              by_cases e3 : q = i
              · subst e3; rw [up_self]; omega
              · rw [up_ne _ _ e3]; exact hq1
            · rw [S_up]
              have hk1 := hx.2 k hk
              by_cases hik : i < k
              · rw [if_pos hik]
                have : S x k ≠ S (L fs) k := fun e2 => hf ⟨k, hk, hik, e2⟩
                omega
              · rw [if_neg hik]; omega
          have hc1 := (hlm _ hy).1
          rw [Wf_up x hi (by omega), ← e] at hc1
          omega

theorem greedy_is {fs : List Int} {gs : List (List Int)} {x : Nat → Int} (hok : GOk gs) (hfl : fs.length = gs.length)
    (hx : Feas gs.length (S (L fs)) x) (hxl : ∀ i, i < gs.length → x i ≤ ((gs.getD i []).length : Int)) (hlm : LM gs gs.length (S (L fs)) x) :
    ∀ (f : Nat) us, UseOk gs us → (∀ i, i < gs.length → L us i ≤ x i) → S x gs.length ≤ S (L us) gs.length + (f : Int) → ∀ i, i < gs.length → L (greedy fs gs f us) i = x i := by
  intro f
  induction f with
  | zero =>
    intro us hu hle hs i hi
    unfold greedy
    rcases Int.lt_or_eq_of_le (hle i hi) with hlt | e
    · exfalso
      have h1 := S_up (L us) i 1 gs.length
      rw [if_pos hi] at h1
      have h2 : S (up (L us) i 1) gs.length ≤ S x gs.length := S_le fun q hq => by
        by_cases e : q = i
        · subst e; rw [up_self]; omega
        · rw [up_ne _ _ e]; exact hle q hq
      omega
    · exact e
  | succ f ih =>
    intro us hu hle hs i hi
    obtain ⟨g1, g2⟩ := greedy_step hok hfl hu hx hxl hlm hle
    unfold greedy
    by_cases hv : (pick fs gs us gs.length).2 = 0
    · rw [if_pos hv]; exact g1 hv i hi
    · rw [if_neg hv]
      obtain ⟨q, hq, hqn, hqx⟩ := g2 hv
      have hnx := hu.nx (fs := fs)
      rw [hq] at hnx ⊢
      have hL : L (nx us (some q)) = up (L us) q 1 := L_grow1 us q (by have := hu.1; omega)
      refine ih _ hnx (fun j hj => ?_) ?_ i hi
      · rw [hL]
        by_cases e : j = q
        · subst e; rw [up_self]; omega
        · rw [up_ne _ _ e]; exact hle j hj
      · rw [hL, S_up, if_pos hqn]; omega

theorem sum_S : ∀ l : List Int, l.sum = S (L l) l.length := by
  intro l
  induction l with
  | nil => rfl
  | cons x l ih => rw [List.sum_cons, List.length_cons, L_cons, ih]

/-- The use that grows is the least one of the best uses. -/
theorem bestU_is {fs : List Int} {gs : List (List Int)} {x : Nat → Int} (hok : GOk gs) (hfl : fs.length = gs.length)
    (hx : Feas gs.length (S (L fs)) x) (hxl : ∀ i, i < gs.length → x i ≤ ((gs.getD i []).length : Int)) (hlm : LM gs gs.length (S (L fs)) x) :
    ∀ i, i < gs.length → L (bestU fs gs) i = x i := by
  have hz : ∀ i, L (List.replicate fs.length 0) i = 0 := fun i => zeros_at _ _
  refine greedy_is hok hfl hx hxl hlm _ _ (zeros_ok gs _ hfl) (fun i hi => by rw [hz]; exact hx.1 i hi) ?_
  have h1 := hx.2 gs.length (Nat.le_refl _)
  have h2 : S (L (List.replicate fs.length 0)) gs.length = 0 := by
    rw [S_congr (v := fun _ => 0) (fun i _ => hz i)]
    generalize gs.length = n
    induction n with
    | zero => rfl
    | succ n ih => rw [S, ih]; rfl
  rw [h2, sum_S, hfl]
  omega
end Go.Proofs.Ytccmabckmpelcaa
