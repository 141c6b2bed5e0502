import Derived.Test.YtccmabckmpelcaaHb
namespace Go.Proofs.Ytccmabckmpelcaa

/-! ## Shares -/
def share (fs : List Int) (gs : List (List Int)) (j : Nat) : Int := row fs gs 0 (j + 1) - row fs gs 0 j
def sumOf (u : Nat → Int) (M : Nat → Bool) (k : Nat) : Int := S (fun j => if M j then u j else 0) k
theorem S_share (fs : List Int) (gs : List (List Int)) (k : Nat) : S (share fs gs) k = row fs gs 0 k := by
  induction k with
  | zero => rw [row_nil _ _ _ _ (Nat.le_refl _)]; rfl
  | succ k ih => rw [S, ih]; unfold share; omega
/-- W2: each group gets at least its worth alone. -/
theorem fair_low {fs : List Int} {gs : List (List Int)} (hok : GOk gs) (hfl : fs.length = gs.length) (hf : FlowOk fs) (M : Nat → Bool) : ∀ k, k ≤ gs.length → Al fs gs M k ≤ sumOf (share fs gs) M k := by
  intro k
  induction k using Nat.strongRecOn with
  | ind k ih =>
    intro hk
    by_cases h0 : k = 0
    · subst h0; rw [Al_zero]; exact Int.le_refl _
    · obtain ⟨a1, a2, a3, a4⟩ := Al_last fs gs M k
      by_cases ha : aSt M k = k
      · have hM := a4 ha (by omega)
        obtain ⟨j, rfl⟩ : ∃ j, k = j + 1 := ⟨k - 1, by omega⟩
        rw [Nat.add_sub_cancel] at hM
        rw [(Al_not hM).2.2]
        have := ih j (by omega) (by omega)
        unfold sumOf at this ⊢
        rw [S, hM]
        simp only [Bool.false_eq_true, if_false]
        omega
      · have hi := ih (aSt M k) (by omega) (by omega)
        obtain ⟨d, hd⟩ : ∃ d, k = aSt M k + d := ⟨k - aSt M k, by omega⟩
        have h1 : sumOf (share fs gs) M k = sumOf (share fs gs) M (aSt M k) + (row fs gs 0 k - row fs gs 0 (aSt M k)) := by
          rw [← S_share, ← S_share]
          unfold sumOf
          obtain ⟨c, hc⟩ : ∃ c, c = aSt M k := ⟨_, rfl⟩
          rw [← hc] at a2 hd ⊢
          rw [hd, S_add, S_add (share fs gs) c d, S_congr (u := fun j => if M (c + j) then share fs gs (c + j) else 0) (v := fun j => share fs gs (c + j)) (fun i hi => by rw [a2 (c + i) (by omega) (by omega)]; rfl)]
          omega
        have h2 := row_add hok hfl hf (a := 0) (c := aSt M k) (b := k) (Nat.zero_le _) a1 hk
        omega

/-- The places before one. -/
def before (k : Nat) : Nat → Bool := fun j => decide (j < k)
theorem Al_before {fs : List Int} {gs : List (List Int)} {k n : Nat} (h : k ≤ n) : Al fs gs (before k) n = row fs gs 0 k := by
  have h1 : ∀ j, j ≤ k → aC fs gs (before k) j = 0 ∧ aSt (before k) j = 0 := by
    intro j
    induction j with
    | zero => intro _; exact ⟨rfl, rfl⟩
    | succ j ih =>
      intro hj
      obtain ⟨y1, y2⟩ := Al_yes (fs := fs) (gs := gs) (M := before k) (k := j) (by unfold before; simp; omega)
      obtain ⟨i1, i2⟩ := ih (by omega)
      exact ⟨by rw [y1, i1], by rw [y2, i2]⟩
  rw [(Al_gap (fs := fs) (gs := gs) (M := before k) (a := k) n h (fun j j1 _ => by unfold before; simp; omega)).1]
  unfold Al
  rw [(h1 k (Nat.le_refl _)).1, (h1 k (Nat.le_refl _)).2]
  omega
theorem flow_mono {fs : List Int} (hf : FlowOk fs) {i j : Nat} (hij : i ≤ j) (hj : j ≤ fs.length) : S (L fs) i ≤ S (L fs) j := by
  obtain ⟨d, rfl⟩ : ∃ d, j = i + d := ⟨j - i, by omega⟩
  rw [S_add]
  have := S_nonneg (u := fun q => L fs (i + q)) (k := d) (fun q hq => (hf.2 (i + q) (by omega)).1)
  omega
theorem S_tail_zero {u : Nat → Int} {k n : Nat} (h : k ≤ n) (hz : ∀ j, k ≤ j → j < n → u j = 0) : S u n = S u k := by
  obtain ⟨d, rfl⟩ : ∃ d, n = k + d := ⟨n - k, by omega⟩
  rw [S_add, S_congr (v := fun _ => 0) (fun i hi => hz (k + i) (by omega) (by omega))]
  have : ∀ d, S (fun _ => (0 : Int)) d = 0 := by
    intro d
    induction d with
    | zero => rfl
    | succ d ih => rw [S, ih]; rfl
  rw [this]; omega
theorem asp_before {fs : List Int} {gs : List (List Int)} (hok : GOk gs) (hfl : fs.length = gs.length) (hf : FlowOk fs) {k : Nat} (hk : k ≤ gs.length) : asp fs gs (before k) = row fs gs 0 k := by
  have h1 := Al_asp hok hfl hf (before k)
  rw [Al_before hk] at h1
  obtain ⟨_, y, hy, e, _⟩ := asp_spec hok hfl hf (before k)
  have h2 := row_le hok hfl hf (a := 0) (b := k) (Nat.zero_le _) hk (y := y) ⟨fun i _ hi => hy.1 i (by omega), fun j _ hj => by have := hy.2 j (by omega); simp only [S]; omega⟩
  rw [S_tail_zero hk (fun j j1 j2 => by unfold before; simp; omega)] at e
  rw [S_congr (v := fun j => Gf gs j (y j)) (fun i hi => by unfold before; simp [hi])] at e
  unfold WR at h2
  simp only [S] at h2
  omega

/-! ## What a place adds -/
/-- The flows of the first `i` places, of which at most `C` pieces are used together. -/
def capd (fs : List Int) (i : Nat) (C : Int) : List Int := (List.range i).map fun k => min (S (L fs) (k + 1)) C - min (S (L fs) k) C
theorem capd_len (fs : List Int) (i : Nat) (C : Int) : (capd fs i C).length = i := by simp [capd]
theorem capd_at (fs : List Int) (i : Nat) (C : Int) (k : Nat) (h : k < i) : L (capd fs i C) k = min (S (L fs) (k + 1)) C - min (S (L fs) k) C := by
  show (capd fs i C).getD k 0 = _
  unfold capd; simp [List.getD_eq_getElem?_getD, h]
theorem capd_S (fs : List Int) (i : Nat) (C : Int) (hC : 0 ≤ C) : ∀ k, k ≤ i → S (L (capd fs i C)) k = min (S (L fs) k) C := by
  intro k
  induction k with
  | zero => intro _; simp only [S]; omega
  | succ k ih => intro h; rw [S, ih (by omega), capd_at _ _ _ _ (by omega)]; omega
theorem capd_ok {fs : List Int} (hf : FlowOk fs) (i : Nat) (hi : i ≤ fs.length) (C : Int) : FlowOk (capd fs i C) := by
  refine ⟨by rw [capd_len]; have := hf.1; omega, fun j hj => ?_⟩
  rw [capd_len] at hj
  have h1 := capd_at fs i C j hj
  have h2 := hf.2 j (by omega)
  have h3 : S (L fs) (j + 1) = S (L fs) j + fs.getD j 0 := rfl
  show 0 ≤ L (capd fs i C) j ∧ L (capd fs i C) j ≤ 31
  rw [h1, h3]
  omega
/-- The greatest worth that the group can have above place `i`, if `x` pieces are left for it. -/
def fT (fs : List Int) (gs : List (List Int)) (i : Nat) (M : Nat → Bool) (x : Int) : Int := asp (capd fs i (S (L fs) (i + 1) - x)) (part gs 0 i) M
theorem fT_spec {fs : List Int} {gs : List (List Int)} (hok : GOk gs) (hfl : fs.length = gs.length) (hf : FlowOk fs) {i : Nat} (hi : i < gs.length) (M : Nat → Bool) {x : Int} (hx1 : x ≤ S (L fs) (i + 1)) :
    (∀ y : Nat → Int, (∀ j, j < i → 0 ≤ y j) → (∀ k, k ≤ i → S y k ≤ S (L fs) k) → S y i + x ≤ S (L fs) (i + 1) → S (fun j => if M j then Gf gs j (y j) else 0) i ≤ fT fs gs i M x) ∧
    ∃ y : Nat → Int, (∀ j, j < i → 0 ≤ y j) ∧ (∀ k, k ≤ i → S y k ≤ S (L fs) k) ∧ S y i + x ≤ S (L fs) (i + 1) ∧ S (fun j => if M j then Gf gs j (y j) else 0) i = fT fs gs i M x ∧ ∀ j, j < i → M j = false → y j = 0 := by
  have hl := part_len gs 0 i (by omega)
  rw [Nat.sub_zero] at hl
  have hg : ∀ y : Nat → Int, S (fun j => if M j then Gf (part gs 0 i) j (y j) else 0) i = S (fun j => if M j then Gf gs j (y j) else 0) i := fun y => S_congr fun j hj => by
    rw [Gf_part gs 0 i j _ (by omega), Nat.zero_add]
  obtain ⟨s1, y, s2, s3, s4⟩ := asp_spec (hok.part 0 i (by omega)) (by rw [capd_len, hl]) (capd_ok hf i (by omega) (S (L fs) (i + 1) - x)) M
  rw [hl] at s1 s2 s3 s4
  rw [hg] at s3
  have hC : 0 ≤ S (L fs) (i + 1) - x := by omega
  refine ⟨fun y h1 h2 h3 => ?_, y, s2.1, fun k hk => ?_, ?_, s3, s4⟩
  · have := s1 y ⟨h1, fun k hk => by
      rw [capd_S _ _ _ hC k hk]
      have h4 := h2 k hk
      obtain ⟨d, hd⟩ : ∃ d, i = k + d := ⟨i - k, by omega⟩
      have h5 : S y i = S y k + S (fun j => y (k + j)) d := by rw [hd, S_add]
      have h6 := S_nonneg (u := fun j => y (k + j)) (k := d) (fun q hq => h1 (k + q) (by omega))
      omega⟩
    rw [hg] at this
    exact this
  · have := s2.2 k hk
    rw [capd_S _ _ _ hC k hk] at this
    omega
  · have := s2.2 i (Nat.le_refl _)
    rw [capd_S _ _ _ hC i (Nat.le_refl _)] at this
    omega
/-- A group that is contained in another one loses less by a piece that it leaves. -/
theorem fT_step {fs : List Int} {gs : List (List Int)} (hok : GOk gs) (hfl : fs.length = gs.length) (hf : FlowOk fs) {i : Nat} (hi : i < gs.length) {T P : Nat → Bool} (hTP : ∀ j, T j = true → P j = true) {x : Int} (hx1 : x + 1 ≤ S (L fs) (i + 1)) :
    fT fs gs i T x + fT fs gs i P (x + 1) ≤ fT fs gs i T (x + 1) + fT fs gs i P x := by
  obtain ⟨_, b, b1, b2, b3, b4, b5⟩ := fT_spec hok hfl hf hi T (x := x) (by omega)
  obtain ⟨_, d, d1, d2, d3, d4, _⟩ := fT_spec hok hfl hf hi P (x := x + 1) hx1
  obtain ⟨t1, _⟩ := fT_spec hok hfl hf hi T (x := x + 1) hx1
  obtain ⟨p1, _⟩ := fT_spec hok hfl hf hi P (x := x) (by omega)
  rw [← b4, ← d4]
  by_cases h : S b i + (x + 1) ≤ S (L fs) (i + 1)
  · have h1 := t1 b b1 b2 h
    have h2 := p1 d d1 d2 (by omega)
    omega
  · obtain ⟨j, hj, hdj, htight⟩ := aug (b := b) (d := d) (F := S (L fs)) i (fun k hk => b2 k (by omega)) (fun k hk => d2 k (by omega)) (by omega)
    have hTj : T j = true := by
      cases e : T j with
      | true => rfl
      | false => have := b5 j hj e; have := d1 j hj; omega
    have hPj := hTP j hTj
    have hd0 := d1 j hj
    have hupS : ∀ (M : Nat → Bool) (y : Nat → Int) (c : Int), M j = true → S (fun q => if M q then Gf gs q (up y j c q) else 0) i = S (fun q => if M q then Gf gs q (y q) else 0) i + (Gf gs j (y j + c) - Gf gs j (y j)) := fun M y c hM => by
      rw [S_congr (v := up (fun q => if M q then Gf gs q (y q) else 0) j (Gf gs j (y j + c) - Gf gs j (y j))) (fun q _ => by
        by_cases e : q = j
        · subst e; rw [up_self, up_self, hM]; simp; omega
        · rw [up_ne _ _ e, up_ne _ _ e]), S_up, if_pos hj]
    have hb := t1 (up b j (-1)) (fun q hq => by
        have := b1 q hq
        by_cases e : q = j
        · subst e; rw [up_self]; omega
        · rw [up_ne _ _ e]; exact this) (fun k hk => by rw [S_up]; have := b2 k hk; split <;> omega) (by rw [S_up, if_pos hj]; omega)
    have hd := p1 (up d j 1) (fun q hq => by
        have := d1 q hq
        by_cases e : q = j
        · subst e; rw [up_self]; omega
        · rw [up_ne _ _ e]; exact this) (fun k hk => by
        rw [S_up]
        have h1 := d2 k hk
        by_cases hjk : j < k
        · rw [if_pos hjk]
          by_cases hki : k < i
          · have := htight k hjk hki; omega
          · have := b2 i (Nat.le_refl _)
            rw [show k = i by omega]; omega
        · rw [if_neg hjk]; omega) (by rw [S_up, if_pos hj]; omega)
    rw [hupS T b (-1) hTj] at hb
    rw [hupS P d 1 hPj] at hd
    have e1 := Gf_succ gs j (x := b j - 1) (by omega)
    rw [show b j - 1 + 1 = b j by omega] at e1
    have e2 := Gf_succ gs j (x := d j) hd0
    have e3 := mg_anti hok j (x := d j) (y := b j - 1) hd0 (by omega)
    rw [show b j + -1 = b j - 1 by omega] at hb
    omega
theorem fT_tele {fs : List Int} {gs : List (List Int)} (hok : GOk gs) (hfl : fs.length = gs.length) (hf : FlowOk fs) {i : Nat} (hi : i < gs.length) {T P : Nat → Bool} (hTP : ∀ j, T j = true → P j = true) :
    ∀ x : Nat, (x : Int) ≤ S (L fs) (i + 1) → fT fs gs i T 0 + fT fs gs i P x ≤ fT fs gs i T x + fT fs gs i P 0 := by
  intro x
  induction x with
  | zero => intro _; exact Int.le_refl _
  | succ x ih =>
    intro h
    have h1 := ih (by omega)
    have h2 := fT_step hok hfl hf hi hTP (x := (x : Int)) (by omega)
    rw [show ((x + 1 : Nat) : Int) = (x : Int) + 1 by omega]
    omega
/-- What a place adds to the aspiration of places before it is at least its share. -/
theorem asp_add {fs : List Int} {gs : List (List Int)} (hok : GOk gs) (hfl : fs.length = gs.length) (hf : FlowOk fs) {i : Nat} (hi : i < gs.length) {T U : Nat → Bool} (hT : ∀ j, i ≤ j → T j = false) (hU : ∀ j, U j = (T j || decide (j = i))) :
    asp fs gs T + share fs gs i ≤ asp fs gs U := by
  obtain ⟨y, y1, y2⟩ := row_at hok hfl hf (a := 0) (b := i + 1) (Nat.zero_le _) (by omega)
  have hyi := y1.1 i (Nat.zero_le _) (by omega)
  obtain ⟨x, hx⟩ : ∃ x : Nat, (x : Int) = y i := ⟨(y i).toNat, by omega⟩
  have hS : S y (i + 1) = S y i + y i := rfl
  have hyF := y1.2 (i + 1) (Nat.zero_le _) (Nat.le_refl _)
  simp only [S] at hyF
  have hyi0 := S_nonneg (u := y) (k := i) (fun j hj => y1.1 j (Nat.zero_le _) (by omega))
  have hxF : (x : Int) ≤ S (L fs) (i + 1) := by show _ ≤ S (L fs) i + L fs i; omega
  have htele := fT_tele hok hfl hf hi (T := T) (P := fun _ => true) (fun _ _ => rfl) x hxF
  -- the whole river above
  have hP0 : fT fs gs i (fun _ => true) 0 ≤ row fs gs 0 i := by
    obtain ⟨_, z, z1, z2, _, z4, _⟩ := fT_spec hok hfl hf hi (fun _ => true) (x := 0) (by have := flow_mono hf (i := 0) (j := i + 1) (Nat.zero_le _) (by omega); simp only [S] at this ⊢; exact this)
    rw [← z4]
    refine Int.le_trans (Int.le_of_eq ?_) (row_le hok hfl hf (a := 0) (b := i) (Nat.zero_le _) (by omega) (y := z) ⟨fun j _ hj => z1 j hj, fun k _ hk => by have := z2 k hk; simp only [S]; omega⟩)
    unfold WR; simp [S]
  have hPx : row fs gs 0 (i + 1) ≤ fT fs gs i (fun _ => true) x + Gf gs i x := by
    obtain ⟨s1, _⟩ := fT_spec hok hfl hf hi (fun _ => true) (x := (x : Int)) hxF
    have := s1 y (fun j hj => y1.1 j (Nat.zero_le _) (by omega)) (fun k hk => by have := y1.2 k (Nat.zero_le _) (by omega); simp only [S] at this; omega) (by rw [hx]; show _ ≤ S (L fs) i + L fs i; omega)
    rw [← y2]
    unfold WR
    simp only [S]
    rw [← hx]
    simp only [if_true] at this
    omega
  -- the group
  have hT0 : asp fs gs T ≤ fT fs gs i T 0 := by
    obtain ⟨_, z, z1, z2, _⟩ := asp_spec hok hfl hf T
    obtain ⟨s1, _⟩ := fT_spec hok hfl hf hi T (x := 0) (by have := flow_mono hf (i := 0) (j := i + 1) (Nat.zero_le _) (by omega); simp only [S] at this ⊢; exact this)
    rw [← z2, S_tail_zero (k := i) (by omega) (fun j j1 _ => by rw [hT j j1]; simp)]
    exact s1 z (fun j hj => z1.1 j (by omega)) (fun k hk => z1.2 k (by omega)) (by have := z1.2 i (by omega); have := flow_mono hf (i := i) (j := i + 1) (by omega) (by omega); omega)
  have hTx : fT fs gs i T x + Gf gs i x ≤ asp fs gs U := by
    obtain ⟨_, z, z1, z2, z3, z4, _⟩ := fT_spec hok hfl hf hi T (x := (x : Int)) hxF
    obtain ⟨c, hc⟩ : ∃ c : Nat → Int, c = fun j => if j < i then z j else if j = i then (x : Int) else 0 := ⟨_, rfl⟩
    have hc1 : ∀ k, k ≤ i → S c k = S z k := fun k hk => S_congr fun j hj => by rw [hc]; simp; omega
    have hc2 : S c (i + 1) = S z i + x := by rw [S, hc1 i (Nat.le_refl _), hc]; simp
    have hc3 : ∀ k, i + 1 ≤ k → S c k = S z i + x := fun k hk => by
      rw [S_tail_zero (k := i + 1) hk (fun j j1 _ => by rw [hc]; simp only []; rw [if_neg (by omega), if_neg (by omega)]), hc2]
    have h1 := (asp_spec hok hfl hf U).1 c ⟨fun j hj => by
      rw [hc]; simp only []
      split
      · exact z1 j (by omega)
      · split <;> omega, fun k hk => by
      by_cases e : k ≤ i
      · rw [hc1 k e]; exact z2 k e
      · rw [hc3 k (by omega)]
        have := flow_mono hf (i := i + 1) (j := k) (by omega) (by omega)
        omega⟩
    have h2 : S (fun j => if U j then Gf gs j (c j) else 0) gs.length = S (fun j => if T j then Gf gs j (z j) else 0) i + Gf gs i x := by
      rw [S_tail_zero (k := i + 1) (by omega) (fun j j1 _ => by
        have : U j = false := by rw [hU, hT j (by omega)]; simp; omega
        rw [this]; simp), S, S_congr (v := fun j => if T j then Gf gs j (z j) else 0) (fun j hj => by
        have : U j = T j := by rw [hU]; simp; omega
        rw [this, hc]; simp [hj])]
      have : U i = true := by rw [hU]; simp
      rw [this, hc]
      simp
    rw [h2, z4] at h1
    exact h1
  unfold share
  omega
/-- W2: each group gets at most what it aspires to. -/
theorem fair_high {fs : List Int} {gs : List (List Int)} (hok : GOk gs) (hfl : fs.length = gs.length) (hf : FlowOk fs) (M : Nat → Bool) : ∀ k, k ≤ gs.length → sumOf (share fs gs) M k ≤ asp fs gs (fun j => M j && decide (j < k)) := by
  intro k
  induction k with
  | zero =>
    intro _
    have := (asp_spec hok hfl hf (fun j => M j && decide (j < 0))).1 (fun _ => 0) ⟨fun _ _ => Int.le_refl _, fun k hk => by
      have h1 := flow_mono hf (i := 0) (j := k) (Nat.zero_le _) (by omega)
      have h2 : S (fun _ => (0 : Int)) k = 0 := S_tail_zero (k := 0) (Nat.zero_le _) (fun _ _ _ => rfl)
      rw [h2]; exact h1⟩
    rw [S_tail_zero (k := 0) (Nat.zero_le _) (fun j _ _ => by simp)] at this
    exact this
  | succ k ih =>
    intro hk
    have h1 := ih (by omega)
    have h2 : sumOf (share fs gs) M (k + 1) = sumOf (share fs gs) M k + if M k then share fs gs k else 0 := rfl
    rw [h2]
    cases hM : M k with
    | false =>
      have : (fun j => M j && decide (j < k + 1)) = (fun j => M j && decide (j < k)) := by
        funext j
        by_cases e : j = k
        · subst e; rw [hM]; simp
        · rw [show decide (j < k + 1) = decide (j < k) by rw [Bool.eq_iff_iff]; simp; omega]
      rw [this]
      simp only [Bool.false_eq_true, if_false]
      omega
    | true =>
      have := asp_add hok hfl hf (i := k) (by omega) (T := fun j => M j && decide (j < k)) (U := fun j => M j && decide (j < k + 1)) (fun j hj => by simp; intro _; omega) (fun j => by
        by_cases e : j = k
        · subst e; rw [hM]; simp
        · rw [show decide (j < k + 1) = decide (j < k) by rw [Bool.eq_iff_iff]; simp; omega]
          simp [e])
      simp only [if_true]
      omega
end Go.Proofs.Ytccmabckmpelcaa
