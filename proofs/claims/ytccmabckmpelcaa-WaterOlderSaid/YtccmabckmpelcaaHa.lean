import Derived.Test.YtccmabckmpelcaaRc
import Derived.Test.YtccmabckmpelcaaGa
namespace Go.Proofs.Ytccmabckmpelcaa

/-! ## Rows of a river -/
theorem L_part (l : List Int) (a b j : Nat) (h : j < b - a) : L (part l a b) j = L l (a + j) := part_get l a b j h 0
theorem mg_part (gs : List (List Int)) (a b j : Nat) (x : Int) (h : j < b - a) : mg (part gs a b) j x = mg gs (a + j) x := by unfold mg; rw [part_get gs a b j h []]
theorem Gf_part (gs : List (List Int)) (a b j : Nat) (x : Int) (h : j < b - a) : Gf (part gs a b) j x = Gf gs (a + j) x := by unfold Gf; rw [part_get gs a b j h []]
theorem S_add (u : Nat → Int) (a : Nat) : ∀ k, S u (a + k) = S u a + S (fun j => u (a + j)) k := by
  intro k
  induction k with
  | zero => simp [S]
  | succ k ih => rw [show a + (k + 1) = a + k + 1 from rfl, S, ih, S]; omega
theorem S_part {l : List Int} {a b k : Nat} (h : k ≤ b - a) : S (L (part l a b)) k = S (L l) (a + k) - S (L l) a := by
  rw [S_add, S_congr (v := fun j => L l (a + j)) (fun i hi => L_part l a b i (by omega))]
  omega

/-- A use that is possible in the row from `a` to `b`. -/
def FeasR (fs : List Int) (a b : Nat) (y : Nat → Int) : Prop := (∀ i, a ≤ i → i < b → 0 ≤ y i) ∧ ∀ k, a ≤ k → k ≤ b → S y k - S y a ≤ S (L fs) k - S (L fs) a
/-- The worth of a use in a row. -/
def WR (gs : List (List Int)) (a b : Nat) (y : Nat → Int) : Int := S (fun i => Gf gs i (y i)) b - S (fun i => Gf gs i (y i)) a

theorem row_le {fs : List Int} {gs : List (List Int)} (hok : GOk gs) (hfl : fs.length = gs.length) (hf : FlowOk fs) {a b : Nat} (hab : a ≤ b) (hb : b ≤ gs.length) {y : Nat → Int} (hy : FeasR fs a b y) : WR gs a b y ≤ row fs gs a b := by
  have hl1 := part_len fs a b (by omega)
  have hl2 := part_len gs a b hb
  obtain ⟨_, _, _, h2, h3⟩ := best_spec (hok.part a b hb) (by rw [hl1, hl2]) (hf.part a b (by omega))
  have h := (h2 (fun j => y (a + j)) ⟨fun i hi => hy.1 (a + i) (by omega) (by rw [hl2] at hi; omega), fun k hk => by
    rw [hl2] at hk
    rw [S_part hk]
    have h4 := hy.2 (a + k) (by omega) (by omega)
    have h5 := S_add y a k
    omega⟩).1
  rw [← h3] at h
  unfold row
  refine Int.le_trans (Int.le_of_eq ?_) h
  unfold WR Wf
  rw [hl2]
  have h6 := S_add (fun i => Gf gs i (y i)) a (b - a)
  rw [show a + (b - a) = b by omega] at h6
  rw [h6, S_congr (v := fun j => Gf gs (a + j) (y (a + j))) (fun i hi => Gf_part gs a b i _ (by omega))]
  omega
theorem row_at {fs : List Int} {gs : List (List Int)} (hok : GOk gs) (hfl : fs.length = gs.length) (hf : FlowOk fs) {a b : Nat} (hab : a ≤ b) (hb : b ≤ gs.length) :
    ∃ y : Nat → Int, FeasR fs a b y ∧ WR gs a b y = row fs gs a b := by
  have hl1 := part_len fs a b (by omega)
  have hl2 := part_len gs a b hb
  obtain ⟨_, _, h1, _, h3⟩ := best_spec (hok.part a b hb) (by rw [hl1, hl2]) (hf.part a b (by omega))
  obtain ⟨u, hu⟩ : ∃ u, u = L (bestU (part fs a b) (part gs a b)) := ⟨_, rfl⟩
  rw [← hu] at h1 h3
  have hsh : ∀ k, S (fun j => (fun i => u (i - a)) (a + j)) k = S u k := fun k => S_congr fun i _ => by simp
  have hS : ∀ k, k ≤ b - a → S (fun i => u (i - a)) (a + k) = S (fun i => u (i - a)) a + S u k := fun k _ => by rw [S_add, hsh]
  refine ⟨fun i => u (i - a), ⟨fun i h4 h5 => h1.1 (i - a) (by rw [hl2]; omega), fun k h4 h5 => ?_⟩, ?_⟩
  · have h6 := h1.2 (k - a) (by rw [hl2]; omega)
    rw [S_part (by omega), show a + (k - a) = k by omega] at h6
    have h7 := hS (k - a) (by omega)
    rw [show a + (k - a) = k by omega] at h7
    omega
  · unfold row
    rw [h3]
    unfold WR Wf
    rw [hl2]
    show S (fun i => Gf gs i (u (i - a))) b - S (fun i => Gf gs i (u (i - a))) a = _
    have h6 := S_add (fun i => Gf gs i (u (i - a))) a (b - a)
    rw [show a + (b - a) = b by omega] at h6
    rw [h6, S_congr (u := fun i => Gf (part gs a b) i (u i)) (v := fun j => Gf gs (a + j) (u (a + j - a))) (fun i hi => by rw [Gf_part gs a b i _ (by omega)]; congr 2; omega)]
    omega

/-- A use put together out of two. -/
def join (c : Nat) (x y : Nat → Int) : Nat → Int := fun i => if i < c then x i else y i
theorem S_join_lo (c : Nat) (x y : Nat → Int) (k : Nat) (h : k ≤ c) : S (join c x y) k = S x k := S_congr fun i hi => by unfold join; rw [if_pos (by omega)]
theorem S_join_hi (c : Nat) (x y : Nat → Int) (k : Nat) (h : c ≤ k) : S (join c x y) k = S x c + (S y k - S y c) := by
  obtain ⟨d, rfl⟩ : ∃ d, k = c + d := ⟨k - c, by omega⟩
  rw [S_add, S_join_lo c x y c (Nat.le_refl _), S_add y c d, S_congr (u := fun j => join c x y (c + j)) (v := fun j => y (c + j)) (fun i _ => by unfold join; rw [if_neg (by omega)])]
  omega
theorem WR_join (gs : List (List Int)) (a c b : Nat) (x y : Nat → Int) (hac : a ≤ c) (hcb : c ≤ b) : WR gs a b (join c x y) = WR gs a c x + WR gs c b y := by
  have e : (fun i => Gf gs i (join c x y i)) = join c (fun i => Gf gs i (x i)) (fun i => Gf gs i (y i)) := by
    funext i; unfold join; split <;> rfl
  unfold WR
  rw [e, S_join_hi c _ _ b hcb, S_join_lo c _ _ a hac]
  omega
/-- Two rows that follow each other are worth together at least what they are worth alone. -/
theorem row_add {fs : List Int} {gs : List (List Int)} (hok : GOk gs) (hfl : fs.length = gs.length) (hf : FlowOk fs) {a c b : Nat} (hac : a ≤ c) (hcb : c ≤ b) (hb : b ≤ gs.length) : row fs gs a c + row fs gs c b ≤ row fs gs a b := by
  obtain ⟨x, x1, x2⟩ := row_at hok hfl hf hac (by omega)
  obtain ⟨y, y1, y2⟩ := row_at hok hfl hf hcb hb
  rw [← x2, ← y2, ← WR_join gs a c b x y hac hcb]
  refine row_le hok hfl hf (by omega) hb ⟨fun i h1 h2 => ?_, fun k h1 h2 => ?_⟩
  · unfold join
    split
    · exact x1.1 i h1 (by omega)
    · exact y1.1 i (by omega) h2
  · rw [S_join_lo c x y a hac]
    by_cases e : k ≤ c
    · rw [S_join_lo c x y k e]; exact x1.2 k h1 e
    · rw [S_join_hi c x y k (by omega)]
      have h3 := x1.2 c hac (Nat.le_refl _)
      have h4 := y1.2 k (by omega) h2
      omega

/-! ## Groups together -/
theorem Al_ext {fs : List Int} {gs : List (List Int)} (hok : GOk gs) (hfl : fs.length = gs.length) (hf : FlowOk fs) {M : Nat → Bool} {a : Nat} : ∀ k, a ≤ k → k ≤ gs.length → (∀ j, a ≤ j → j < k → M j = true) → aC fs gs M k = aC fs gs M a ∧ aSt M k = aSt M a ∧ Al fs gs M a + row fs gs a k ≤ Al fs gs M k := by
  intro k
  induction k with
  | zero =>
    intro h _ _
    obtain rfl : a = 0 := by omega
    exact ⟨rfl, rfl, by rw [row_nil _ _ _ _ (Nat.le_refl _)]; omega⟩
  | succ k ih =>
    intro h hk hM
    by_cases e : a = k + 1
    · subst e; exact ⟨rfl, rfl, by rw [row_nil _ _ _ _ (Nat.le_refl _)]; omega⟩
    · obtain ⟨i1, i2, _⟩ := ih (by omega) (by omega) (fun j h1 h2 => hM j h1 (by omega))
      obtain ⟨y1, y2⟩ := Al_yes (fs := fs) (gs := gs) (hM k (by omega) (by omega))
      refine ⟨by rw [y1, i1], by rw [y2, i2], ?_⟩
      have h3 := row_add hok hfl hf (a := aSt M a) (c := a) (b := k + 1) (aSt_le M a) (by omega) hk
      unfold Al
      rw [y1, i1, y2, i2]
      omega
/-- Where the last row begins. -/
theorem Al_last (fs : List Int) (gs : List (List Int)) (M : Nat → Bool) : ∀ k, aSt M k ≤ k ∧ (∀ j, aSt M k ≤ j → j < k → M j = true) ∧ Al fs gs M k = Al fs gs M (aSt M k) + row fs gs (aSt M k) k ∧ (aSt M k = k → 0 < k → M (k - 1) = false) := by
  intro k
  induction k with
  | zero => exact ⟨Nat.le_refl _, fun j h1 h2 => by omega, by show _ = Al fs gs M 0 + row fs gs 0 0; rw [row_nil _ _ _ _ (Nat.le_refl _)]; show Al fs gs M 0 = _; omega, fun _ h => by omega⟩
  | succ k ih =>
    obtain ⟨i1, i2, i3, _⟩ := ih
    cases hM : M k with
    | true =>
      obtain ⟨y1, y2⟩ := Al_yes (fs := fs) (gs := gs) hM
      rw [y2]
      refine ⟨by omega, fun j h1 h2 => ?_, ?_, fun h => by omega⟩
      · by_cases e : j = k
        · rw [e]; exact hM
        · exact i2 j h1 (by omega)
      · have e1 : Al fs gs M (k + 1) = aC fs gs M k + row fs gs (aSt M k) (k + 1) := by unfold Al; rw [y1, y2]
        have e2 : Al fs gs M k = aC fs gs M k + row fs gs (aSt M k) k := rfl
        omega
    | false =>
      obtain ⟨n1, n2, n3⟩ := Al_not (fs := fs) (gs := gs) hM
      rw [n2]
      refine ⟨Nat.le_refl _, fun j h1 h2 => by omega, ?_, fun _ _ => hM⟩
      rw [row_nil _ _ _ _ (Nat.le_refl _)]; omega
/-- W5: two groups without a common place are worth together at least what they are worth alone. -/
theorem Al_together {fs : List Int} {gs : List (List Int)} (hok : GOk gs) (hfl : fs.length = gs.length) (hf : FlowOk fs) {A B C : Nat → Bool} (hC : ∀ j, C j = (A j || B j)) (hdis : ∀ j, A j = true → B j = false) :
    ∀ k, k ≤ gs.length → Al fs gs A k + Al fs gs B k ≤ Al fs gs C k := by
  intro k
  induction k using Nat.strongRecOn with
  | ind k ih =>
    intro hk
    by_cases h0 : k = 0
    · subst h0; rw [Al_zero, Al_zero, Al_zero]; omega
    · obtain ⟨a1, a2, a3, a4⟩ := Al_last fs gs A k
      obtain ⟨b1, b2, b3, b4⟩ := Al_last fs gs B k
      by_cases ha : aSt A k = k
      · by_cases hb : aSt B k = k
        · have hA := a4 ha (by omega)
          have hB := b4 hb (by omega)
          obtain ⟨j, rfl⟩ : ∃ j, k = j + 1 := ⟨k - 1, by omega⟩
          rw [Nat.add_sub_cancel] at hA hB
          rw [(Al_not hA).2.2, (Al_not hB).2.2, (Al_not (M := C) (by rw [hC, hA, hB]; rfl)).2.2]
          exact ih j (by omega) (by omega)
        · have hgap := (Al_gap (fs := fs) (gs := gs) (M := A) (a := aSt B k) k b1 (fun j h1 h2 => by
            cases e : A j with
            | false => rfl
            | true => have := hdis j e; rw [b2 j h1 h2] at this; simp at this)).1
          have hi := ih (aSt B k) (by omega) (by omega)
          have he := (Al_ext hok hfl hf (M := C) (a := aSt B k) k b1 hk (fun j h1 h2 => by rw [hC, b2 j h1 h2]; simp)).2.2
          omega
      · have hgap := (Al_gap (fs := fs) (gs := gs) (M := B) (a := aSt A k) k a1 (fun j h1 h2 => hdis j (a2 j h1 h2))).1
        have hi := ih (aSt A k) (by omega) (by omega)
        have he := (Al_ext hok hfl hf (M := C) (a := aSt A k) k a1 hk (fun j h1 h2 => by rw [hC, a2 j h1 h2]; simp)).2.2
        omega
end Go.Proofs.Ytccmabckmpelcaa
