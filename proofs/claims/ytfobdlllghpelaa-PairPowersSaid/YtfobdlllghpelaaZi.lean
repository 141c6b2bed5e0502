import Derived.Test.YtfobdlllghpelaaZg
import Derived.Test.YtfobdlllghpelaaZf
import Derived.Test.YtfobdlllghpelaaZa
import Derived.Test.YtfobdlllghpelaaW
namespace Go.Proofs.Ytfobdlllghpelaa
open Go.RowKit Go.Shelf Pair

theorem cntF_cnt (S : Nat → Bool) : ∀ n, cntF S 0 n = cnt S n
  | 0 => rfl
  | n + 1 => by rw [cntF_snoc, cntF_cnt S n, Nat.zero_add]; rfl
theorem cnt_succ (S : Nat → Bool) (n : Nat) : cnt S (n + 1) = cnt S n + (if S n then 1 else 0) := rfl
theorem cnt_filter (S : Nat → Bool) : ∀ n, ((List.range n).filter S).length = cnt S n
  | 0 => rfl
  | n + 1 => by
    rw [List.range_succ, List.filter_append, List.length_append, cnt_filter S n, cnt_succ]
    by_cases h : S n = true <;> simp [h]
theorem szS_cnt {s n : Nat} (hs : s < 2 ^ n) (hn : n ≤ 8) : szS s = cnt (fun j => s.testBit j) n := by
  rw [szS_sz hs hn]; unfold sz; exact cnt_filter _ n
theorem cnt_true (n : Nat) : cnt (fun _ => true) n = n := by
  induction n with
  | zero => rfl
  | succ n ih => rw [cnt_succ, ih]; rfl
theorem cnt_not (S : Nat → Bool) (n : Nat) : cnt S n + cnt (fun i => !S i) n = n := by
  have := cnt_split (fun _ => true) S n
  rw [cnt_true] at this
  simpa using this.symm
/-- Counting over more numbers. -/
theorem cnt_add (S : Nat → Bool) (n : Nat) : ∀ d, cnt S (n + d) = cnt S n + cnt (fun i => S (n + i)) d
  | 0 => rfl
  | d + 1 => by
    rw [show n + (d + 1) = (n + d) + 1 by omega]
    rw [cnt_succ, cnt_add S n d, cnt_succ]; omega
/-- König: if no covering by all rows but some, and their columns, has fewer than `v`, there are `v` pairs without a common row or column. -/
theorem konig_strong (ok : Nat → Nat → Bool) (n v : Nat) (hv : v ≤ n) (h : ∀ S : Nat → Bool, v + cnt S n ≤ n + cnt (nb ok n S) n) :
    ∃ (A : Nat → Bool) (f : Nat → Nat), v ≤ cnt A n ∧ (∀ i, i < n → A i = true → f i < n ∧ ok i (f i) = true) ∧ ∀ i i', i < n → i' < n → A i = true → A i' = true → f i = f i' → i = i' := by
  obtain ⟨f, hf, hi⟩ := hall (fun i j => if j < n then ok i j else true) n (n + (n - v)) n (fun _ => true) (fun _ => true) (cnt_true n) (fun S _ => by
    rw [cnt_add]
    by_cases h0 : cnt S n = 0
    · omega
    obtain ⟨a, ha, has⟩ := cnt_pos (by omega : 0 < cnt S n)
    have e1 : cnt (fun j => true && nb (fun i j => if j < n then ok i j else true) n S j) n = cnt (nb ok n S) n := cnt_congr fun j hj => by
      rw [Bool.true_and, Bool.eq_iff_iff, nb_iff, nb_iff]
      simp only [hj, if_true]
    have e2 : cnt (fun i => (fun j => true && nb (fun i j => if j < n then ok i j else true) n S j) (n + i)) (n - v) = n - v := by
      refine (cnt_congr (T := fun _ => true) fun j _ => ?_).trans (cnt_true _)
      show (true && nb (fun i j => if j < n then ok i j else true) n S (n + j)) = true
      rw [Bool.true_and]
      refine nb_iff.2 ⟨a, ha, has, ?_⟩
      rw [if_neg (by omega)]
    rw [e1, e2]
    have := h S
    omega)
  refine ⟨fun i => decide (f i < n), f, ?_, fun i hin ha => ?_, fun i i' h1 h2 _ _ e => hi i i' h1 h2 rfl rfl e⟩
  · have h1 := cnt_not (fun i => decide (f i < n)) n
    have h2 : cnt (fun i => !decide (f i < n)) n ≤ n - v := by
      have := cnt_inj (m := n - v) (fun i => f i - n) n (fun i => !decide (f i < n)) (fun _ => true) (fun i hin hs => by
        have := (hf i hin rfl).1
        simp at hs
        exact ⟨by omega, rfl⟩) (fun i i' h1 h2 h3 h4 e => hi i i' h1 h2 rfl rfl (by simp at h3 h4; omega))
      rwa [cnt_true] at this
    omega
  · simp at ha
    refine ⟨ha, ?_⟩
    have := (hf i hin rfl).2.2
    simpa [ha] using this

/-- The best covering so far is one, or all rows; and no earlier one is less. -/
theorem mosM_is (al : List Nat) (M : Nat) : ∀ S, S ≤ M → ∃ s, s ≤ M ∧ mosM al M S = (s, hdlK al (bl (M - s)))
  | 0, _ => ⟨M, Nat.le_refl _, by show (M, 0) = _; rw [Nat.sub_self]; rfl⟩
  | S + 1, h => by
    unfold mosM
    split
    · exact ⟨S, by omega, rfl⟩
    · exact mosM_is al M S (by omega)
theorem mosM_le (al : List Nat) (M : Nat) : ∀ S, (szS (mosM al M S).1 + szS (mosM al M S).2 ≤ szS M + szS 0) ∧ ∀ s, s < S → szS (mosM al M S).1 + szS (mosM al M S).2 ≤ szS s + szS (hdlK al (bl (M - s)))
  | 0 => ⟨Nat.le_refl _, fun s h => by omega⟩
  | S + 1 => by
    obtain ⟨h1, h2⟩ := mosM_le al M S
    unfold mosM
    split
    · rename_i hc
      exact ⟨by simp only; omega, fun s hs => by
        rcases Nat.lt_succ_iff_lt_or_eq.1 hs with h | rfl
        · have := h2 s h; simp only; omega
        · exact Nat.le_refl _⟩
    · rename_i hc
      exact ⟨h1, fun s hs => by
        rcases Nat.lt_succ_iff_lt_or_eq.1 hs with h | rfl
        · exact h2 s h
        · omega⟩
theorem bl_in {S j : Nat} : j ∈ bl S ↔ j < 8 ∧ S.testBit j = true := by
  unfold bl; rw [List.mem_filter, List.mem_range]
/-- The columns of a set of rows. -/
theorem hdl_has {cs : List (List Int)} {n : Nat} {lim : Int} {S j : Nat} (hn8 : n ≤ 8) (hS : S < 2 ^ n) :
    (hdlK (alwL cs 0 lim n) (bl S)).testBit j = true ↔ ∃ i, i < n ∧ S.testBit i = true ∧ j < n ∧ okM cs 0 lim i j = true := by
  unfold hdlK
  rw [hdl_bit, Nat.zero_testBit, Bool.false_or, List.any_eq_true]
  constructor
  · rintro ⟨i, hi, hb⟩
    obtain ⟨hi8, hib⟩ := bl_in.1 hi
    have hin : i < n := by
      refine Nat.lt_of_not_le fun h => ?_
      rw [low_bit hS h] at hib; simp at hib
    rw [alwL_at hin, maskTo_bit] at hb
    simp only [Bool.and_eq_true, decide_eq_true_eq] at hb
    exact ⟨i, hin, hib, hb.1, hb.2⟩
  · rintro ⟨i, hin, hib, hj, hok⟩
    refine ⟨i, bl_in.2 ⟨by omega, hib⟩, ?_⟩
    rw [alwL_at hin, maskTo_bit]
    simp [hj, hok]
theorem hdl_lt {cs : List (List Int)} {n : Nat} {lim : Int} {S : Nat} (hn8 : n ≤ 8) (hS : S < 2 ^ n) : hdlK (alwL cs 0 lim n) (bl S) < 2 ^ n := by
  refine Nat.lt_pow_two_of_testBit _ fun j hj => ?_
  rw [Bool.eq_false_iff]
  intro h
  obtain ⟨_, _, _, h3, _⟩ := (hdl_has hn8 hS).1 h
  omega
theorem compl_bit {n S i : Nat} (hS : S < 2 ^ n) : (2 ^ n - 1 - S).testBit i = (decide (i < n) && !S.testBit i) := by
  rw [show 2 ^ n - 1 - S = 2 ^ n - (S + 1) by omega]; exact Nat.testBit_two_pow_sub_succ hS i
theorem ok_same {cs : List (List Int)} {n : Nat} {lim : Int} (hbd : ∀ i j, i < n → j < n → 0 ≤ costAt cs i j ∧ costAt cs i j ≤ 1000) {i j : Nat} (hi : i < n) (hj : j < n) : okM cs 0 lim i j = okR cs lim i j := by
  unfold okM okR
  simp [(hbd i j hi hj).1]
theorem hdl_cnt {cs : List (List Int)} {n : Nat} {lim : Int} {S : Nat} (hn8 : n ≤ 8) (hS : S < 2 ^ n) (hbd : ∀ i j, i < n → j < n → 0 ≤ costAt cs i j ∧ costAt cs i j ≤ 1000) :
    szS (hdlK (alwL cs 0 lim n) (bl S)) = cnt (nb (okR cs lim) n fun i => S.testBit i) n := by
  rw [szS_cnt (hdl_lt hn8 hS) hn8]
  refine cnt_congr fun j hj => ?_
  rw [Bool.eq_iff_iff, hdl_has hn8 hS, nb_iff]
  constructor
  · rintro ⟨i, a, b, _, d⟩; exact ⟨i, a, b, by rw [← ok_same hbd a hj]; exact d⟩
  · rintro ⟨i, a, b, d⟩; exact ⟨i, a, b, hj, by rw [ok_same hbd a hj]; exact d⟩

/-- What the search for the least covering finds, and the greatest number of pairs. -/
theorem most_konig {cs : List (List Int)} {n : Nat} {lim : Int} (hg : Good cs n) : ∃ R, R < 2 ^ n ∧ mosM (alwL cs 0 lim n) (2 ^ n - 1) (2 ^ n - 1) = (R, hdlK (alwL cs 0 lim n) (bl (2 ^ n - 1 - R))) ∧
    hdlK (alwL cs 0 lim n) (bl (2 ^ n - 1 - R)) < 2 ^ n ∧
    szS R + szS (hdlK (alwL cs 0 lim n) (bl (2 ^ n - 1 - R))) = mostR cs lim n ∧
    ∀ i j, i < n → j < n → costAt cs i j ≤ lim → i ∈ bl R ∨ j ∈ bl (hdlK (alwL cs 0 lim n) (bl (2 ^ n - 1 - R))) := by
  have hn8 := hg.eight
  have hbd := hg.bd
  have hp : 0 < 2 ^ n := Nat.pow_pos (by decide)
  obtain ⟨R, hR, hRe⟩ := mosM_is (alwL cs 0 lim n) (2 ^ n - 1) (2 ^ n - 1) (Nat.le_refl _)
  obtain ⟨hl0, hl⟩ := mosM_le (alwL cs 0 lim n) (2 ^ n - 1) (2 ^ n - 1)
  rw [hRe] at hl0 hl
  simp only at hl0 hl
  have hR2 : R < 2 ^ n := by omega
  have hC2 : 2 ^ n - 1 - R < 2 ^ n := by omega
  have hcov : ∀ i j, i < n → j < n → costAt cs i j ≤ lim → R.testBit i = true ∨ (hdlK (alwL cs 0 lim n) (bl (2 ^ n - 1 - R))).testBit j = true := fun i j hi hj hc => by
    by_cases h : R.testBit i = true
    · exact .inl h
    · right
      refine (hdl_has hn8 hC2).2 ⟨i, hi, ?_, hj, ?_⟩
      · rw [compl_bit hR2]; simp [hi, h]
      · rw [ok_same hbd hi hj]; simpa [okR] using hc
  refine ⟨R, hR2, hRe, hdl_lt hn8 hC2, Nat.le_antisymm ?_ ?_, fun i j hi hj hc => ?_⟩
  · have hfull : szS (2 ^ n - 1) = n := szS_full n hn8
    have hz : szS 0 = 0 := by decide
    obtain ⟨A, f, h1, h2, h3⟩ := konig_strong (okR cs lim) n (szS R + szS (hdlK (alwL cs 0 lim n) (bl (2 ^ n - 1 - R)))) (by omega) (fun S => by
      -- the set of rows as a number
      have hb : ∀ x, x < n → (maskTo S n).testBit x = S x := fun x hx => by rw [maskTo_bit]; simp [hx]
      have hlt : maskTo S n < 2 ^ n := maskTo_lt _ (Nat.le_refl _)
      have hc0 : 2 ^ n - 1 - maskTo S n < 2 ^ n := by omega
      have e1 : szS (2 ^ n - 1 - maskTo S n) + cnt S n = n := by
        rw [szS_cnt hc0 hn8]
        have := cnt_not S n
        rw [cnt_congr (T := fun i => !S i) fun j hj => by rw [compl_bit hlt, hb j hj]; simp [hj]]
        omega
      have e2 : 2 ^ n - 1 - (2 ^ n - 1 - maskTo S n) = maskTo S n := by omega
      have e3 : szS (hdlK (alwL cs 0 lim n) (bl (maskTo S n))) = cnt (nb (okR cs lim) n S) n := by
        rw [hdl_cnt hn8 hlt hbd]
        refine cnt_congr fun j hj => ?_
        rw [Bool.eq_iff_iff, nb_iff, nb_iff]
        constructor
        · rintro ⟨i, a, b, d⟩; exact ⟨i, a, by rw [← hb i a]; exact b, d⟩
        · rintro ⟨i, a, b, d⟩; exact ⟨i, a, by rw [hb i a]; exact b, d⟩
      by_cases hz2 : maskTo S n = 0
      · rw [hz2, Nat.sub_zero, hfull] at e1
        omega
      · have := hl (2 ^ n - 1 - maskTo S n) (by omega)
        rw [e2, e3] at this
        omega)
    have := mostP_ge (okR cs lim) n n 0 (fun _ => false) A f ⟨fun x _ hx ha => ⟨(h2 x (by omega) ha).1, rfl, (h2 x (by omega) ha).2⟩, fun x y _ hx _ hy => h3 x y (by omega) (by omega)⟩
    rw [cntF_cnt] at this
    exact Nat.le_trans h1 this
  · obtain ⟨A, f, hm, hc⟩ := mostP_is (okR cs lim) n n 0 fun _ => false
    rw [cntF_cnt] at hc
    unfold mostR
    rw [← hc, szS_cnt hR2 hn8, szS_cnt (hdl_lt hn8 hC2) hn8]
    refine konig_weak (ok := okR cs lim) (f := f) (fun i hi ha => ?_) (fun i i' h1 h2 => hm.inj i i' (by omega) (by omega) (by omega) (by omega)) (fun i j hi hj ho => hcov i j hi hj (by simpa [okR] using ho))
    obtain ⟨a, _, b⟩ := hm.at_ i (by omega) (by omega) ha
    exact ⟨a, b⟩
  · rcases hcov i j hi hj hc with h | h
    · exact .inl (bl_in.2 ⟨by omega, h⟩)
    · exact .inr (bl_in.2 ⟨by omega, h⟩)
end Go.Proofs.Ytfobdlllghpelaa
