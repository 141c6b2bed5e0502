import Derived.Test.YtfobdlllghpelaaZi
import Derived.Test.YtfobdlllghpelaaZe
namespace Go.Proofs.Ytfobdlllghpelaa
open Go.RowKit Go.Shelf Pair

/-- How many of the suffixes begin with a lesser column than `j`. -/
def lowR (ok : Nat → Nat → Bool) (n k S j : Nat) : Nat := ((List.range j).map fun x => if S.testBit x && ok (n - (k + 1)) x then cw ok n k (clr S x) else 0).sum
/-- The number of a suffix. -/
def rkM (ok : Nat → Nat → Bool) (n : Nat) : Nat → Nat → List Nat → Option Nat
  | k + 1, S, j :: l => if ok (n - (k + 1)) j then (rkM ok n k (clr S j) l).map (lowR ok n k S j + ·) else none
  | _, _, _ => some 0
theorem flat_len (ok : Nat → Nat → Bool) (n k S j : Nat) : ((List.range j).flatMap fun x => if S.testBit x && ok (n - (k + 1)) x then (sufs ok n k (clr S x)).map (x :: ·) else []).length = lowR ok n k S j := by
  rw [List.length_flatMap]
  unfold lowR
  congr 1
  refine List.map_congr_left fun x _ => ?_
  split
  · rw [List.length_map, sufs_length]
  · rfl
theorem range_part (n j : Nat) (h : j < n) : List.range n = List.range j ++ j :: (List.range' (j + 1) (n - (j + 1))) := by
  rw [List.range_eq_range', List.range_eq_range', ← range'_cons j n h]
  have := List.range'_append (s := 0) (m := j) (n := n - j) (step := 1)
  rw [Nat.zero_add, Nat.one_mul] at this
  rw [this]; congr 1; omega
theorem rkM_some (ok : Nat → Nat → Bool) (n : Nat) : ∀ (k S : Nat) (l : List Nat) (r : Nat), l.length = k → l.Nodup → (∀ j ∈ l, j < n ∧ S.testBit j = true) → rkM ok n k S l = some r → (sufs ok n k S)[r]? = some l
  | 0, S, l, r, hl, _, _, h => by
    obtain rfl := List.length_eq_zero_iff.1 hl
    simp [rkM] at h
    subst h
    rfl
  | k + 1, S, [], r, hl, _, _, _ => by simp at hl
  | k + 1, S, j :: l, r, hl, hd, hm, h => by
    obtain ⟨hjn, hjS⟩ := hm j (List.mem_cons_self ..)
    unfold rkM at h
    by_cases e : ok (n - (k + 1)) j = true
    · rw [if_pos e, Option.map_eq_some_iff] at h
      obtain ⟨q, hq, rfl⟩ := h
      have ih := rkM_some ok n k (clr S j) l q (by simpa using hl) (List.nodup_cons.1 hd).2 (fun x hx => ⟨(hm x (List.mem_cons_of_mem _ hx)).1, by
        rw [clr_bit, (hm x (List.mem_cons_of_mem _ hx)).2, decide_eq_false (show ¬ x = j from fun e => (List.nodup_cons.1 hd).1 (by rw [← e]; exact hx))]; rfl⟩) hq
      rw [sufs, range_part n j hjn, List.flatMap_append, List.flatMap_cons, List.getElem?_append_right (by rw [flat_len]; omega), flat_len, show lowR ok n k S j + q - lowR ok n k S j = q by omega, if_pos (by rw [hjS, e]; rfl)]
      have hlen : q < (sufs ok n k (clr S j)).length := (List.getElem?_eq_some_iff.1 ih).1
      rw [List.getElem?_append_left (by rw [List.length_map]; exact hlen), List.getElem?_map, ih]
      rfl
    · rw [if_neg e] at h; simp at h
theorem rkM_none (ok : Nat → Nat → Bool) (n : Nat) : ∀ (k S : Nat) (l : List Nat), l.length = k → rkM ok n k S l = none → l ∉ sufs ok n k S
  | 0, S, l, hl, h => by
    obtain rfl := List.length_eq_zero_iff.1 hl
    simp [rkM] at h
  | k + 1, S, [], hl, _ => by simp at hl
  | k + 1, S, j :: l, hl, h => by
    intro hin
    rw [sufs, List.mem_flatMap] at hin
    obtain ⟨x, _, hx⟩ := hin
    split at hx
    · rename_i hc
      simp only [Bool.and_eq_true] at hc
      obtain ⟨m, hm, e⟩ := List.mem_map.1 hx
      injection e with e1 e2
      subst e1 e2
      unfold rkM at h
      rw [if_pos hc.2, Option.map_eq_none_iff] at h
      exact rkM_none ok n k (clr S x) m (by simpa using hl) h hm
    · simp at hx
theorem rkM_bd (ok : Nat → Nat → Bool) (n : Nat) {k S r : Nat} {l : List Nat} (h : (sufs ok n k S)[r]? = some l) : r < n ^ k := by
  have h1 := (List.getElem?_eq_some_iff.1 h).1
  rw [sufs_length] at h1
  exact Nat.lt_of_lt_of_le h1 (cw_bd ok n k S)

/-- A set without the numbers of a list. -/
def frS (S : Nat) (l : List Nat) : Nat := l.foldl clr S
theorem frS_bit (x : Nat) : ∀ (l : List Nat) (S : Nat), (frS S l).testBit x = (S.testBit x && !decide (x ∈ l))
  | [], S => by simp [frS]
  | j :: l, S => by
    show (frS (clr S j) l).testBit x = _
    rw [frS_bit x l, clr_bit]
    by_cases e : x = j
    · subst e; simp
    · simp [e]
theorem frS_lt {n : Nat} : ∀ (l : List Nat) {S : Nat}, S < 2 ^ n → frS S l < 2 ^ n
  | [], _, h => h
  | _ :: l, _, h => frS_lt l (clr_lt h)
theorem frS_snoc (S : Nat) (l : List Nat) (j : Nat) : frS S (l ++ [j]) = clr (frS S l) j := by simp [frS]
theorem frS_size {n : Nat} (hn : n ≤ 8) : ∀ (l : List Nat) {S : Nat}, S < 2 ^ n → l.Nodup → (∀ j ∈ l, j < n ∧ S.testBit j = true) → szS (frS S l) + l.length = szS S
  | [], _, _, _, _ => rfl
  | j :: l, S, h, hd, hm => by
    obtain ⟨h1, h2⟩ := hm j (List.mem_cons_self ..)
    have h256 : S < 256 := Nat.lt_of_lt_of_le h (pow_le n hn)
    have h3 := (szS_clr S h256 j (by omega) h2).1
    have h4 := frS_size hn l (S := clr S j) (clr_lt h) (List.nodup_cons.1 hd).2 (fun x hx => ⟨(hm x (List.mem_cons_of_mem _ hx)).1, by
        rw [clr_bit, (hm x (List.mem_cons_of_mem _ hx)).2, decide_eq_false (show ¬ x = j from fun e => (List.nodup_cons.1 hd).1 (by rw [← e]; exact hx))]; rfl⟩)
    show szS (frS (clr S j) l) + (l.length + 1) = _
    omega
/-- The sum over the lesser free columns is what comes before. -/
theorem pre_low {ok : Nat → Nat → Bool} {n k S C j : Nat} (hn : n ≤ 8) (hk : szS S = k + 1) (hj : j < n) (hC : ∀ x, C.testBit x = (S.testBit x && (decide (x < n) && ok (n - (k + 1)) x) && decide (x < j))) :
    preS ok n S (bl C) (bl C).length = lowR ok n k S j := by
  unfold preS lowR
  rw [List.take_length, hk, Nat.add_sub_cancel, sum_filter (fun x => S.testBit x && ok (n - (k + 1)) x) (fun x => cw ok n k (clr S x))]
  congr 2
  exact filter_low (by omega) (fun x hx => by rw [hC]; simp [hx, show x < n by omega]) (fun x hx _ => by rw [hC]; simp [show ¬ x < j by omega])

/-! ## Whether a list is a pairing -/
def pgB (n : Nat) (xs : List Int) : Nat → Bool
  | 0 => true
  | k + 1 => pgB n xs k && ((decide (0 ≤ xs.getD k 0) && decide (xs.getD k 0 ≤ (n : Int) - 1)) && !decide (xs.getD k 0 ∈ xs.take k))
def pairB (n : Nat) (xs : List Int) : Bool := decide ((xs.length : Int) = (n : Int)) && pgB n xs xs.length
theorem pgB_mono {n : Nat} {xs : List Int} : ∀ {m k : Nat}, k ≤ m → pgB n xs m = true → pgB n xs k = true
  | 0, k, h, hm => by obtain rfl : k = 0 := by omega
                      exact hm
  | m + 1, k, h, hm => by
    rcases Nat.lt_or_ge k (m + 1) with e | e
    · simp only [pgB, Bool.and_eq_true] at hm
      exact pgB_mono (by omega) hm.1
    · obtain rfl : k = m + 1 := by omega
      exact hm
theorem pgB_at {n : Nat} {xs : List Int} {m : Nat} (h : pgB n xs m = true) {k : Nat} (hk : k < m) : 0 ≤ xs.getD k 0 ∧ xs.getD k 0 ≤ (n : Int) - 1 ∧ xs.getD k 0 ∉ xs.take k := by
  have := pgB_mono (show k + 1 ≤ m by omega) h
  simp only [pgB, Bool.and_eq_true, Bool.not_eq_true', decide_eq_true_eq, decide_eq_false_iff_not] at this
  exact ⟨this.2.1.1, this.2.1.2, this.2.2⟩
theorem pairB_no {n : Nat} {xs : List Int} {k : Nat} (hk : k ≤ xs.length) (h : pgB n xs k = false) : pairB n xs = false := by
  unfold pairB
  cases e : pgB n xs xs.length with
  | false => simp
  | true => rw [pgB_mono hk e] at h; simp at h
/-- What the numbers so far are, as natural ones. -/
def natL (xs : List Int) (k : Nat) : List Nat := (xs.take k).map Int.toNat
theorem natL_succ (xs : List Int) (k : Nat) (h : k < xs.length) : natL xs (k + 1) = natL xs k ++ [(xs.getD k 0).toNat] := by
  unfold natL
  rw [List.take_succ_eq_append_getElem h, List.map_append]
  simp [List.getD_eq_getElem?_getD, h]
theorem pg_nonneg {n : Nat} {xs : List Int} {k : Nat} (hk : k ≤ xs.length) (h : pgB n xs k = true) : ∀ x ∈ xs.take k, 0 ≤ x ∧ x ≤ (n : Int) - 1 := by
  intro x hx
  obtain ⟨i, hi, e⟩ := List.getElem_of_mem hx
  rw [List.length_take] at hi
  have := pgB_at h (k := i) (by omega)
  rw [List.getD_eq_getElem?_getD, List.getElem?_eq_getElem (by omega)] at this
  rw [List.getElem_take] at e
  simp only [Option.getD_some, e] at this
  exact ⟨this.1, this.2.1⟩
theorem natL_mem {n : Nat} {xs : List Int} {k : Nat} (hk : k ≤ xs.length) (h : pgB n xs k = true) {x : Nat} : x ∈ natL xs k ↔ (x : Int) ∈ xs.take k := by
  unfold natL
  rw [List.mem_map]
  constructor
  · rintro ⟨y, hy, rfl⟩
    rw [Int.toNat_of_nonneg (pg_nonneg hk h y hy).1]; exact hy
  · intro hx
    exact ⟨_, hx, by simp⟩
theorem natI_natL {n : Nat} {xs : List Int} (h : pgB n xs xs.length = true) : natI (natL xs xs.length) = xs := by
  unfold natI natL
  rw [List.take_length, List.map_map]
  have := pg_nonneg (Nat.le_refl _) h
  rw [List.take_length] at this
  conv => rhs; rw [← List.map_id xs]
  exact List.map_congr_left fun x hx => Int.toNat_of_nonneg (this x hx).1
theorem pair_list {n : Nat} {xs : List Int} (h : pairB n xs = true) : ∃ l : List Nat, xs = natI l ∧ l.length = n ∧ l.Nodup ∧ ∀ a ∈ l, a < n := by
  simp only [pairB, Bool.and_eq_true, decide_eq_true_eq] at h
  obtain ⟨h1, h2⟩ := h
  refine ⟨natL xs xs.length, (natI_natL h2).symm, by simp [natL]; omega, ?_, fun a ha => ?_⟩
  · have : ∀ k, k ≤ xs.length → (natL xs k).Nodup := by
      intro k
      induction k with
      | zero => intro _; simp [natL]
      | succ k ih =>
        intro hk
        have h3 := pgB_at h2 (k := k) (by omega)
        rw [natL_succ xs k (by omega), List.nodup_append]
        refine ⟨ih (by omega), by simp, fun a ha b hb e => ?_⟩
        rw [List.mem_singleton] at hb
        subst hb e
        rw [natL_mem (by omega) (pgB_mono (by omega) h2), Int.toNat_of_nonneg h3.1] at ha
        exact h3.2.2 ha
    exact this _ (Nat.le_refl _)
  · rw [natL_mem (Nat.le_refl _) h2] at ha
    have := (pg_nonneg (Nat.le_refl _) h2 _ ha).2
    omega
theorem pairB_of {n : Nat} {l : List Nat} (hl : l.length = n) (hd : l.Nodup) (hb : ∀ a ∈ l, a < n) : pairB n (natI l) = true := by
  simp only [pairB, Bool.and_eq_true, decide_eq_true_eq]
  refine ⟨by rw [natI_len, hl], ?_⟩
  have : ∀ k, k ≤ l.length → pgB n (natI l) k = true := by
    intro k
    induction k with
    | zero => intro _; rfl
    | succ k ih =>
      intro hk
      have hkl : k < l.length := hk
      simp only [pgB, ih (by omega), Bool.true_and, Bool.and_eq_true, Bool.not_eq_true', decide_eq_true_eq, decide_eq_false_iff_not]
      rw [natI_at l k hkl]
      have hm : l.getD k 0 = l[k] := by simp [List.getD_eq_getElem?_getD, hkl]
      refine ⟨⟨by omega, ?_⟩, ?_⟩
      · have := hb (l.getD k 0) (by rw [hm]; exact List.getElem_mem hkl); omega
      · intro hin
        unfold natI at hin
        rw [← List.map_take, List.mem_map] at hin
        obtain ⟨a, ha, e⟩ := hin
        have e : a = l.getD k 0 := Int.ofNat.inj e
        obtain ⟨i, hi, rfl⟩ := List.getElem_of_mem ha
        rw [List.length_take] at hi
        rw [List.getElem_take, hm] at e
        have := (List.getElem_inj hd).1 e
        omega
  rw [natI_len]
  exact this _ (Nat.le_refl _)
end Go.Proofs.Ytfobdlllghpelaa
