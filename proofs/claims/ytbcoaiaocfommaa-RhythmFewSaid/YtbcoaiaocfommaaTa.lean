import Derived.Test.YtbcoaiaocfommaaRf
import Derived.Test.YtbcoaiaocfommaaSh
import Derived.Test.YtbcoaiaocfommaaT
namespace Go.Proofs.Ytbcoaiaocfommaa
open Go.RowKit

/-! ## read backwards -/
theorem subL_rev (l : List UInt8) (i j : Nat) (hij : i ≤ j) (hj : j ≤ l.length) : subL l.reverse (l.length - j) (l.length - i) = (subL l i j).reverse := by
  apply List.ext_getElem?
  intro t
  rw [subL_get]
  by_cases ht : t < j - i
  · rw [if_pos (by omega), rev_get l _ (by omega), rev_get _ t (by rw [subL_len l i j hj]; omega), subL_len l i j hj, subL_get, if_pos (by omega)]
    congr 1; omega
  · rw [if_neg (by omega), List.getElem?_eq_none (by rw [List.length_reverse, subL_len l i j hj]; omega)]

theorem pers_rev (l : List UInt8) (k : Nat) : pers l.reverse k = pers l k := by
  induction k with
  | zero => rfl
  | succ k ih => unfold pers; rw [ih, perB_rev]

theorem nodup_map_rev {xs : List (List UInt8)} (h : xs.Nodup) : (xs.map List.reverse).Nodup := by
  have : (xs.map List.reverse).Pairwise (· ≠ ·) := by
    rw [List.pairwise_map]
    exact List.Pairwise.imp (fun {a b} h e => h (by rw [← List.reverse_reverse a, e, List.reverse_reverse])) h
  exact this
theorem SqAt.rev {l : List UInt8} {i h : Nat} {z : List UInt8} (hz : SqAt l i h z) (hb : i + 2 * (h + 1) ≤ l.length) : SqAt l.reverse (l.length - (i + 2 * (h + 1))) h z.reverse := by
  obtain ⟨h1, rfl⟩ := hz
  unfold SqAt
  have e0 := subL_rev l i (i + 2 * (h + 1)) (by omega) hb
  have e1 := subL_rev l (i + (h + 1)) (i + 2 * (h + 1)) (by omega) hb
  have e2 := subL_rev l i (i + (h + 1)) (by omega) (by omega)
  have q : l.length - (i + 2 * (h + 1)) + 2 * (h + 1) = l.length - i := by omega
  have q1 : l.length - (i + 2 * (h + 1)) + (h + 1) = l.length - (i + (h + 1)) := by omega
  refine ⟨?_, by rw [q]; exact e0.symm⟩
  unfold sqB at h1 ⊢
  rw [q, q1, e1, e2]
  have : subL l i (i + (h + 1)) = subL l (i + (h + 1)) (i + 2 * (h + 1)) := by simpa using h1
  rw [this]; simp
theorem sqAll_rev_le (l : List UInt8) : (sqAll l l.length).length ≤ (sqAll l.reverse l.reverse.length).length := by
  rw [← List.length_map (f := List.reverse)]
  refine nodup_len (nodup_map_rev (sqAll_spec l l.length).1) fun z hz => ?_
  obtain ⟨y, hy, rfl⟩ := List.mem_map.1 hz
  obtain ⟨i, hi, h, hh, hs⟩ := ((sqAll_spec l l.length).2 y).1 hy
  rw [(sqAll_spec l.reverse l.reverse.length).2, List.length_reverse]
  have hb : i + 2 * (h + 1) ≤ l.length := by omega
  exact ⟨l.length - (i + 2 * (h + 1)), by omega, h, by omega, hs.rev hb⟩
theorem sqAll_rev (l : List UInt8) : (sqAll l.reverse l.reverse.length).length = (sqAll l l.length).length := by
  refine Nat.le_antisymm ?_ (sqAll_rev_le l)
  have := sqAll_rev_le l.reverse
  rwa [List.reverse_reverse] at this

theorem paRow_spec (l : List UInt8) (n k : Nat) : (paRow l n k).Nodup ∧ ∀ z, z ∈ paRow l n k ↔ ∃ i, i < k ∧ z = subL l i (i + n) := by
  induction k with
  | zero => exact ⟨List.nodup_nil, fun z => by simp [paRow]⟩
  | succ k ih =>
    rw [paRow_succ]
    refine ⟨nodup_addS ih.1, fun z => ?_⟩
    rw [mem_addS, ih.2]
    constructor
    · rintro (⟨i, hi, h⟩ | h)
      · exact ⟨i, by omega, h⟩
      · exact ⟨k, by omega, h⟩
    · rintro ⟨i, hi, h⟩
      by_cases e : i = k
      · exact .inr (e ▸ h)
      · exact .inl ⟨i, by omega, h⟩
theorem paRow_rev_le (l : List UInt8) (n : Nat) (hn : n ≤ l.length) : (paRow l n (l.length + 1 - n)).length ≤ (paRow l.reverse n (l.length + 1 - n)).length := by
  rw [← List.length_map (f := List.reverse)]
  refine nodup_len (nodup_map_rev (paRow_spec l n _).1) fun z hz => ?_
  obtain ⟨y, hy, rfl⟩ := List.mem_map.1 hz
  obtain ⟨i, hi, rfl⟩ := ((paRow_spec l n _).2 y).1 hy
  rw [(paRow_spec l.reverse n _).2]
  refine ⟨l.length - (i + n), by omega, ?_⟩
  rw [← subL_rev l i (i + n) (by omega) (by omega)]
  congr 1; omega
theorem paAll_rev (l : List UInt8) : paAll l.reverse l.reverse.length = paAll l l.length := by
  unfold paAll
  rw [List.length_reverse]
  apply List.map_congr_left
  intro n hn
  have hn' := List.mem_range.1 hn
  have h1 := paRow_rev_le l (n + 1) (by omega)
  have h2 := paRow_rev_le l.reverse (n + 1) (by rw [List.length_reverse]; omega)
  rw [List.reverse_reverse, List.length_reverse] at h2
  rw [show l.length + 1 - (n + 1) = l.length - n by omega] at h1 h2
  have := Nat.le_antisymm h2 h1
  omega

theorem MaxRep.rev {l : List UInt8} {p i j : Nat} (hp : 1 ≤ p) (h : MaxRep l p i j) : MaxRep l.reverse p (l.length - j) (l.length - i) := by
  have h2 := h.two
  have h3 := h.le
  have e := subL_rev l i j (by omega) h3
  refine ⟨by omega, by rw [List.length_reverse]; omega, by rw [e, perB_rev]; exact h.per, by rw [e, leastP_rev]; exact h.least, ?_, ?_⟩
  · rcases h.right with hr | hr
    · exact .inl (by omega)
    · by_cases h0 : j = l.length
      · exact .inl (by omega)
      · right
        rw [rev_get l _ (by omega), rev_get l _ (by omega), show l.length - 1 - (l.length - j - 1) = j by omega, show l.length - 1 - (l.length - j - 1 + p) = j - p by omega]
        exact fun e => hr e.symm
  · rcases h.left with hr | hr
    · exact .inl (by rw [List.length_reverse]; omega)
    · by_cases h0 : i = 0
      · exact .inl (by rw [List.length_reverse]; omega)
      · right
        rw [rev_get l _ (by omega), rev_get l _ (by omega), show l.length - 1 - (l.length - i - p) = i - 1 + p by omega, show l.length - 1 - (l.length - i) = i - 1 by omega]
        exact fun e => hr e.symm
def flipR (n : Nat) (r : RunT) : RunT := (n - r.2.1, n - r.1, r.2.2)
theorem mem_rr {l : List UInt8} (x : RunT) : x ∈ rrAll l l.length ↔ ∃ p i j, 1 ≤ p ∧ x = (i, j, p) ∧ MaxRep l p i j := by
  rw [← same_runs, mem_runsCat]
  constructor
  · rintro ⟨p, i, j, h1, _, h⟩; exact ⟨p, i, j, h1, h⟩
  · rintro ⟨p, i, j, h1, h2, h3⟩
    have := h3.two; have := h3.le
    exact ⟨p, i, j, h1, by omega, h2, h3⟩
theorem nodup_len' {xs : List RunT} : ∀ {ys : List RunT}, xs.Nodup → (∀ z, z ∈ xs → z ∈ ys) → xs.length ≤ ys.length := by
  induction xs with
  | nil => intro ys _ _; exact Nat.zero_le _
  | cons x xs ih =>
    intro ys hn hs
    obtain ⟨hx, hn'⟩ := List.nodup_cons.1 hn
    have hxy := hs x (List.mem_cons_self ..)
    have := ih (ys := ys.erase x) hn' (fun z hz => by
      have hzy := hs z (List.mem_cons_of_mem _ hz)
      refine (List.mem_erase_of_ne ?_).2 hzy
      rintro rfl; exact hx hz)
    rw [List.length_erase_of_mem hxy] at this
    have hpos := List.length_pos_of_mem hxy
    rw [List.length_cons]; omega
theorem rr_nodup (l : List UInt8) : (rrAll l l.length).Nodup := List.Pairwise.imp (fun {a b} h e => by subst e; exact ltT_irr _ h) (rrAll_spec l l.length).1
theorem rr_rev_le (l : List UInt8) : (rrAll l l.length).length ≤ (rrAll l.reverse l.reverse.length).length := by
  rw [← List.length_map (f := flipR l.length)]
  refine nodup_len' ?_ fun z hz => ?_
  · have hb : ∀ x ∈ rrAll l l.length, x.1 ≤ l.length ∧ x.2.1 ≤ l.length := fun x hx => by
      obtain ⟨p, i, j, _, rfl, h⟩ := (mem_rr x).1 hx
      have := h.two; have := h.le
      exact ⟨by show i ≤ _; omega, by show j ≤ _; omega⟩
    have key : ∀ {xs : List RunT}, (∀ x ∈ xs, x.1 ≤ l.length ∧ x.2.1 ≤ l.length) → xs.Nodup → (xs.map (flipR l.length)).Nodup := by
      intro xs
      induction xs with
      | nil => intro _ _; exact List.nodup_nil
      | cons x xs ih =>
        intro hb hn
        obtain ⟨hx, hn'⟩ := List.nodup_cons.1 hn
        rw [List.map_cons, List.nodup_cons]
        refine ⟨fun hm => ?_, ih (fun y hy => hb y (List.mem_cons_of_mem _ hy)) hn'⟩
        obtain ⟨y, hy, e⟩ := List.mem_map.1 hm
        have b1 := hb x (List.mem_cons_self ..)
        have b2 := hb y (List.mem_cons_of_mem _ hy)
        obtain ⟨x1, x2, x3⟩ := x
        obtain ⟨y1, y2, y3⟩ := y
        unfold flipR at e
        simp at e b1 b2
        have : y1 = x1 := by omega
        have : y2 = x2 := by omega
        have : y3 = x3 := e.2.2
        subst_vars
        exact hx hy
    exact key hb (rr_nodup l)
  · obtain ⟨y, hy, rfl⟩ := List.mem_map.1 hz
    obtain ⟨p, i, j, hp, rfl, h⟩ := (mem_rr y).1 hy
    exact (mem_rr _).2 ⟨p, l.length - j, l.length - i, hp, rfl, h.rev hp⟩
theorem rr_rev (l : List UInt8) : (rrAll l.reverse l.reverse.length).length = (rrAll l l.length).length := by
  refine Nat.le_antisymm ?_ (rr_rev_le l)
  have := rr_rev_le l.reverse
  rwa [List.reverse_reverse] at this

/-! ## balanced, backwards -/
theorem low_spec (l : List UInt8) (n : Nat) : ∀ k, (∀ i, i < k → lowF l n k ≤ cnt l n i) ∧ (1 ≤ k → ∃ i, i < k ∧ lowF l n k = cnt l n i) := by
  intro k
  induction k with
  | zero => exact ⟨fun i hi => by omega, fun h => by omega⟩
  | succ k ih =>
    refine ⟨fun i hi => ?_, fun _ => ?_⟩
    · unfold lowF
      by_cases e : i = k
      · subst e; omega
      · have := ih.1 i (by omega); omega
    · unfold lowF
      by_cases h1 : 1 ≤ k
      · obtain ⟨i, hi, e⟩ := ih.2 h1
        by_cases h2 : lowF l n k ≤ cnt l n k
        · exact ⟨i, by omega, by omega⟩
        · exact ⟨k, by omega, by omega⟩
      · have h0 : k = 0 := by omega
        subst h0
        have := cnt_le l n 0
        exact ⟨0, by omega, by unfold lowF; omega⟩
theorem high_spec (l : List UInt8) (n : Nat) : ∀ k, (∀ i, i < k → cnt l n i ≤ highF l n k) ∧ (1 ≤ k → ∃ i, i < k ∧ highF l n k = cnt l n i) := by
  intro k
  induction k with
  | zero => exact ⟨fun i hi => by omega, fun h => by omega⟩
  | succ k ih =>
    refine ⟨fun i hi => ?_, fun _ => ?_⟩
    · unfold highF
      by_cases e : i = k
      · subst e; omega
      · have := ih.1 i (by omega); omega
    · unfold highF
      by_cases h1 : 1 ≤ k
      · obtain ⟨i, hi, e⟩ := ih.2 h1
        by_cases h2 : cnt l n k ≤ highF l n k
        · exact ⟨i, by omega, by omega⟩
        · exact ⟨k, by omega, by omega⟩
      · have h0 : k = 0 := by omega
        subst h0
        exact ⟨0, by omega, by unfold highF; omega⟩
theorem even_iff (l : List UInt8) (n : Nat) : evenB l n = true ↔ ∀ i j, i < l.length + 1 - n → j < l.length + 1 - n → cnt l n i ≤ cnt l n j + 1 := by
  unfold evenB
  rw [decide_eq_true_eq]
  constructor
  · intro h i j hi hj
    have h1 := (low_spec l n _).1 j hj
    have h2 := (high_spec l n _).1 i hi
    omega
  · intro h
    by_cases h1 : 1 ≤ l.length + 1 - n
    · obtain ⟨i, hi, e1⟩ := (high_spec l n _).2 h1
      obtain ⟨j, hj, e2⟩ := (low_spec l n _).2 h1
      have := h i j hi hj
      omega
    · have h0 : l.length + 1 - n = 0 := by omega
      rw [h0]
      show ((0 : Nat) : Int) - _ ≤ 1
      omega
theorem cnt_subL (l : List UInt8) (n i : Nat) : cnt l n i = bN (subL l i (i + n)) := by unfold cnt subL; rw [Nat.add_sub_cancel_left]
theorem bN_rev (l : List UInt8) : bN l.reverse = bN l := by unfold bN; rw [List.countP_reverse]
theorem even_rev_imp (l : List UInt8) (n : Nat) (h : evenB l n = true) : evenB l.reverse n = true := by
  rw [even_iff] at h ⊢
  rw [List.length_reverse]
  have key : ∀ i, i < l.length + 1 - n → cnt l.reverse n i = cnt l n (l.length - n - i) := by
    intro i hi
    rw [cnt_subL, cnt_subL, ← bN_rev (subL l _ _), ← subL_rev l _ _ (by omega) (by omega)]
    congr 2 <;> omega
  intro i j hi hj
  rw [key i hi, key j hj]
  exact h _ _ (by omega) (by omega)
theorem even_rev (l : List UInt8) (n : Nat) : evenB l.reverse n = evenB l n := by
  rw [Bool.eq_iff_iff]
  constructor
  · intro h; have := even_rev_imp l.reverse n h; rwa [List.reverse_reverse] at this
  · exact even_rev_imp l n
theorem bal_rev (l : List UInt8) : balB l.reverse = balB l := by
  unfold balB
  have h1 : abB l.reverse = abB l := by unfold abB; rw [List.all_reverse]
  have h2 : ∀ k, evensB l.reverse k = evensB l k := by
    intro k
    induction k with
    | zero => rfl
    | succ k ih => unfold evensB; rw [ih, even_rev]
  rw [h1, h2, List.length_reverse]
end Go.Proofs.Ytbcoaiaocfommaa
