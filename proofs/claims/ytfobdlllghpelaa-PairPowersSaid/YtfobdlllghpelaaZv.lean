import Derived.Test.YtfobdlllghpelaaZi
import Derived.Test.YtfobdlllghpelaaZe
import Derived.Test.YtfobdlllghpelaaW
namespace Go.Proofs.Ytfobdlllghpelaa
open Go.RowKit Go.Shelf Pair

theorem getD_mem {l : List Nat} {i : Nat} (h : i < l.length) : l.getD i 0 ∈ l := by
  rw [List.getD_eq_getElem?_getD, List.getElem?_eq_getElem h]; exact List.getElem_mem h
/-- There are pairings of allowed pairs exactly if there is one. -/
theorem ways_iff {cs : List (List Int)} {lo hi : Int} {n : Nat} : 0 < waysM cs lo hi n ↔ ∃ l : List Nat, l.length = n ∧ l.Nodup ∧ (∀ a ∈ l, a < n) ∧ ∀ i, i < n → okM cs lo hi i (l.getD i 0) = true := by
  unfold waysM
  rw [← sufs_length, ← alwP_all, List.length_pos_iff_exists_mem]
  constructor
  · rintro ⟨l, hl⟩
    obtain ⟨h1, h2⟩ := List.mem_filter.1 hl
    obtain ⟨q1, q2, q3⟩ := all_mem h1
    refine ⟨l, q1, q2, q3, fun i hi => ?_⟩
    have := (okL_range _ l 0).1 h2 i (by omega)
    rwa [Nat.zero_add] at this
  · rintro ⟨l, h1, h2, h3, h4⟩
    refine ⟨l, List.mem_filter.2 ⟨(mem_allP n n [] l (by simp) (by simp)).2 ⟨by simp, by simpa using h1, h2, h3⟩, (okL_range _ l 0).2 fun j hj => ?_⟩⟩
    rw [Nat.zero_add]; exact h4 j (by omega)
theorem ways_mono {cs : List (List Int)} {a b : Int} {n : Nat} (h : a ≤ b) (hp : 0 < waysM cs 0 a n) : 0 < waysM cs 0 b n :=
  Nat.lt_of_lt_of_le hp (cw_mono n (okM_mono h) n _)
/-- Hall: there is a pairing of allowed pairs exactly if no set of rows lacks columns. -/
theorem hall_iff {cs : List (List Int)} {lim : Int} {n : Nat} (hg : Good cs n) : 0 < waysM cs 0 lim n ↔ ∀ R, R < 2 ^ n → lackB (alwL cs 0 lim n) R = false := by
  have hn8 := hg.eight
  have hbd := hg.bd
  rw [ways_iff]
  constructor
  · rintro ⟨l, h1, h2, h3, h4⟩ R hR
    unfold lackB
    rw [decide_eq_false_iff_not, hdl_cnt hn8 hR hbd, szS_cnt hR hn8]
    have := hall_easy (ok := okR cs lim) (n := n) (m := n) (A := fun _ => true) (C := fun _ => true) (f := fun i => l.getD i 0)
      (fun i hi _ => ⟨h3 _ (getD_mem (by omega)), rfl, by rw [← ok_same hbd hi (h3 _ (getD_mem (by omega)))]; exact h4 i hi⟩)
      (fun i i' hi hi' _ _ e => by
        have e1 : l.getD i 0 = l[i] := by simp [List.getD_eq_getElem?_getD, show i < l.length by omega]
        have e2 : l.getD i' 0 = l[i'] := by simp [List.getD_eq_getElem?_getD, show i' < l.length by omega]
        simp only [e1, e2] at e
        exact (List.getElem_inj h2).1 e) (fun i => R.testBit i) (fun _ _ _ => rfl)
    simp only [Bool.true_and] at this
    have e : (fun j => nb (okR cs lim) n (fun i => R.testBit i) j) = nb (okR cs lim) n (fun i => R.testBit i) := rfl
    rw [e] at this
    omega
  · intro h
    obtain ⟨f, hf, hi⟩ := hall (okR cs lim) n n n (fun _ => true) (fun _ => true) (cnt_true n) (fun S _ => by
      have hlt : maskTo S n < 2 ^ n := maskTo_lt _ (Nat.le_refl _)
      have hb : ∀ x, x < n → (maskTo S n).testBit x = S x := fun x hx => by rw [maskTo_bit]; simp [hx]
      have h1 := h (maskTo S n) hlt
      unfold lackB at h1
      rw [decide_eq_false_iff_not, hdl_cnt hn8 hlt hbd, szS_cnt hlt hn8, cnt_congr (T := S) hb] at h1
      have h2 : cnt (nb (okR cs lim) n fun i => (maskTo S n).testBit i) n = cnt (fun j => true && nb (okR cs lim) n S j) n := cnt_congr fun j _ => by
        rw [Bool.true_and, Bool.eq_iff_iff, nb_iff, nb_iff]
        constructor
        · rintro ⟨i, a, b, d⟩; exact ⟨i, a, by rw [← hb i a]; exact b, d⟩
        · rintro ⟨i, a, b, d⟩; exact ⟨i, a, by rw [hb i a]; exact b, d⟩
      omega)
    have hget : ∀ i, i < n → ((List.range n).map f).getD i 0 = f i := fun i hin => by simp [List.getD_eq_getElem?_getD, hin]
    refine ⟨(List.range n).map f, by simp, ?_, fun a ha => ?_, fun i hin => ?_⟩
    · rw [List.nodup_iff_pairwise_ne, List.pairwise_map]
      refine List.Pairwise.imp_of_mem ?_ (List.nodup_iff_pairwise_ne.1 (List.nodup_range (n := n)))
      intro a b ha hb hne he
      exact hne (hi a b (List.mem_range.1 ha) (List.mem_range.1 hb) rfl rfl he)
    · obtain ⟨i, hin, rfl⟩ := List.mem_map.1 ha
      exact (hf i (List.mem_range.1 hin) rfl).1
    · rw [hget i hin, ok_same hbd hin (hf i hin rfl).1]
      exact (hf i hin rfl).2.2
theorem lkM_none {al : List Nat} : ∀ {N : Nat}, lkM al N = none ↔ ∀ R, R < N → lackB al R = false
  | 0 => ⟨fun _ R h => by omega, fun _ => rfl⟩
  | N + 1 => by
    unfold lkM
    by_cases h : lackB al N = true
    · rw [if_pos h]
      constructor
      · intro e
        exfalso
        revert e
        unfold lkStep
        cases lkM al N with
        | none => simp
        | some b => simp only; split <;> simp
      · intro e; have := e N (by omega); rw [h] at this; simp at this
    · rw [if_neg h, lkM_none (N := N)]
      constructor
      · intro e R hR
        rcases Nat.lt_succ_iff_lt_or_eq.1 hR with h1 | rfl
        · exact e R h1
        · simpa using h
      · intro e R hR; exact e R (by omega)
theorem lkM_some {al : List Nat} : ∀ {N : Nat} {l : List Nat}, lkM al N = some l → ∃ R, R < N ∧ l = bl R ∧ lackB al R = true ∧ ∀ S, S < N → lackB al S = true → (bl R).length ≤ (bl S).length
  | 0, l, h => by simp [lkM] at h
  | N + 1, l, h => by
    unfold lkM at h
    by_cases hl : lackB al N = true
    · rw [if_pos hl] at h
      cases hm : lkM al N with
      | none =>
        rw [hm] at h
        simp [lkStep] at h
        refine ⟨N, by omega, h.symm, hl, fun S hS hs => ?_⟩
        rcases Nat.lt_succ_iff_lt_or_eq.1 hS with h1 | rfl
        · have := lkM_none.1 hm S h1; rw [hs] at this; simp at this
        · exact Nat.le_refl _
      | some b =>
        obtain ⟨R, h1, h2, h3, h4⟩ := lkM_some hm
        rw [hm] at h
        simp only [lkStep] at h
        by_cases hb : befB (bl N) b = true
        · rw [if_pos hb] at h
          injection h with h
          refine ⟨N, by omega, h.symm, hl, fun S hS hs => ?_⟩
          have hle : (bl N).length ≤ b.length := by
            apply Nat.le_of_not_lt
            intro e
            rw [befB_gt e] at hb; simp at hb
          rcases Nat.lt_succ_iff_lt_or_eq.1 hS with h5 | rfl
          · have := h4 S h5 hs; rw [h2] at hle; omega
          · exact Nat.le_refl _
        · rw [if_neg hb] at h
          injection h with h
          refine ⟨R, by omega, by rw [← h, h2], h3, fun S hS hs => ?_⟩
          have hle : b.length ≤ (bl N).length := by
            apply Nat.le_of_not_lt
            intro e
            rw [befB_lt e] at hb; simp at hb
          rcases Nat.lt_succ_iff_lt_or_eq.1 hS with h5 | rfl
          · exact h4 S h5 hs
          · rw [← h2]; exact hle
    · rw [if_neg hl] at h
      obtain ⟨R, h1, h2, h3, h4⟩ := lkM_some h
      refine ⟨R, by omega, h2, h3, fun S hS hs => ?_⟩
      rcases Nat.lt_succ_iff_lt_or_eq.1 hS with h5 | rfl
      · exact h4 S h5 hs
      · exact absurd hs hl
/-- What Lacks finds lacks just one column. -/
theorem lacks_fact {cs : List (List Int)} {lim : Int} {n : Nat} {l : List Nat} (hg : Good cs n) (h : lkM (alwL cs 0 lim n) (2 ^ n) = some l) :
    ∃ R, R < 2 ^ n ∧ l = bl R ∧ hdN cs lim l n + 1 = l.length := by
  have hn8 := hg.eight
  have hbd := hg.bd
  obtain ⟨R, h1, h2, h3, h4⟩ := lkM_some h
  refine ⟨R, h1, h2, ?_⟩
  have hl : ∀ i ∈ l, i < n := fun i hi => by
    rw [h2] at hi
    have := (bl_in.1 hi).2
    refine Nat.lt_of_not_le fun e => ?_
    rw [low_bit h1 e] at this; simp at this
  rw [hdN_eq hn8 hbd hl, h2]
  unfold lackB at h3
  rw [decide_eq_true_eq, hdl_cnt hn8 h1 hbd, szS_cnt h1 hn8] at h3
  have := lacks_one h3 (fun T hT => by
    apply Nat.le_of_not_lt
    intro hlt
    have hTl : maskTo T n < 2 ^ n := maskTo_lt _ (Nat.le_refl _)
    have hb : ∀ x, x < n → (maskTo T n).testBit x = T x := fun x hx => by rw [maskTo_bit]; simp [hx]
    have e1 : cnt (nb (okR cs lim) n fun i => (maskTo T n).testBit i) n = cnt (nb (okR cs lim) n T) n := cnt_congr fun j _ => by
      rw [Bool.eq_iff_iff, nb_iff, nb_iff]
      constructor
      · rintro ⟨i, a, b, d⟩; exact ⟨i, a, by rw [← hb i a]; exact b, d⟩
      · rintro ⟨i, a, b, d⟩; exact ⟨i, a, by rw [hb i a]; exact b, d⟩
    have hk : lackB (alwL cs 0 lim n) (maskTo T n) = true := by
      unfold lackB
      rw [decide_eq_true_eq, hdl_cnt hn8 hTl hbd, szS_cnt hTl hn8, e1, cnt_congr (T := T) hb]
      exact hlt
    have := h4 _ hTl hk
    have e2 : (bl R).length = cnt (fun j => R.testBit j) n := szS_cnt h1 hn8
    have e3 : (bl (maskTo T n)).length = cnt T n := (szS_cnt hTl hn8).trans (cnt_congr hb)
    omega)
  rw [hdl_cnt hn8 h1 hbd]
  rw [show (bl R).length = cnt (fun j => R.testBit j) n from szS_cnt h1 hn8]
  exact this
theorem ways_all {cs : List (List Int)} {n : Nat} (hg : Good cs n) : 0 < waysM cs 0 1000 n :=
  ways_iff.2 ⟨List.range n, by simp, List.nodup_range, fun a ha => List.mem_range.1 ha, fun i hi => by
    rw [show (List.range n).getD i 0 = i by simp [List.getD_eq_getElem?_getD, hi]]
    have := hg.bd i i hi hi
    unfold okM
    simp [this.1, this.2]⟩
theorem ways_neg {cs : List (List Int)} {n : Nat} {lim : Int} (hg : Good cs n) (h : lim < 0) : ¬ 0 < waysM cs 0 lim n := by
  rw [ways_iff]
  rintro ⟨l, h1, _, _, h4⟩
  have := h4 0 hg.one
  unfold okM at this
  simp only [Bool.and_eq_true, decide_eq_true_eq] at this
  omega
/-- The cost of Worst. -/
theorem worst_fact {cs : List (List Int)} {n m : Nat} (hg : Good cs n) (h : Least (fun m => decide (0 < waysM cs 0 m n)) 1000 m) :
    m ≤ 1000 ∧ 0 < waysM cs 0 m n ∧ ¬ 0 < waysM cs 0 ((m : Int) - 1) n ∧ ∀ lim : Int, (m : Int) ≤ lim ↔ 0 < waysM cs 0 lim n := by
  obtain ⟨h1, h2, h3⟩ := h
  have hp : 0 < waysM cs 0 m n := by
    by_cases e : m < 1000
    · simpa using h3 e
    · obtain rfl : m = 1000 := by omega
      exact ways_all hg
  have hq : ¬ 0 < waysM cs 0 ((m : Int) - 1) n := by
    by_cases e : m = 0
    · subst e; exact ways_neg hg (by omega)
    · have := h2 (m - 1) (by omega)
      rw [decide_eq_false_iff_not, show ((m - 1 : Nat) : Int) = (m : Int) - 1 by omega] at this
      exact this
  refine ⟨h1, hp, hq, fun lim => ⟨fun hl => ways_mono hl hp, fun hl => ?_⟩⟩
  apply Int.le_of_not_gt
  intro hlt
  exact hq (ways_mono (by omega) hl)
/-- The pairing of Worst. -/
theorem worst_pair {cs : List (List Int)} {n m : Nat} (hg : Good cs n) (h : Least (fun m => decide (0 < waysM cs 0 m n)) 1000 m) :
    ∃ l, (sufs (okM cs 0 m) n n (2 ^ n - 1))[0]? = some l ∧ l.length = n ∧ l.Nodup ∧ (∀ a ∈ l, a < n) ∧ (falling (costsN cs l)).length = n ∧ (falling (costsN cs l)).getD 0 0 = m := by
  obtain ⟨h1, hp, hq, _⟩ := worst_fact hg h
  unfold waysM at hp
  rw [← sufs_length] at hp
  refine ⟨(sufs (okM cs 0 m) n n (2 ^ n - 1))[0], List.getElem?_eq_getElem hp, ?_⟩
  have hin := List.getElem_mem hp
  obtain ⟨l, hl⟩ : ∃ l, l = (sufs (okM cs 0 m) n n (2 ^ n - 1))[0] := ⟨_, rfl⟩
  rw [← hl] at hin ⊢
  rw [← allowed_sufs hg, List.mem_filter] at hin
  obtain ⟨q1, q2, q3⟩ := all_mem hin.1
  refine ⟨q1, q2, q3, by rw [(falling_perm _).length_eq]; simp [costsN, q1], ?_⟩
  have hw := hin.2
  unfold withinL at hw
  simp only [decide_eq_true_eq] at hw
  apply Classical.byContradiction
  intro hne
  apply hq
  have hw2 : withinL cs ((m : Int) - 1) l = true := by
    unfold withinL
    simp only [decide_eq_true_eq]
    omega
  rw [allowed_ways hg]
  exact List.length_pos_iff_exists_mem.2 ⟨l, List.mem_filter.2 ⟨hin.1, hw2⟩⟩
theorem found_row {w : World} {B n : Nat} {l : List Nat} {pv : Value} (h : Found w B n (some l) (.returned pv)) : ∃ g, pv = .slice (some ⟨g, 0, none⟩) n n ∧ Row w B g n (natI l) := by
  obtain ⟨g, h1, h2⟩ := h
  injection h1 with h1
  exact ⟨g, h1, h2⟩

end Go.Proofs.Ytfobdlllghpelaa
