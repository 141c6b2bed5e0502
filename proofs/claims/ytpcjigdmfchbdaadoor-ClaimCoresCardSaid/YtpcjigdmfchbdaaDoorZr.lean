import Derived.Test.YtpcjigdmfchbdaaDoorZq
namespace Cl

theorem orP_bit {l : List Nat} {j : Nat} : (l.foldl (fun m i => m ||| 2 ^ i) 0).testBit j = true ↔ j ∈ l := by
  rw [show l.foldl (fun m i => m ||| 2 ^ i) 0 = l.foldl (fun m i => if (fun _ => true) i = true then m ||| 2 ^ i else m) 0 from rfl, fold_bit]
  simp [two_bit]
theorem sorted_same : ∀ {a b : List Nat}, a.Pairwise (· < ·) → b.Pairwise (· < ·) → (∀ x, x ∈ a ↔ x ∈ b) → a = b
  | [], [], _, _, _ => rfl
  | [], y :: b, _, _, h => absurd ((h y).2 (by simp)) (by simp)
  | x :: a, [], _, _, h => absurd ((h x).1 (by simp)) (by simp)
  | x :: a, y :: b, ha, hb, h => by
    have ha' := List.pairwise_cons.1 ha
    have hb' := List.pairwise_cons.1 hb
    have hxy : x = y := by
      rcases List.mem_cons.1 ((h x).1 (by simp)) with e | e
      · exact e
      · rcases List.mem_cons.1 ((h y).2 (by simp)) with e2 | e2
        · exact e2.symm
        · have := ha'.1 y e2; have := hb'.1 x e; omega
    subst hxy
    congr 1
    refine sorted_same ha'.2 hb'.2 fun z => ⟨fun hz => ?_, fun hz => ?_⟩
    · rcases List.mem_cons.1 ((h z).1 (by simp [hz])) with e | e
      · have := ha'.1 z hz; omega
      · exact e
    · rcases List.mem_cons.1 ((h z).2 (by simp [hz])) with e | e
      · have := hb'.1 z hz; omega
      · exact e
theorem bl_sorted (S : Nat) : (bl S).Pairwise (· < ·) := List.Pairwise.filter _ List.pairwise_lt_range
theorem bl_of {l : List Nat} {T : Nat} (hs : l.Pairwise (· < ·)) (hT : T < 4096) (h : ∀ x, x ∈ l ↔ T.testBit x = true) : l = bl T :=
  sorted_same hs (bl_sorted T) fun x => by
    rw [h, mem_bl]
    exact ⟨fun k => ⟨near (n := 12) hT k, k⟩, fun k => k.2⟩
/-- A part of a set's list is the list of a set. -/
theorem bl_part {n S : Nat} (hn : n ≤ 12) (hS : S < 2 ^ n) {q : List Nat} (h : q.Sublist (bl S)) : ∃ T, T < 2 ^ n ∧ q = bl T := by
  have hi : Inn (q.foldl (fun m i => m ||| 2 ^ i) 0) S := fun j hj => (mem_bl.1 (h.subset (orP_bit.1 hj))).2
  have hT := Nat.lt_of_le_of_lt (sub_le hi) hS
  exact ⟨_, hT, bl_of ((bl_sorted S).sublist h) (lt12 hn hT) fun x => orP_bit.symm⟩
theorem bl_put {T c k : Nat} (hT : T < 4096) (hc : c < 12) (hn : T.testBit c = false) (h1 : ∀ j, j < k → j < (bl T).length → (bl T).getD j 0 < c) (h2 : k < (bl T).length → ¬ (bl T).getD k 0 < c) :
    (bl T).take k ++ [c] ++ (bl T).drop k = bl (T ||| 2 ^ c) := by
  have hlt : T ||| 2 ^ c < 4096 := Nat.or_lt_two_pow (n := 12) hT (Nat.pow_lt_pow_right (a := 2) (m := c) (n := 12) (by decide) hc)
  have hsd := bl_sorted T
  have hgt : ∀ x ∈ (bl T).drop k, c < x := by
    intro x hx
    obtain ⟨i, hi, rfl⟩ := List.getElem_of_mem hx
    rw [List.getElem_drop]
    have hkl : k + i < (bl T).length := by simp at hi; omega
    have hk : ¬ (bl T).getD k 0 < c := h2 (by omega)
    rw [List.getD_eq_getElem?_getD, List.getElem?_eq_getElem (by omega), Option.getD_some] at hk
    have hne : (bl T)[k + i] ≠ c := by
      intro e
      have hm : (bl T)[k + i] ∈ bl T := List.getElem_mem _
      rw [e, mem_bl, hn] at hm
      exact absurd hm.2 (by decide)
    rcases Nat.eq_zero_or_pos i with e | e
    · subst e; simp only [Nat.add_zero] at hne ⊢; omega
    · have := List.pairwise_iff_getElem.1 hsd k (k + i) (by omega) hkl (by omega)
      omega
  have hle : ∀ x ∈ (bl T).take k, x < c := by
    intro x hx
    obtain ⟨i, hi, rfl⟩ := List.getElem_of_mem hx
    rw [List.getElem_take]
    simp only [List.length_take] at hi
    have := h1 i (by omega) (by omega)
    rwa [List.getD_eq_getElem?_getD, List.getElem?_eq_getElem (by omega), Option.getD_some] at this
  refine bl_of ?_ hlt fun x => ?_
  · rw [List.append_assoc, List.pairwise_append]
    refine ⟨hsd.sublist (List.take_sublist _ _), ?_, ?_⟩
    · rw [List.singleton_append, List.pairwise_cons]
      exact ⟨hgt, hsd.sublist (List.drop_sublist _ _)⟩
    · intro a ha b hb
      have h3 := hle a ha
      rcases List.mem_cons.1 hb with e | e
      · omega
      · have := hgt b e; omega
  · rw [Nat.testBit_or, Bool.or_eq_true, two_bit, decide_eq_true_eq]
    have : x ∈ (bl T).take k ++ [c] ++ (bl T).drop k ↔ x ∈ bl T ∨ x = c := by
      conv => rhs; lhs; rw [← List.take_append_drop k (bl T)]
      simp only [List.mem_append, List.mem_cons, List.not_mem_nil, or_false]
      constructor
      · rintro ((h | h) | h)
        · exact .inl (.inl h)
        · exact .inr h
        · exact .inl (.inr h)
      · rintro ((h | h) | h)
        · exact .inl (.inl h)
        · exact .inr h
        · exact .inl (.inr h)
    rw [this, mem_bl]
    constructor
    · rintro (h | h)
      · exact .inl h.2
      · exact .inr h.symm
    · rintro (h | h)
      · exact .inl ⟨near (n := 12) hT h, h⟩
      · exact .inr h.symm
theorem or_inn (T c : Nat) : Inn T (T ||| 2 ^ c) := fun j hj => by rw [Nat.testBit_or, hj]; rfl
theorem or_same {T c : Nat} (h : T.testBit c = true) : T ||| 2 ^ c = T := or_eq.2 fun j hj => by
  rw [two_bit, decide_eq_true_eq] at hj
  rw [← hj]; exact h
theorem dfd_mono {n : Nat} {L : Atts} {S O : Nat} (hS : S < 4096) (hO : O < 4096) (h : Inn S O) : Inn (dfd n L S) (dfd n L O) := fun j hj => by
  obtain ⟨h1, h2⟩ := (dfd_bit hS).1 hj
  exact (dfd_bit hO).2 ⟨h1, Def.mono h2 h⟩
/-- Dung's lemma, one claim more. -/
theorem adm_more {n : Nat} {L : Atts} {T c : Nat} (hn : n ≤ 12) (hT : T < 2 ^ n) (h : Adm L T) (hc : (dfd n L T).testBit c = true) : Adm L (T ||| 2 ^ c) := by
  have hin : Inn (T ||| 2 ^ c) (dfd n L T) := fun j hj => by
    rw [Nat.testBit_or, Bool.or_eq_true, two_bit, decide_eq_true_eq] at hj
    rcases hj with hj | rfl
    · exact h.sub hn hT j hj
    · exact hc
  refine ⟨fun i j hi hj => (h.next hn hT).1 i j (hin i hi) (hin j hj), fun j hj => ?_⟩
  exact Def.mono ((dfd_bit (lt12 hn hT)).1 (hin j hj)).2 (or_inn T c)
end Cl
