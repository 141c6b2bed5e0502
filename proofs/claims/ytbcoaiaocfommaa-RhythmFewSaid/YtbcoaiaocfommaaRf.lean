import Derived.Test.YtbcoaiaocfommaaRe
namespace Go.Proofs.Ytbcoaiaocfommaa
open Go.RowKit Go.Sort

def ltT (x y : RunT) : Prop := x.1 < y.1 ∨ (x.1 = y.1 ∧ x.2.1 < y.2.1)
theorem ltT_irr (x : RunT) : ¬ ltT x x := by unfold ltT; omega
theorem ltT_asym {x y : RunT} (h : ltT x y) : ¬ ltT y x := by unfold ltT at *; omega
theorem sorted_unique : ∀ {A B : List RunT}, A.Pairwise ltT → B.Pairwise ltT → (∀ x, x ∈ A ↔ x ∈ B) → A = B := by
  intro A
  induction A with
  | nil =>
    intro B _ _ h
    cases B with
    | nil => rfl
    | cons b B => exact absurd ((h b).2 (List.mem_cons_self ..)) (by simp)
  | cons a A ih =>
    intro B hA hB h
    cases B with
    | nil => exact absurd ((h a).1 (List.mem_cons_self ..)) (by simp)
    | cons b B =>
      obtain ⟨ha1, ha2⟩ := List.pairwise_cons.1 hA
      obtain ⟨hb1, hb2⟩ := List.pairwise_cons.1 hB
      have hab : a = b := by
        rcases List.mem_cons.1 ((h a).1 (List.mem_cons_self ..)) with e | e
        · exact e
        · rcases List.mem_cons.1 ((h b).2 (List.mem_cons_self ..)) with e2 | e2
          · exact e2.symm
          · exact absurd (hb1 a e) (ltT_asym (ha1 b e2))
      subst hab
      congr 1
      refine ih ha2 hb2 fun x => ?_
      constructor
      · intro hx
        rcases List.mem_cons.1 ((h x).1 (List.mem_cons_of_mem _ hx)) with e | e
        · subst e; exact absurd (ha1 x hx) (ltT_irr x)
        · exact e
      · intro hx
        rcases List.mem_cons.1 ((h x).2 (List.mem_cons_of_mem _ hx)) with e | e
        · subst e; exact absurd (hb1 x hx) (ltT_irr x)
        · exact e

theorem rrStep_mem {l : List UInt8} {i d : Nat} {acc : List RunT} {x : RunT} : x ∈ rrStep l i acc d ↔ x ∈ acc ∨ (maxB l i (i + 2 + d) (leastP (subL l i (i + 2 + d))) = true ∧ x = (i, i + 2 + d, leastP (subL l i (i + 2 + d)))) := by
  unfold rrStep
  split
  · rename_i h; simp [h]
  · rename_i h; simp [h]
theorem rrRow_spec {l : List UInt8} {i : Nat} {acc : List RunT} (hp : acc.Pairwise ltT) (ha : ∀ x ∈ acc, x.1 < i) (k : Nat) :
    (rrRow l acc i k).Pairwise ltT ∧ (∀ x ∈ rrRow l acc i k, x.1 < i ∨ (x.1 = i ∧ x.2.1 < i + 2 + k)) ∧
    ∀ x, x ∈ rrRow l acc i k ↔ x ∈ acc ∨ ∃ d, d < k ∧ maxB l i (i + 2 + d) (leastP (subL l i (i + 2 + d))) = true ∧ x = (i, i + 2 + d, leastP (subL l i (i + 2 + d))) := by
  induction k with
  | zero => exact ⟨hp, fun x hx => .inl (ha x hx), fun x => by simp [rrRow]⟩
  | succ k ih =>
    obtain ⟨h1, h2, h3⟩ := ih
    rw [rrRow_succ]
    refine ⟨?_, ?_, fun x => ?_⟩
    · unfold rrStep
      split
      · rw [List.pairwise_append]
        refine ⟨h1, by simp, fun x hx y hy => ?_⟩
        simp at hy; subst hy
        rcases h2 x hx with h | h
        · exact .inl h
        · exact .inr ⟨h.1, h.2⟩
      · exact h1
    · intro x hx
      rcases rrStep_mem.1 hx with h | ⟨_, rfl⟩
      · rcases h2 x h with h | h
        · exact .inl h
        · exact .inr ⟨h.1, by omega⟩
      · exact .inr ⟨rfl, by show i + 2 + k < _; omega⟩
    · rw [rrStep_mem, h3, or_assoc]
      constructor
      · rintro (h | ⟨d, hd, h⟩ | h)
        · exact .inl h
        · exact .inr ⟨d, by omega, h⟩
        · exact .inr ⟨k, by omega, h⟩
      · rintro (h | ⟨d, hd, h⟩)
        · exact .inl h
        · by_cases e : d = k
          · exact .inr (.inr (e ▸ h))
          · exact .inr (.inl ⟨d, by omega, h⟩)
theorem rrAll_spec (l : List UInt8) (n : Nat) : (rrAll l n).Pairwise ltT ∧ (∀ x ∈ rrAll l n, x.1 < n) ∧
    ∀ x, x ∈ rrAll l n ↔ ∃ i d, i < n ∧ d < l.length - 1 - i ∧ maxB l i (i + 2 + d) (leastP (subL l i (i + 2 + d))) = true ∧ x = (i, i + 2 + d, leastP (subL l i (i + 2 + d))) := by
  induction n with
  | zero => exact ⟨List.Pairwise.nil, fun x hx => by simp [rrAll] at hx, fun x => by simp [rrAll]⟩
  | succ n ih =>
    obtain ⟨h1, h2, h3⟩ := ih
    rw [rrAll_succ]
    obtain ⟨g1, g2, g3⟩ := rrRow_spec (l := l) (i := n) h1 h2 (l.length - 1 - n)
    refine ⟨g1, fun x hx => ?_, fun x => ?_⟩
    · rcases g2 x hx with h | h <;> omega
    · rw [g3, h3]
      constructor
      · rintro (⟨i, d, hi, h⟩ | ⟨d, h⟩)
        · exact ⟨i, d, by omega, h⟩
        · exact ⟨n, d, by omega, h⟩
      · rintro ⟨i, d, hi, h⟩
        by_cases e : i = n
        · subst e; exact .inr ⟨d, h⟩
        · exact .inl ⟨i, d, by omega, h⟩
theorem same_runs {l : List UInt8} (x : RunT) : x ∈ runsCat l (l.length / 2) ↔ x ∈ rrAll l l.length := by
  rw [mem_runsCat, (rrAll_spec l l.length).2.2]
  constructor
  · rintro ⟨p, i, j, hp1, hp2, rfl, h⟩
    have h2 := h.two
    have h3 := h.le
    refine ⟨i, j - i - 2, by omega, by omega, ?_⟩
    rw [show i + 2 + (j - i - 2) = j by omega]
    have hl := h.least
    refine ⟨(max_iff h3 (by omega)).2 (by rw [hl]; exact h), by rw [hl]⟩
  · rintro ⟨i, d, hi, hd, hm, rfl⟩
    have hM := (max_iff (l := l) (i := i) (j := i + 2 + d) (by omega) (by omega)).1 hm
    have hls := leastP_spec (l := subL l i (i + 2 + d)) (by rw [subL_len l _ _ (by omega)]; omega)
    have := hM.two
    exact ⟨_, i, i + 2 + d, hls.1, by omega, rfl, hM⟩

theorem runsL_pw (l : List UInt8) (p : Nat) : ∀ f a, (runsL l p f a).Pairwise (fun x y => x.1 < y.1) ∧ ∀ x ∈ runsL l p f a, a ≤ x.1 ∧ x.2.2 = p := by
  intro f
  induction f with
  | zero => exact fun a => ⟨List.Pairwise.nil, fun x hx => by simp [runsL] at hx⟩
  | succ f ih =>
    intro a
    by_cases hlt : a + 2 * p ≤ l.length
    · have h1 := (extTo_spec (l := l) (p := p) (a := a + p) (by omega)).1
      obtain ⟨t, ht⟩ : ∃ t, t = extTo l p (a + p) := ⟨_, rfl⟩
      rw [← ht] at h1
      obtain ⟨g1, g2⟩ := ih (t - p + 1)
      by_cases hr : runHere l p a t = true
      · rw [runsL_yes hlt ht.symm hr]
        refine ⟨List.pairwise_cons.2 ⟨fun y hy => ?_, g1⟩, fun x hx => ?_⟩
        · have := (g2 y hy).1; show a < y.1; omega
        · rcases List.mem_cons.1 hx with rfl | hx
          · exact ⟨Nat.le_refl _, rfl⟩
          · have := g2 x hx; exact ⟨by omega, this.2⟩
      · rw [runsL_no hlt ht.symm (by simpa using hr)]
        exact ⟨g1, fun x hx => by have := g2 x hx; exact ⟨by omega, this.2⟩⟩
    · rw [runsL_end l p _ a hlt]
      exact ⟨List.Pairwise.nil, fun x hx => by simp at hx⟩
theorem runsCat_nodup (l : List UInt8) (k : Nat) : (runsCat l k).Nodup ∧ ∀ x ∈ runsCat l k, x.2.2 ≤ k := by
  induction k with
  | zero => exact ⟨List.nodup_nil, fun x hx => by simp [runsCat] at hx⟩
  | succ k ih =>
    rw [runsCat]
    obtain ⟨g1, g2⟩ := runsL_pw l (k + 1) (l.length + 1) 0
    refine ⟨List.nodup_append.2 ⟨ih.1, ?_, ?_⟩, fun x hx => ?_⟩
    · exact List.Pairwise.imp (fun {x y} h e => by subst e; omega) g1
    · intro x hx y hy e
      have := ih.2 x hx
      have := (g2 y hy).2
      subst e; omega
    · rcases List.mem_append.1 hx with h | h
      · have := ih.2 x h; omega
      · have := (g2 x h).2; omega
theorem sorts_eq {l : List UInt8} {ys : List RunT} (h : Sorts (runsCat l (l.length / 2)) ys) : ys = rrAll l l.length := by
  obtain ⟨_, hp, hs⟩ := h
  have hn : ys.Nodup := hp.nodup_iff.2 (runsCat_nodup l _).1
  refine sorted_unique ?_ (rrAll_spec l l.length).1 (fun x => by rw [hp.mem_iff]; exact same_runs x)
  rw [List.pairwise_iff_getElem]
  intro i j hi hj hij
  have h1 := hs i j hij hj
  rw [List.getD_eq_getElem?_getD, List.getD_eq_getElem?_getD, List.getElem?_eq_getElem hj, List.getElem?_eq_getElem hi, ltR] at h1
  have h1' : ¬ (ys[j].1 < ys[i].1 ∨ (ys[j].1 = ys[i].1 ∧ ys[j].2.1 < ys[i].2.1)) := by simpa using h1
  have hne : ys[i] ≠ ys[j] := List.pairwise_iff_getElem.1 hn i j hi hj hij
  have m1 := (mem_runsCat _ _).1 (hp.mem_iff.1 (List.getElem_mem hi))
  have m2 := (mem_runsCat _ _).1 (hp.mem_iff.1 (List.getElem_mem hj))
  obtain ⟨p, a, b, _, _, e1, M1⟩ := m1
  obtain ⟨q, c, d, _, _, e2, M2⟩ := m2
  rw [e1, e2] at hne h1' ⊢
  unfold ltT
  by_cases e : a = c ∧ b = d
  · exfalso
    obtain ⟨rfl, rfl⟩ := e
    apply hne
    have := M1.least; have := M2.least
    simp; omega
  · simp at h1' ⊢; omega
end Go.Proofs.Ytbcoaiaocfommaa
