import Derived.Test.YtccmabckmpelcaaDa
namespace Go.Proofs.Ytccmabckmpelcaa
open Go.RowKit

/-! ## As many different numbers -/
theorem nodup_sub : ∀ (l m : List Int), l.Nodup → (∀ x, x ∈ l → x ∈ m) → l.length ≤ m.length := by
  intro l
  induction l with
  | nil => intro m _ _; simp
  | cons x l ih =>
    intro m hn hs
    have hx : x ∈ m := hs x (by simp)
    rw [List.nodup_cons] at hn
    have := ih (m.erase x) hn.2 (fun y hy => by
      have hne : y ≠ x := fun e => hn.1 (e ▸ hy)
      exact (List.mem_erase_of_ne hne).2 (hs y (by simp [hy])))
    rw [List.length_erase_of_mem hx] at this
    have hpos : 0 < m.length := List.length_pos_of_mem hx
    rw [List.length_cons]
    omega
def upTo (n : Nat) : List Int := (List.range n).map fun (i : Nat) => (i : Int)
theorem upTo_len (n : Nat) : (upTo n).length = n := by simp [upTo]
theorem upTo_mem (n : Nat) (x : Int) : x ∈ upTo n ↔ 0 ≤ x ∧ x < n := by
  unfold upTo
  rw [List.mem_map]
  constructor
  · rintro ⟨i, hi, rfl⟩; rw [List.mem_range] at hi; omega
  · rintro ⟨h1, h2⟩; exact ⟨x.toNat, by rw [List.mem_range]; omega, by omega⟩
theorem upTo_nodup (n : Nat) : (upTo n).Nodup := by
  unfold upTo
  induction n with
  | zero => simp
  | succ n ih =>
    rw [List.range_succ, List.map_append, List.nodup_append]
    refine ⟨ih, by simp, fun a ha b hb => ?_⟩
    rw [List.mem_map] at ha
    obtain ⟨i, hi, rfl⟩ := ha
    rw [List.mem_range] at hi
    simp at hb
    omega
theorem hasB_iff (ag : List Int) (n : Nat) : hasB ag n = true ↔ ∀ x : Int, 0 ≤ x → x < n → x ∈ ag := by
  unfold hasB
  rw [List.all_eq_true]
  constructor
  · intro h x h0 h1
    have := h x.toNat (by rw [List.mem_range]; omega)
    rw [show ((x.toNat : Nat) : Int) = x by omega] at this
    rcases idx_cases x ag with ⟨e, _⟩ | ⟨j, j1, _, j3, _⟩
    · rw [e] at this; simp at this
    · rw [List.getD_eq_getElem?_getD, List.getElem?_eq_getElem j1] at j3
      simp at j3
      rw [← j3]; exact List.getElem_mem _
  · intro h a ha
    rw [List.mem_range] at ha
    have hm := h ((a : Nat) : Int) (by omega) (by omega)
    rcases idx_cases (a : Nat) ag with ⟨_, e⟩ | ⟨j, _, j2, _⟩
    · obtain ⟨j, hj, e2⟩ := List.mem_iff_getElem.1 hm
      exact absurd (by rw [List.getD_eq_getElem?_getD, List.getElem?_eq_getElem hj]; simpa using e2) (e j hj)
    · simp; omega

theorem ages_of {ag : List Int} {n : Nat} (hl : ag.length = n) (hr : ∀ j, j < n → 0 ≤ ag.getD j 0 ∧ ag.getD j 0 < n) (hn : ag.Nodup) : agesB ag n = true := by
  unfold agesB
  simp only [Bool.and_eq_true, decide_eq_true_eq]
  refine ⟨hl, (hasB_iff ag n).2 fun (x : Int) h0 h1 => ?_⟩
  cases e : decide (x ∈ ag) with
  | true => simpa using e
  | false =>
    exfalso
    have hx : x ∉ ag := by simpa using e
    have := nodup_sub (x :: ag) (upTo n) (by rw [List.nodup_cons]; exact ⟨hx, hn⟩) (fun y hy => by
      rw [upTo_mem]
      rcases List.mem_cons.1 hy with rfl | hy
      · exact ⟨h0, h1⟩
      · obtain ⟨j, hj, e2⟩ := List.mem_iff_getElem.1 hy
        have := hr j (by omega)
        rw [List.getD_eq_getElem?_getD, List.getElem?_eq_getElem hj] at this
        simp at this
        rw [← e2]; exact this)
    rw [List.length_cons, upTo_len] at this
    omega
theorem ages_not {ag : List Int} {n k : Nat} (hl : ag.length = n) (hk : k < n) (h : (ag.getD k 0 < 0 ∨ (n : Int) ≤ ag.getD k 0) ∨ ag.getD k 0 ∈ ag.take k) : agesB ag n = false := by
  cases e : agesB ag n with
  | false => rfl
  | true =>
    exfalso
    unfold agesB at e
    simp only [Bool.and_eq_true, decide_eq_true_eq] at e
    have hall := (hasB_iff ag n).1 e.2
    have hsub : ∀ x, x ∈ upTo n → x ∈ ag.eraseIdx k := by
      intro x hx
      rw [upTo_mem] at hx
      obtain ⟨j, hj, e2⟩ := List.mem_iff_getElem.1 (hall x hx.1 hx.2)
      by_cases ej : j = k
      · subst ej
        have hg : ag.getD j 0 = x := by rw [List.getD_eq_getElem?_getD, List.getElem?_eq_getElem hj]; simpa using e2
        rw [hg] at h
        rcases h with h | h
        · omega
        · obtain ⟨i, hi, e3⟩ := List.mem_iff_getElem.1 h
          rw [List.length_take] at hi
          rw [List.getElem_take] at e3
          rw [List.mem_eraseIdx_iff_getElem]
          exact ⟨i, by omega, by omega, e3⟩
      · rw [List.mem_eraseIdx_iff_getElem]
        exact ⟨j, by omega, ej, e2⟩
    have := nodup_sub (upTo n) (ag.eraseIdx k) (upTo_nodup n) hsub
    rw [upTo_len, List.length_eraseIdx] at this
    split at this <;> omega
end Go.Proofs.Ytccmabckmpelcaa
