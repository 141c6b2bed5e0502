import Derived.Test.YtpcjigdmfchbdaaDoorZo
namespace Go.Proofs.YtpcjigdmfchbdaaDoor
open Go.RowKit Go.Shelf Cl
attribute [local irreducible] grd

theorem bl_nd (S : Nat) : (bl S).Nodup := List.nodup_range.filter _
theorem bl_le {n S : Nat} (hS : S < 2 ^ n) : (bl S).length ≤ n := by
  have := nodup_len (bl S) (List.range n) (bl_nd S) (fun x hx => List.mem_range.2 (near hS (List.mem_filter.1 hx).2))
  simpa using this
theorem bl_more {n S T : Nat} (hn : n ≤ 12) (hT : T < 2 ^ n) (h : Inn S T) (hne : S ≠ T) : (bl S).length < (bl T).length := by
  obtain ⟨j, h1, h2⟩ : ∃ j, T.testBit j = true ∧ S.testBit j = false := by
    apply Classical.byContradiction
    intro hno
    refine hne (sub_anti h fun j hj => ?_)
    cases e : S.testBit j with
    | true => rfl
    | false => exact absurd ⟨j, hj, e⟩ hno
  have hj : j < 12 := Nat.lt_of_lt_of_le (near hT h1) hn
  have := nodup_len (j :: bl S) (bl T) (List.nodup_cons.2 ⟨fun hm => absurd (List.mem_filter.1 hm).2 (by rw [h2]; decide), bl_nd S⟩) (fun x hx => by
    rcases List.mem_cons.1 hx with rfl | hx
    · exact List.mem_filter.2 ⟨List.mem_range.2 hj, h1⟩
    · have := List.mem_filter.1 hx
      exact List.mem_filter.2 ⟨this.1, h x this.2⟩)
  rw [List.length_cons] at this
  exact this
/-- Within n steps the sets stand still. -/
theorem stp_few {n : Nat} {L : Atts} (hn : n ≤ 12) {k : Nat} (h : ∀ j, j < k → stp n L j ≠ stp n L (j + 1)) : k ≤ n := by
  have key : ∀ j, j ≤ k → j ≤ (bl (stp n L j)).length := by
    intro j
    induction j with
    | zero => intro _; omega
    | succ j ih =>
      intro hj
      have := bl_more hn (stp_lt n L (j + 1)) (stp_sub (L := L) hn j) (h j (by omega))
      have := ih (by omega)
      omega
  exact Nat.le_trans (key k (Nat.le_refl _)) (bl_le (stp_lt n L k))
theorem inB_one {c S : Nat} (hc : c < 12) : inB [(c : Int)] (natI (bl S)) = S.testBit c := by
  unfold inB
  simp only [List.all_cons, List.all_nil, Bool.and_true]
  cases e : S.testBit c with
  | true =>
    rw [List.any_eq_true]
    exact ⟨Int.ofNat c, List.mem_map.2 ⟨c, List.mem_filter.2 ⟨List.mem_range.2 hc, e⟩, rfl⟩, beq_self_eq_true _⟩
  | false =>
    rw [List.any_eq_false]
    intro x hx
    obtain ⟨j, hj, rfl⟩ := List.mem_map.1 hx
    intro hq
    have hcj : (c : Int) = (j : Int) := beq_iff_eq.1 hq
    obtain rfl : c = j := by omega
    have h2 := (List.mem_filter.1 hj).2
    rw [e] at h2; cases h2
theorem steps_at {n : Nat} {L : Atts} (hn : n ≤ 12) {k c : Nat} (hv : vldB (n : Int) (toI L) = true) (hc : (stp n L (k + 1)).testBit c = true) {a r : Int} (h : StepsIs (n : Int) (toI L) (c : Int) a r) :
    r = 0 ∧ ∃ m : Nat, a = (m : Int) ∧ m ≤ k + 1 ∧ ((stp n L k).testBit c = true → m < k + 1) ∧ ((stp n L k).testBit c = false → m = k + 1) := by
  have hcn : c < n := near (stp_lt n L (k + 1)) hc
  have hg : (grd n L).testBit c = true := stp_com hn (grd_com hn) (k + 1) c hc
  unfold StepsIs at h
  rw [if_pos ⟨hv, by omega, by omega⟩, natP_toI, Int.toNat_natCast, Int.toNat_natCast, if_pos hg] at h
  obtain ⟨rfl, m, rfl, h1, h2⟩ := h
  have hle : m ≤ k + 1 := by
    apply Classical.byContradiction
    intro hno
    rw [h2 (k + 1) (by omega)] at hc; cases hc
  refine ⟨rfl, m, rfl, hle, fun e => ?_, fun e => ?_⟩
  · apply Classical.byContradiction
    intro hno
    rw [h2 k (by omega)] at e; cases e
  · apply Classical.byContradiction
    intro hno
    have := stp_mono (L := L) hn (show m ≤ k by omega) c h1
    rw [this] at e; cases e
end Go.Proofs.YtpcjigdmfchbdaaDoor
