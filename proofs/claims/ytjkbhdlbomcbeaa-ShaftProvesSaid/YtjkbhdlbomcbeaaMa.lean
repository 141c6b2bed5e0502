import Derived.Test.YtjkbhdlbomcbeaaQ
namespace Go.Proofs.Ytjkbhdlbomcbeaa
open Go.RowKit Shf

/-- The shaft that a valid value holds. -/
def shOf (P : Int) (js : List J) (os : List (Int × Int)) : Sh := ⟨P, js, os.map fun o => (o.1.toNat, o.2.toNat)⟩
structure Valid (s : Sh) : Prop where
  loose : Loose s
  wide : ∀ i, i < s.n → (s.job i).f + (s.job i).l ≤ (s.job i).t
theorem valid_sh {P : Int} {js : List J} {os : List (Int × Int)} (h : validB P js os = true) : Valid (shOf P js os) ∧ osI (shOf P js os) = os := by
  unfold validB at h
  simp only [Bool.and_eq_true, List.all_eq_true, inB, decide_eq_true_eq] at h
  obtain ⟨h1, h2, ⟨h3, h4⟩, ⟨h5, h6⟩, h7⟩ := h
  have key : ∀ j : J, jobB j = true → (0 ≤ j.f ∧ j.f ≤ 24) ∧ (0 ≤ j.t ∧ j.t ≤ 24) ∧ (1 ≤ j.l ∧ j.l ≤ 24) ∧ j.f + j.l ≤ j.t ∧ 1 ≤ j.p ∧ j.p ≤ 20 := by
    rintro ⟨f, t, l, p⟩ h; exact jobB_iff.1 h
  have hj : ∀ i, i < js.length → jobB (js.getD i J0) = true := fun i hi => by
    rw [List.getD_eq_getElem?_getD, List.getElem?_eq_getElem hi]; exact h1 _ (List.getElem_mem hi)
  refine ⟨⟨⟨fun i hi => ?_, fun o ho => ?_, ⟨h3, h4⟩, ?_, ?_⟩, fun i hi => ?_⟩, ?_⟩
  · have := key _ (hj i hi)
    show 0 ≤ (js.getD i J0).f ∧ (js.getD i J0).f ≤ 24 ∧ 1 ≤ (js.getD i J0).l ∧ (js.getD i J0).l ≤ 24 ∧ (js.getD i J0).t ≤ 24 ∧ 0 ≤ (js.getD i J0).t ∧ 1 ≤ (js.getD i J0).p ∧ (js.getD i J0).p ≤ 20
    omega
  · obtain ⟨o', ho', rfl⟩ := List.mem_map.1 ho
    have := ordB_iff.1 (h2 o' ho')
    show o'.1.toNat < js.length ∧ o'.2.toNat < js.length ∧ o'.1.toNat ≠ o'.2.toNat
    omega
  · show 1 ≤ js.length ∧ js.length ≤ 6
    omega
  · show (os.map _).length ≤ 20
    rw [List.length_map]; exact h7
  · have := key _ (hj i hi)
    show (js.getD i J0).f + (js.getD i J0).l ≤ (js.getD i J0).t
    omega
  · show (os.map _).map _ = os
    rw [List.map_map]
    conv => rhs; rw [← List.map_id os]
    refine List.map_congr_left fun o ho => ?_
    have := ordB_iff.1 (h2 o ho)
    show ((o.1.toNat : Int), (o.2.toNat : Int)) = o
    refine Prod.ext ?_ ?_
    · show (o.1.toNat : Int) = o.1; omega
    · show (o.2.toNat : Int) = o.2; omega
theorem Valid.lat {s : Sh} (h : Valid s) {i : Nat} (hi : i < s.n) : (s.job i).f ≤ lat (s.job i) := by have := h.wide i hi; unfold Shf.lat; omega
end Go.Proofs.Ytjkbhdlbomcbeaa
