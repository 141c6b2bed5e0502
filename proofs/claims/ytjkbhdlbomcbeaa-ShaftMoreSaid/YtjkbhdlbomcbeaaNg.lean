import Derived.Test.YtjkbhdlbomcbeaaNe
namespace Go.Proofs.Ytjkbhdlbomcbeaa
open Go.RowKit Go.Shelf Shf

/-! A shaft with more power, wider times or fewer orders. -/
structure Wider (s u : Sh) : Prop where
  n : u.n = s.n
  f : ∀ i, i < s.n → (u.job i).f ≤ (s.job i).f
  t : ∀ i, i < s.n → (s.job i).t ≤ (u.job i).t
  l : ∀ i, (u.job i).l = (s.job i).l
  p : ∀ i, (u.job i).p = (s.job i).p
  P : s.P ≤ u.P
  os : ∀ o ∈ u.os, o ∈ s.os
theorem Wider.sched {s t : Sh} (h : Wider s t) {S : Nat → Int} (hS : Sched s S) : Sched t S := by
  refine ⟨fun i hi => ?_, fun x h0 h1 => ?_, fun o ho => ?_⟩
  · rw [h.n] at hi
    have h1 := hS.range i hi
    have h2 := h.f i hi
    have h3 := h.t i hi
    have h4 := h.l i
    unfold lat at *
    omega
  · have h2 := hS.load x h0 h1
    have h3 := h.P
    have h4 : loadAt t S x = loadAt s S x := by
      unfold loadAt
      rw [h.n]
      exact sm_congr _ fun i _ => act_l (h.l i) (h.p i) _ _
    omega
  · rw [h.l]
    exact hS.order o (h.os o ho)
theorem Wider.end {s t : Sh} (h : Wider s t) (hs : Loose s) (ht : Loose t) {m k : Nat} (hm : LeastEnd s m) (hk : LeastEnd t k) : k ≤ m := by
  obtain ⟨S, hS⟩ := hm.2.1
  obtain ⟨h1, h2⟩ := ends_in hs hS
  refine Nat.not_lt.1 fun hlt => hk.2.2 m hlt ⟨S, (sched_ending ht.orders S).2 ⟨h.sched h1, fun i hi => ?_⟩⟩
  rw [h.l]
  rw [h.n] at hi
  exact h2 i hi
theorem set_getD {js : List J} {j : Nat} (hj : j < js.length) (x : J) (i : Nat) : (js.set j x).getD i J0 = if i = j then x else js.getD i J0 := by
  rw [List.getD_eq_getElem?_getD, List.getD_eq_getElem?_getD, List.getElem?_set]
  by_cases e : j = i
  · subst e; simp [hj]
  · rw [if_neg e, if_neg (fun h => e h.symm)]
theorem wider_of {P P' : Int} {js : List J} {os os' : List (Int × Int)} {j : Nat} (hj : j < js.length) {f t l p f' t' : Int} (hq : js.getD j J0 = ⟨f, t, l, p⟩) (hP : P ≤ P') (hf : f' ≤ f) (ht : t ≤ t') (ho : ∀ o ∈ os', o ∈ os) :
    Wider (shOf P js os) (shOf P' (js.set j ⟨f', t', l, p⟩) os') := by
  have key : ∀ i, (shOf P' (js.set j ⟨f', t', l, p⟩) os').job i = if i = j then ⟨f', t', l, p⟩ else (shOf P js os).job i := fun i => set_getD hj _ i
  have hq' : (shOf P js os).job j = ⟨f, t, l, p⟩ := hq
  refine ⟨List.length_set .., fun i _ => ?_, fun i _ => ?_, fun i => ?_, fun i => ?_, hP, fun o ho' => ?_⟩
  · rw [key]; split
    · rename_i e; subst e; rw [hq']; exact hf
    · exact Int.le_refl _
  · rw [key]; split
    · rename_i e; subst e; rw [hq']; exact ht
    · exact Int.le_refl _
  · rw [key]; split
    · rename_i e; subst e; rw [hq']
    · rfl
  · rw [key]; split
    · rename_i e; subst e; rw [hq']
    · rfl
  · obtain ⟨x, hx, rfl⟩ := List.mem_map.1 ho'
    exact List.mem_map.2 ⟨x, ho x hx, rfl⟩
theorem valid_wider {P P' : Int} {js : List J} {os os' : List (Int × Int)} {j : Nat} (h : validB P js os = true) {f t l p f' t' : Int} (hj : j < js.length) (hq : js.getD j J0 = ⟨f, t, l, p⟩) (hP : P ≤ P' ∧ P' ≤ 20) (hf : 0 ≤ f' ∧ f' ≤ f) (ht : t ≤ t' ∧ t' ≤ 24) (ho : ∀ o ∈ os', o ∈ os) (hl : os'.length ≤ os.length) :
    validB P' (js.set j ⟨f', t', l, p⟩) os' = true := by
  unfold validB at h ⊢
  simp only [Bool.and_eq_true, List.all_eq_true, inB, decide_eq_true_eq, List.length_set] at h ⊢
  obtain ⟨h1, h2, ⟨h3, h4⟩, ⟨h5, h6⟩, h7⟩ := h
  refine ⟨fun x hx => ?_, fun o ho' => h2 o (ho o ho'), ⟨by omega, hP.2⟩, ⟨h5, h6⟩, by omega⟩
  rcases List.mem_or_eq_of_mem_set hx with hx | rfl
  · exact h1 x hx
  · have := h1 (js.getD j J0) (by rw [List.getD_eq_getElem?_getD, List.getElem?_eq_getElem hj]; exact List.getElem_mem hj)
    rw [hq] at this
    have := jobB_iff.1 this
    exact jobB_iff.2 (by omega)
end Go.Proofs.Ytjkbhdlbomcbeaa
