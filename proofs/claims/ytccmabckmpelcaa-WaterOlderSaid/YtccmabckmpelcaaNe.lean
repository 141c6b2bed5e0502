import Derived.Test.YtccmabckmpelcaaNc
namespace Go.Proofs.Ytccmabckmpelcaa
open Go.RowKit

theorem sum_nonneg : ∀ (l : List Int), (∀ j, j < l.length → 0 ≤ l.getD j 0) → 0 ≤ l.sum := by
  intro l
  induction l with
  | nil => intro _; simp
  | cons a l ih =>
    intro h
    have h1 := h 0 (by simp)
    have h2 := ih (fun j hj => by simpa using h (j + 1) (by simpa using hj))
    simp only [List.getD_cons_zero] at h1
    rw [List.sum_cons]; omega
theorem drop_get (l : List Int) (i j : Nat) : (l.drop i).getD j 0 = l.getD (i + j) 0 := by
  rw [List.getD_eq_getElem?_getD, List.getElem?_drop, List.getD_eq_getElem?_getD]
/-- The search for the pieces of a place. -/
theorem use_facts {T : Nat} {fs : List Int} {gs : List (List Int)} {k : Nat} (hk : k = fs.length) (hkg : k = gs.length) (hf : FlowOk fs) {i left : Nat} (hi : i < k) (hs : (left : Int) + (fs.drop i).sum ≤ T) :
    ∃ X : Nat, X ≤ (gs.getD i []).length ∧ (X : Int) ≤ left + fs.getD i 0 ∧ U (fs.drop i) (gs.drop i) left = (X : Int) :: U (fs.drop (i + 1)) (gs.drop (i + 1)) (left + fs.getD i 0 - X) ∧ (left : Int) + fs.getD i 0 ≤ T ∧
      ((left : Int) + fs.getD i 0 - X) + (fs.drop (i + 1)).sum ≤ T ∧ ∀ x : Nat, x ≤ X → ((gainTo (gs.getD i []) x + (tblL T fs gs (i + 1)).getD ((left : Int) + fs.getD i 0 - x).toNat 0) == (tblL T fs gs i).getD left 0) = decide (x = X) := by
  have hfn : ∀ j, j < fs.length → 0 ≤ fs.getD j 0 := fun j hj => (hf.2 j hj).1
  have hd : fs.drop i = fs.getD i 0 :: fs.drop (i + 1) := drop_cons _ _ (by omega)
  have hdg : gs.drop i = gs.getD i [] :: gs.drop (i + 1) := drop_consG _ _ (by omega)
  have hsn : 0 ≤ (fs.drop (i + 1)).sum := sum_nonneg _ (fun j hj => by rw [drop_get]; rw [List.length_drop] at hj; exact hfn _ (by omega))
  have hf0 := hfn i (by omega)
  have hvt : (tblL T fs gs i).getD left 0 = V (fs.drop i) (gs.drop i) left := tbl_V T _ _ left (by rw [List.length_drop, List.length_drop]; omega) (fun j hj => by rw [drop_get]; rw [List.length_drop] at hj; exact hfn _ (by omega)) hs
  rw [hd, List.sum_cons] at hs
  obtain ⟨F, hF⟩ : ∃ F, F = fs.getD i 0 := ⟨_, rfl⟩
  obtain ⟨l, hl⟩ : ∃ l, l = gs.getD i [] := ⟨_, rfl⟩
  rw [← hF] at hs hf0 hd ⊢
  rw [← hl] at hdg ⊢
  rw [hd, hdg] at hvt
  obtain ⟨q, hq1, hq2⟩ := mx_at (term F (fs.drop (i + 1)) l (gs.drop (i + 1)) left) (min l.length ((left : Int) + F).toNat)
  have hfs := first_spec (fun x => term F (fs.drop (i + 1)) l (gs.drop (i + 1)) left x == V (F :: fs.drop (i + 1)) (l :: gs.drop (i + 1)) left) (min l.length ((left : Int) + F).toNat) 0 ⟨q, by omega, by omega, by rw [V_cons, hq2]; simp⟩
  obtain ⟨X, hX⟩ : ∃ X, X = first (fun x => term F (fs.drop (i + 1)) l (gs.drop (i + 1)) left x == V (F :: fs.drop (i + 1)) (l :: gs.drop (i + 1)) left) 0 (min l.length ((left : Int) + F).toNat) := ⟨_, rfl⟩
  rw [← hX] at hfs
  obtain ⟨_, x1, x2, x3⟩ := hfs
  refine ⟨X, by omega, by omega, by rw [hd, hdg, hX]; rfl, by omega, by omega, fun x hx => ?_⟩
  have hvn : (tblL T fs gs (i + 1)).getD ((left : Int) + F - x).toNat 0 = V (fs.drop (i + 1)) (gs.drop (i + 1)) ((left : Int) + F - x) := by
    have e : (((left : Int) + F - x).toNat : Int) = (left : Int) + F - x := by omega
    have := tbl_V T (fs.drop (i + 1)) (gs.drop (i + 1)) ((left : Int) + F - x).toNat (by rw [List.length_drop, List.length_drop]; omega) (fun j hj => by rw [drop_get]; rw [List.length_drop] at hj; exact hfn _ (by omega)) (by omega)
    rw [e] at this
    exact this
  rw [hvt, hvn]
  show (term F (fs.drop (i + 1)) l (gs.drop (i + 1)) left x == _) = _
  by_cases e : x = X
  · subst e; rw [x2]; simp
  · rw [x3 x (by omega) (by omega)]; simp [e]
end Go.Proofs.Ytccmabckmpelcaa
