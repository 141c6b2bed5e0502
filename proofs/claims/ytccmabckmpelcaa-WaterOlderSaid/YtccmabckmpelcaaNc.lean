import Derived.Test.YtccmabckmpelcaaNb
import Derived.Test.YtccmabckmpelcaaKa
namespace Go.Proofs.Ytccmabckmpelcaa
open Go.RowKit

/-- A row of ints that reads so, in a block below `B` that is not `g`. -/
def ReadsN (B g : Nat) (w : World) (v : Value) (xs : List Int) : Prop :=
  ∃ b c, v = .slice (some ⟨b, 0, none⟩) xs.length c ∧ xs.length ≤ c ∧ b < B ∧ b ≠ g ∧ b < w.heap.size ∧ ∀ j, j < xs.length → w.cell? ⟨b, j, none⟩ = some (.int .i64 (xs.getD j 0))
theorem ReadsN.below {B g : Nat} {w w' : World} {v : Value} {xs : List Int} (h : ReadsN B g w v xs) (hb : Below B w w') : ReadsN B g w' v xs := by
  obtain ⟨b, c, e, h1, h2, h3, h4, h5⟩ := h
  exact ⟨b, c, e, h1, h2, h3, Nat.lt_of_lt_of_le h4 hb.size, fun j hj => (hb.cell (p := ⟨b, j, none⟩) h2).trans (h5 j hj)⟩
theorem ReadsN.set {B g i : Nat} {w : World} {v u : Value} {xs : List Int} (h : ReadsN B g w v xs) : ReadsN B g (w.setCell ⟨g, i, none⟩ u) v xs := by
  obtain ⟨b, c, e, h1, h2, h3, h4, h5⟩ := h
  exact ⟨b, c, e, h1, h2, h3, Nat.lt_of_lt_of_le h4 (by simp), fun j hj => by rw [World.cell?_setCell_other _ _ _ _ (by intro e; simp only [Addr.mk.injEq] at e; omega)]; exact h5 j hj⟩
theorem ReadsN.base {B B' g : Nat} {w : World} {v : Value} {xs : List Int} (h : ReadsN B g w v xs) (hB : B ≤ B') : ReadsN B' g w v xs := by
  obtain ⟨b, c, e, h1, h2, h3, h4, h5⟩ := h
  exact ⟨b, c, e, h1, by omega, h3, h4, h5⟩
theorem ReadsN.reads {B g : Nat} {w : World} {v : Value} {xs : List Int} (h : ReadsN B g w v xs) : Reads w v xs := by
  obtain ⟨b, c, e, h1, h2, h3, h4, h5⟩ := h
  exact ⟨_, c, e, h1, fun _ => ⟨b, 0, rfl, h4, fun j hj => by rw [show 0 + j = j by omega]; exact h5 j hj⟩⟩
theorem Ints.readsN {B g : Nat} {w : World} {v : Value} {xs : List Int} (h : Ints w B v xs) (hg : g < B) (hne : xs ≠ []) : ReadsN w.heap.size g w v xs := by
  have hh := h
  rcases h.2 with ⟨rfl, h0⟩ | ⟨b, cap, cur, rfl, hB, hg', hn, _⟩
  · exact absurd (List.length_eq_zero_iff.1 h0) hne
  · have hlt := (Array.getElem?_eq_some_iff.1 hg').1
    refine ⟨b, cap, rfl, hn, hlt, by omega, hlt, fun j hj => ?_⟩
    rw [hh.cellAt j (by omega)]
    simp [List.getD_eq_getElem?_getD, hj]
theorem take_snocN (xs : List Int) (k : Nat) (h : k < xs.length) : xs.take (k + 1) = xs.take k ++ [xs.getD k 0] := by
  rw [List.take_succ_eq_append_getElem h]; simp [List.getD_eq_getElem?_getD, h]
theorem sum_take_bd {fs : List Int} (hf : FlowOk fs) : ∀ k, k ≤ fs.length → 0 ≤ (fs.take k).sum ∧ (fs.take k).sum ≤ 31 * (k : Int) := by
  intro k
  induction k with
  | zero => intro _; simp
  | succ k ih =>
    intro hk
    have h1 := ih (by omega)
    have h2 := hf.2 k (by omega)
    rw [take_snocN _ _ (by omega), List.sum_append]
    simp only [List.sum_cons, List.sum_nil]
    omega
/-- The table for the places from `i` on. -/
def tblL (T : Nat) (fs : List Int) (gs : List (List Int)) (i : Nat) : List Int := tbl T (fs.drop i) (gs.drop i)
theorem tblL_next {T : Nat} {fs : List Int} {gs : List (List Int)} {i : Nat} (hi : i < fs.length) (hg : i < gs.length) (w : Nat) (hw : w ≤ T) : (tblL T fs gs i).getD w 0 = mostF (tblL T fs gs (i + 1)) T (gs.getD i []) (fs.getD i 0) (w : Int) := by
  unfold tblL
  rw [drop_cons _ _ hi, drop_consG _ _ hg, tbl_at _ _ _ _ _ _ hw]
theorem tblL_end {T : Nat} {fs : List Int} {gs : List (List Int)} {n : Nat} (hn : n = fs.length) : tblL T fs gs n = List.replicate (T + 1) 0 := by
  unfold tblL; rw [drop_end _ _ (by omega), tbl_nil]
theorem tblL_bd {T : Nat} {fs : List Int} {gs : List (List Int)} (hok : GOk gs) (i j : Nat) : 0 ≤ (tblL T fs gs i).getD j 0 ∧ (tblL T fs gs i).getD j 0 ≤ 1000000 := by
  have h := tbl_bd T (fs.drop i) (gs.drop i) (fun j hj => by
    rw [List.length_drop] at hj
    have := hok.2 (i + j) (by omega)
    rw [List.getD_eq_getElem?_getD, List.getElem?_drop]
    rwa [List.getD_eq_getElem?_getD] at this) j
  have := hok.1
  rw [List.length_drop] at h
  unfold tblL
  omega
theorem take_ext {xs ys : List Int} {k : Nat} {y : Int} (h : xs = ys.take k) (hk : k < ys.length) (hy : y = ys.getD k 0) : xs ++ [y] = ys.take (k + 1) := by rw [take_snocN _ _ hk, h, hy]
end Go.Proofs.Ytccmabckmpelcaa
