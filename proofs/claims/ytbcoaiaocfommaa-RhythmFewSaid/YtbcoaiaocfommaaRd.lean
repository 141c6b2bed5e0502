import Derived.Test.YtbcoaiaocfommaaRc
import Derived.Test.YtbcoaiaocfommaaRb
import Derived.Test.YtbcoaiaocfommaaV
namespace Go.Proofs.Ytbcoaiaocfommaa
open Go.RowKit Go.Shelf Go.Sort

theorem flat_get (rs : List RunT) (t : Nat) (ht : t < rs.length * 3) : (rcells rs)[t]? = some ((encR rs.toArray[t / 3]!)[t % 3]!) := by
  have hj : t / 3 < rs.length := by omega
  obtain ⟨h0, h1, h2⟩ := rcells_get rs (t / 3) hj
  have e : rs.toArray[t / 3]! = rs.getD (t / 3) (0, 0, 0) := by
    rw [getElem!_pos _ _ (by simpa using hj), List.getD_eq_getElem?_getD, List.getElem?_eq_getElem hj]; simp
  rw [e]
  have h3 : t % 3 = 0 ∨ t % 3 = 1 ∨ t % 3 = 2 := by omega
  rcases h3 with h | h | h
  · rw [h, show t = t / 3 * 3 by omega, h0, show t / 3 * 3 / 3 = t / 3 by omega]; rfl
  · rw [h, show t = t / 3 * 3 + 1 by omega, h1, show (t / 3 * 3 + 1) / 3 = t / 3 by omega]; rfl
  · rw [h, show t = t / 3 * 3 + 2 by omega, h2, show (t / 3 * 3 + 2) / 3 = t / 3 by omega]; rfl
theorem flat_list (rs : List RunT) : (flatK encR 3 rs.toArray).toList = rcells rs := by
  apply List.ext_getElem?
  intro t
  unfold flatK
  rw [Array.toList_map, List.getElem?_map, Array.toList_range]
  by_cases ht : t < rs.length * 3
  · rw [flat_get rs t ht, List.getElem?_eq_getElem (by simpa using ht)]; simp
  · rw [List.getElem?_eq_none (by simp; omega), List.getElem?_eq_none (by rw [rcells_len]; omega)]; rfl
theorem flat_size (rs : List RunT) : (flatK encR 3 rs.toArray).size = rs.length * 3 := by unfold flatK; simp

theorem holds_runs {w : World} {B g cap : Nat} {rs : List RunT} (h : Runs3 w B (.slice (some ⟨g, 0, none⟩) rs.length cap) rs) : B ≤ g ∧ g < w.heap.size ∧ HoldsK encR 3 w g 0 rs.toArray := by
  rcases h.2 with ⟨e0, _⟩ | ⟨g', cap', cur, e0, hb, hg, hn, hm, hs, ht⟩
  · cases e0
  · injection e0 with e1 _ e3
    injection e1 with e1
    injection e1 with e1
    subst e1; subst e3
    have hlt : g < w.heap.size := (Array.getElem?_eq_some_iff.1 hg).1
    refine ⟨hb, hlt, fun j hj => ?_⟩
    rw [flat_size] at hj
    refine ⟨?_, by simp [World.frozen?, hg]⟩
    have e1 : (cur.toList.take (rs.length * 3))[j]? = (rcells rs)[j]? := by rw [ht]
    rw [List.getElem?_take, if_pos hj, Array.getElem?_toList, flat_get rs j hj] at e1
    have e2 : (flatK encR 3 rs.toArray)[j]! = (encR rs.toArray[j / 3]!)[j % 3]! := by
      rw [getElem!_pos _ _ (by rw [flat_size]; exact hj)]
      unfold flatK; simp
    simp only [World.cell?, hg, Nat.zero_add]
    simp only [Option.isSome_none, Bool.false_eq_true, if_false]
    rw [e1, e2]; rfl

theorem runs_put {w : World} {B g cap q : Nat} {rs ys : List RunT} (h : Runs3 w B (.slice (some ⟨g, 0, none⟩) rs.length cap) rs) (hy : ys.length = rs.length) :
    Runs3 (putRowK encR 3 (Sort.ahead w q) g 0 ys.toArray) B (.slice (some ⟨g, 0, none⟩) ys.length cap) ys := by
  rcases h.2 with ⟨e0, _⟩ | ⟨g', cap', cur, e0, hb, hg, hn, hm, hs, ht⟩
  · cases e0
  · injection e0 with e1 _ e3
    injection e1 with e1
    injection e1 with e1
    subst e1; subst e3
    refine ⟨rcells_len ys, .inr ⟨g, cap, putCells id 0 (flatK encR 3 ys.toArray) cur, rfl, hb, ?_, by omega, hm, by simpa [putCells] using hs, ?_⟩⟩
    · simp [putRowK, putRow, mapBlock, Sort.ahead, Array.getElem?_modify, hg, onCells]
    · rw [← flat_list ys]
      apply List.ext_getElem?
      intro j
      rw [List.getElem?_take, Array.getElem?_toList, Array.getElem?_toList]
      by_cases hj : j < ys.length * 3
      · have hjc : j < cur.size := by rw [hs]; have := Nat.mul_le_mul_right 3 hn; omega
        simp only [if_pos hj, putCells, Array.getElem?_mapIdx, Array.getElem?_eq_getElem hjc, Option.map_some]
        have hfs := flat_size ys
        rw [if_pos (by rw [hfs]; omega), Array.getElem?_eq_getElem (by rw [hfs]; exact hj)]
        simp [getElem!_pos, hfs, hj]
      · rw [if_neg hj, Array.getElem?_eq_none (by rw [flat_size]; omega)]
theorem below_putK {B : Nat} {w0 w : World} {g q : Nat} {d : Array RunT} (h : Below B w0 w) (hg : B ≤ g) (hgl : g < w.heap.size) (os : Array Obj) : Below B w0 (grow (putRowK encR 3 (Sort.ahead w q) g 0 d) os) := by
  have hb := Lib.below_putRow (enc := id) (q := q) (d := flatK encR 3 d) h hg
  refine ⟨hb.os, hb.tape, hb.output, Nat.le_trans hb.size (by simp [Sort.grow, putRowK]), fun k hk => ?_⟩
  rw [← hb.block k hk]
  refine heap_grow_old _ _ ?_
  have := hb.size
  have h2 := hb.block k hk
  have := h.size
  simp [putRowK, putRow, mapBlock, Sort.ahead] at *
  omega

/-- What the sort leaves: the same runs, none of them greater than a later one. -/
def Sorts (rs ys : List RunT) : Prop := ys.length = rs.length ∧ ys.Perm rs ∧ ∀ i j, i < j → j < ys.length → ltOf cfR (ys.getD j (0, 0, 0)) (ys.getD i (0, 0, 0)) = false
theorem sorts_of {rs : List RunT} {d' : Array RunT} (h1 : PermIn 0 rs.length rs.toArray d') (h2 : SortedIn (ltOf cfR) 0 rs.length d') : Sorts rs d'.toList := by
  obtain ⟨hs, _, hp⟩ := h1
  have hsz : d'.size = rs.length := by simpa using hs
  refine ⟨by simpa using hsz, ?_, ?_⟩
  · have e1 : (d'.extract 0 rs.length).toList = d'.toList := by rw [← hsz]; simp
    have e2 : (rs.toArray.extract 0 rs.length).toList = rs := by simp
    rw [e1, e2] at hp
    exact hp
  · intro i j hij hj
    have hj' : j < d'.size := by simpa using hj
    have := h2 i j (Nat.zero_le _) hij (by omega)
    rw [getElem!_pos d' j hj', getElem!_pos d' i (show i < d'.size by omega)] at this
    rw [List.getD_eq_getElem?_getD, List.getD_eq_getElem?_getD, List.getElem?_eq_getElem (by simpa using hj'), List.getElem?_eq_getElem (by simp; omega)]
    simpa using this
end Go.Proofs.Ytbcoaiaocfommaa
