import Derived.Test.YtpcjigdmfchbdaaDoorFr
import Derived.Test.YtpcjigdmfchbdaaDoorYq
namespace Go.Proofs.YtpcjigdmfchbdaaDoor
open Go.ChangeShapes Go.WideShapes Go.ChangeAt Go.RowKit Go.Shelf
section
variable {H : Type} {enc : TypeId × Value → H} {W : World} {base : Nat} {held : Bool}
set_option maxRecDepth 100000 in
theorem pair_open {n : Nat} {cs : List Value} {y : DataW H × List MemPlace} (h : DataW.trod enc Tryd.prog W base (fun _ => true) held n 58 cs = some y) (hl : cs.length = 2) : ∃ o : Int × Int, cs = encP o := by
  obtain ⟨y0, y1, m, _, _, h0, h1⟩ := trod_struct2 Tryd.underlying58 h
  match cs, hl with
  | [a, b], _ =>
    have e3 : Tryd.prog.cellsOf 3 = 1 := by kernel_rfl
    simp [e3] at h0 h1
    obtain ⟨f, rfl⟩ := int_cell h0
    obtain ⟨t, rfl⟩ := int_cell h1
    exact ⟨(f, t), rfl⟩
set_option maxRecDepth 100000 in
theorem pairs_open {r : Reach} {b0 : Nat} {v : Value} {d : DataW H} {p : List MemPlace} (hv : Value.okWide Tryd.prog W r b0 22 v) (h : DataW.Trod enc Tryd.prog W base (fun _ => true) held 22 v d p) : ∃ ps, InPs W v ps := by
  obtain ⟨a, len, cap, rfl⟩ := okWide_slice Tryd.underlying22 hv
  obtain ⟨fuel, hf⟩ := h
  obtain ⟨os, ho, hom⟩ := flat_open (encA := encP) ⟨(0, 0)⟩ encP_len (by decide) Tryd.underlying22 (by kernel_rfl) (fun _ _ _ h hl => pair_open h hl) (by simpa [Value.cells] using hf)
  exact ⟨os, ho, hom⟩
theorem int1_open {n : Nat} {cs : List Value} {y : DataW H × List MemPlace} (h : DataW.trod enc Tryd.prog W base (fun _ => true) held n 3 cs = some y) (hl : cs.length = 1) : ∃ k : Int, cs = [.int .i64 k] := by
  match cs, hl with
  | [a], _ => obtain ⟨k, rfl⟩ := int_cell h; exact ⟨k, rfl⟩
def enc1 (k : Int) : List Value := [.int .i64 k]
theorem enc1_flat (xs : List Int) : flat enc1 xs = xs.map (Value.int .i64) := by
  induction xs with
  | nil => rfl
  | cons x xs ih => simp only [flat, List.flatMap_cons, List.map_cons] at ih ⊢; rw [ih]; rfl
set_option maxRecDepth 100000 in
theorem ints_open {r : Reach} {b0 : Nat} {v : Value} {d : DataW H} {p : List MemPlace} (hv : Value.okWide Tryd.prog W r b0 24 v) (h : DataW.Trod enc Tryd.prog W base (fun _ => true) held 24 v d p) : ∃ xs, InRow W v xs := by
  obtain ⟨a, len, cap, rfl⟩ := okWide_slice Tryd.underlying24 hv
  obtain ⟨fuel, hf⟩ := h
  obtain ⟨xs, hx, hxm⟩ := flat_open (encA := enc1) ⟨0⟩ (fun _ => rfl) (by decide) Tryd.underlying24 (by kernel_rfl) (fun _ _ _ h hl => int1_open h hl) (by simpa [Value.cells] using hf)
  rw [enc1_flat] at hx
  obtain ⟨h1, ao, c, e, h2, h3, h4⟩ := hx
  refine ⟨xs, ⟨ao, c, e, h2, fun hne => ?_⟩, hxm, ao, c, e, h3⟩
  obtain ⟨g, o, rfl, hg, hc⟩ := h4 (by have := List.length_pos_iff.2 hne; omega)
  refine ⟨g, o, rfl, hg, fun j hj => hc j _ ?_⟩
  simp [hj, List.getD_eq_getElem?_getD]
end
end Go.Proofs.YtpcjigdmfchbdaaDoor
