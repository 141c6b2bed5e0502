import Derived.Test.YtjkbhdlbomcbeaaV13
import Derived.Test.YtjkbhdlbomcbeaaV14
namespace Go.Proofs.Ytjkbhdlbomcbeaa
open Go.RowKit Go.ChangeShapes Go.WideShapes Go.ChangeAt Shf
variable {H : Type} {enc : TypeId × Value → H} {W : World} {base : Nat} {held : Bool}
theorem flat_sub {α β : Type} (f : α → β) (enc : β → List Value) (xs : List α) : flat enc (xs.map f) = flat (fun a => enc (f a)) xs := by simp [flat, List.flatMap_map]
theorem InU8.below {w w' : World} {v : Value} {xs : List Nat} (h : InU8 w v xs) (hb : Below w.heap.size w w') : InU8 w' v xs := by
  obtain ⟨⟨ao, c, rfl, hc, hm, h⟩, hb'⟩ := h
  refine ⟨⟨ao, c, rfl, hc, hm, fun hne => ?_⟩, hb'⟩
  obtain ⟨g, o, rfl, hg, hc⟩ := h hne
  exact ⟨g, o, rfl, Nat.lt_of_lt_of_le hg hb.size, fun j hj => (hb.cell (p := ⟨g, o + j, none⟩) hg).trans (hc j hj)⟩
theorem InWork.below {w w' : World} {v : Value} {p : Nat} {xs : List (Nat × Nat × Nat × Nat)} {bs : List (Nat × Nat)} (h : InWork w v p xs bs) (hb : Below w.heap.size w w') : InWork w' v p xs bs := by
  obtain ⟨av, bv, e, hp, h1, h2, h3⟩ := h
  exact ⟨av, bv, e, hp, h1.below hb, h2.below hb, h3⟩
theorem InTri.below {w w' : World} {v : Value} {xs : List (Nat × Nat × Nat)} (h : InTri w v xs) (hb : Below w.heap.size w w') : InTri w' v xs := ⟨h.1.below hb, h.2⟩
theorem byte_cell {n : Nat} {v : Value} {y : DataW H × List MemPlace} (h : DataW.trod enc Try.prog W base (fun _ => true) held n 5 [v] = some y) : ∃ k : Nat, v = .int .u8 (k : Int) ∧ k < 256 := by
  obtain ⟨n', h, _, hw⟩ := DataW.trod_int Try.underlying5 h
  simp only [List.cons.injEq, and_true] at h
  subst h
  have := bounds_u8 hw
  obtain ⟨x, rfl⟩ : ∃ x : Nat, n' = (x : Int) := ⟨n'.toNat, by omega⟩
  exact ⟨x, rfl, by omega⟩
set_option maxRecDepth 100000 in
theorem b4_open {n : Nat} {cs : List Value} {y : DataW H × List MemPlace} (h : DataW.trod enc Try.prog W base (fun _ => true) held n 108 cs = some y) (hl : cs.length = 4) : ∃ a : B4, cs = enc4 a.1 := by
  match cs, hl with
  | [a, b, c, d], _ =>
    obtain ⟨_, _, _, _, m, _, h0, h1, h2, h3⟩ := trod_array4 Try.underlying108 (by kernel_rfl) h
    obtain ⟨x0, rfl, g0⟩ := byte_cell h0
    obtain ⟨x1, rfl, g1⟩ := byte_cell h1
    obtain ⟨x2, rfl, g2⟩ := byte_cell h2
    obtain ⟨x3, rfl, g3⟩ := byte_cell h3
    exact ⟨⟨(x0, x1, x2, x3), g0, g1, g2, g3⟩, rfl⟩
set_option maxRecDepth 100000 in
theorem b3_open {n : Nat} {cs : List Value} {y : DataW H × List MemPlace} (h : DataW.trod enc Try.prog W base (fun _ => true) held n 70 cs = some y) (hl : cs.length = 3) : ∃ a : B3, cs = enc3 a.1 := by
  match cs, hl with
  | [a, b, c], _ =>
    obtain ⟨_, _, _, m, _, h0, h1, h2⟩ := trod_array3 Try.underlying70 (by kernel_rfl) h
    obtain ⟨x0, rfl, g0⟩ := byte_cell h0
    obtain ⟨x1, rfl, g1⟩ := byte_cell h1
    obtain ⟨x2, rfl, g2⟩ := byte_cell h2
    exact ⟨⟨(x0, x1, x2), g0, g1, g2⟩, rfl⟩
set_option maxRecDepth 100000 in
theorem b2_open {n : Nat} {cs : List Value} {y : DataW H × List MemPlace} (h : DataW.trod enc Try.prog W base (fun _ => true) held n 76 cs = some y) (hl : cs.length = 2) : ∃ a : B2, cs = enc2 a.1 := by
  match cs, hl with
  | [a, b], _ =>
    obtain ⟨xs, m, _, _, _, hl, hi⟩ := DataW.trod_array Try.underlying76 h
    have hc : Try.prog.cellsOf 5 = 1 := by kernel_rfl
    have h0 := hi 0 (by omega)
    have h1 := hi 1 (by omega)
    rw [hc] at h0 h1
    match xs, hl with
    | [y0, y1], _ =>
      simp at h0 h1
      obtain ⟨x0, rfl, g0⟩ := byte_cell h0
      obtain ⟨x1, rfl, g1⟩ := byte_cell h1
      exact ⟨⟨(x0, x1), g0, g1⟩, rfl⟩
set_option maxRecDepth 100000 in
theorem work_open {r : Reach} {b0 : Nat} {v : Value} {d : DataW H} {p : List MemPlace} (hv : Value.okWide Try.prog W r b0 64 v) (h : DataW.Trod enc Try.prog W base (fun _ => true) held 64 v d p) : ∃ P xs bs, InWork W v P xs bs := by
  obtain ⟨v0, v1, v2, y0, y1, y2, n, rfl, _, _, h0, h1, h2⟩ := Joins.open_agg3 Try.underlying64 (by kernel_rfl) (by kernel_rfl) hv h
  obtain ⟨P, rfl, hP⟩ := byte_cell h0
  obtain ⟨js, hj, hjm⟩ := flat_open (encA := fun a : B4 => enc4 a.1) ⟨⟨(0, 0, 0, 0), by decide⟩⟩ (fun _ => rfl) (by decide) Try.underlying61 (by kernel_rfl) (fun _ _ _ h hl => b4_open h hl) h1
  obtain ⟨os, ho, hom⟩ := flat_open (encA := fun a : B2 => enc2 a.1) ⟨⟨(0, 0), by decide⟩⟩ (fun _ => rfl) (by decide) Try.underlying62 (by kernel_rfl) (fun _ _ _ h hl => b2_open h hl) h2
  refine ⟨P, js.map Subtype.val, os.map Subtype.val, v1, v2, rfl, hP, ?_, ?_, by rw [List.length_map]; exact hjm, by rw [List.length_map]; exact hom, fun x hx => ?_, fun x hx => ?_⟩
  · rw [List.length_map, flat_sub]; exact hj
  · rw [List.length_map, flat_sub]; exact ho
  · obtain ⟨a, _, rfl⟩ := List.mem_map.1 hx; exact a.2
  · obtain ⟨a, _, rfl⟩ := List.mem_map.1 hx; exact a.2
set_option maxRecDepth 100000 in
theorem tri_open {r : Reach} {b0 : Nat} {v : Value} {d : DataW H} {p : List MemPlace} (hv : Value.okWide Try.prog W r b0 69 v) (h : DataW.Trod enc Try.prog W base (fun _ => true) held 69 v d p) : ∃ xs, InTri W v xs := by
  obtain ⟨a, len, cap, rfl⟩ := okWide_slice Try.underlying69 hv
  obtain ⟨fuel, hf⟩ := h
  obtain ⟨js, hj, hjm⟩ := flat_open (encA := fun a : B3 => enc3 a.1) ⟨⟨(0, 0, 0), by decide⟩⟩ (fun _ => rfl) (by decide) Try.underlying69 (by kernel_rfl) (fun _ _ _ h hl => b3_open h hl) (by simpa [Value.cells] using hf)
  refine ⟨js.map Subtype.val, ?_, by rw [List.length_map]; exact hjm, fun x hx => ?_⟩
  · rw [List.length_map, flat_sub]; exact hj
  · obtain ⟨a, _, rfl⟩ := List.mem_map.1 hx; exact a.2
end Go.Proofs.Ytjkbhdlbomcbeaa
