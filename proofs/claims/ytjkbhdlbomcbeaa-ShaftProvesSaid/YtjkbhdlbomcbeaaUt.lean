import Derived.Test.YtjkbhdlbomcbeaaFr
import Derived.Test.YtjkbhdlbomcbeaaXf
namespace Go.Proofs.Ytjkbhdlbomcbeaa
open Go.RowKit Go.ChangeShapes Go.WideShapes Go.ChangeAt Shf

/-- Nodes that came in. -/
def InNd (w : World) (v : Value) (ns : List Nd) : Prop := FlatR w 6 v ns.length (flat encN ns) ∧ ns.length ≤ maxLen
theorem InNd.below {w w' : World} {v : Value} {ns : List Nd} (h : InNd w v ns) (hb : Below w.heap.size w w') : InNd w' v ns := ⟨h.1.below hb, h.2⟩
section
variable {H : Type} {enc : TypeId × Value → H} {W : World} {base : Nat} {held : Bool}
theorem trod_struct6 {t : TypeId} {f0 f1 f2 f3 f4 f5 : Field} {fuel : Nat} {cs : List Value} {x : DataW H × List MemPlace} (ht : Try.prog.underlying t = some (.struct #[f0, f1, f2, f3, f4, f5])) (h : DataW.trod enc Try.prog W base (fun _ => true) held fuel t cs = some x) :
    ∃ y0 y1 y2 y3 y4 y5 n, DataW.trod enc Try.prog W base (fun _ => true) held n f0.type ((cs.drop f0.offset).take (Try.prog.cellsOf f0.type)) = some y0 ∧
      DataW.trod enc Try.prog W base (fun _ => true) held n f1.type ((cs.drop f1.offset).take (Try.prog.cellsOf f1.type)) = some y1 ∧ DataW.trod enc Try.prog W base (fun _ => true) held n f2.type ((cs.drop f2.offset).take (Try.prog.cellsOf f2.type)) = some y2 ∧
      DataW.trod enc Try.prog W base (fun _ => true) held n f3.type ((cs.drop f3.offset).take (Try.prog.cellsOf f3.type)) = some y3 ∧ DataW.trod enc Try.prog W base (fun _ => true) held n f4.type ((cs.drop f4.offset).take (Try.prog.cellsOf f4.type)) = some y4 ∧
      DataW.trod enc Try.prog W base (fun _ => true) held n f5.type ((cs.drop f5.offset).take (Try.prog.cellsOf f5.type)) = some y5 := by
  obtain ⟨xs, n, _, rfl, hl, hlen, hf⟩ := DataW.trod_struct ht h
  match xs, hlen with
  | [y0, y1, y2, y3, y4, y5], _ => exact ⟨y0, y1, y2, y3, y4, y5, n, by simpa using hf 0 f0 rfl, by simpa using hf 1 f1 rfl, by simpa using hf 2 f2 rfl, by simpa using hf 3 f3 rfl, by simpa using hf 4 f4 rfl, by simpa using hf 5 f5 rfl⟩
set_option maxRecDepth 100000 in
theorem node_open {n : Nat} {cs : List Value} {y : DataW H × List MemPlace} (h : DataW.trod enc Try.prog W base (fun _ => true) held n 72 cs = some y) (hl : cs.length = 6) : ∃ x, cs = encN x := by
  obtain ⟨y0, y1, y2, y3, y4, y5, m, h0, h1, h2, h3, h4, h5⟩ := trod_struct6 Try.underlying72 h
  match cs, hl with
  | [a, b, c, d, e, f], _ =>
    have e3 : Try.prog.cellsOf 3 = 1 := by kernel_rfl
    simp [e3] at h0 h1 h2 h3 h4 h5
    obtain ⟨a, rfl⟩ := int_cell h0
    obtain ⟨b, rfl⟩ := int_cell h1
    obtain ⟨c, rfl⟩ := int_cell h2
    obtain ⟨d, rfl⟩ := int_cell h3
    obtain ⟨e, rfl⟩ := int_cell h4
    obtain ⟨f, rfl⟩ := int_cell h5
    exact ⟨⟨a, b, c, d, e, f⟩, rfl⟩
set_option maxRecDepth 100000 in
theorem nodes_open {r : Reach} {b0 : Nat} {v : Value} {d : DataW H} {p : List MemPlace} (hv : Value.okWide Try.prog W r b0 52 v) (h : DataW.Trod enc Try.prog W base (fun _ => true) held 52 v d p) : ∃ ns, InNd W v ns := by
  obtain ⟨a, len, cap, rfl⟩ := okWide_slice Try.underlying52 hv
  obtain ⟨fuel, hf⟩ := h
  exact flat_open (encA := encN) ⟨N0⟩ encN_len (by decide) Try.underlying52 (by kernel_rfl) (fun _ _ _ h hl => node_open h hl) (by simpa [Value.cells] using hf)
end
end Go.Proofs.Ytjkbhdlbomcbeaa
