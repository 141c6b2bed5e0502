import Derived.Test.YtjkbhdlbomcbeaaFr
import Derived.Test.YtjkbhdlbomcbeaaMk
import Derived.Laws.IdiomArrays
namespace Go.Proofs.Ytjkbhdlbomcbeaa
open Go.RowKit Go.ChangeShapes Go.WideShapes Go.ChangeAt Shf

abbrev B4 : Type := { x : Nat × Nat × Nat × Nat // x.1 < 256 ∧ x.2.1 < 256 ∧ x.2.2.1 < 256 ∧ x.2.2.2 < 256 }
abbrev B3 : Type := { x : Nat × Nat × Nat // x.1 < 256 ∧ x.2.1 < 256 ∧ x.2.2 < 256 }
abbrev B2 : Type := { x : Nat × Nat // x.1 < 256 ∧ x.2 < 256 }
def enc3 (x : Nat × Nat × Nat) : List Value := [.int .u8 (x.1 : Int), .int .u8 (x.2.1 : Int), .int .u8 (x.2.2 : Int)]
theorem flat_sub {α β : Type} (f : α → β) (enc : β → List Value) (xs : List α) : flat enc (xs.map f) = flat (fun a => enc (f a)) xs := by simp [flat, List.flatMap_map]
/-- Triples of bytes that came in. -/
def InTri (w : World) (v : Value) (xs : List (Nat × Nat × Nat)) : Prop := FlatR w 3 v xs.length (flat enc3 xs) ∧ xs.length ≤ maxLen ∧ ∀ x ∈ xs, x.1 < 256 ∧ x.2.1 < 256 ∧ x.2.2 < 256
/-- Bytes that came in. -/
def InU8 (w : World) (v : Value) (xs : List Nat) : Prop := (∃ ao c, v = .slice ao xs.length c ∧ xs.length ≤ c ∧ xs.length ≤ maxLen ∧ (xs ≠ [] → ∃ g o, ao = some ⟨g, o, none⟩ ∧ g < w.heap.size ∧ ∀ j, j < xs.length → w.cell? ⟨g, o + j, none⟩ = some (.int .u8 ((xs.getD j 0 : Nat) : Int)))) ∧ ∀ j, xs.getD j 0 ≤ 255
theorem InU8.below {w w' : World} {v : Value} {xs : List Nat} (h : InU8 w v xs) (hb : Below w.heap.size w w') : InU8 w' v xs := by
  obtain ⟨⟨ao, c, rfl, hc, hm, h⟩, hb'⟩ := h
  refine ⟨⟨ao, c, rfl, hc, hm, fun hne => ?_⟩, hb'⟩
  obtain ⟨g, o, rfl, hg, hc⟩ := h hne
  exact ⟨g, o, rfl, Nat.lt_of_lt_of_le hg hb.size, fun j hj => (hb.cell (p := ⟨g, o + j, none⟩) hg).trans (hc j hj)⟩
theorem InWork.below {w w' : World} {v : Value} {p : Nat} {xs : List (Nat × Nat × Nat × Nat)} {bs : List (Nat × Nat)} (h : InWork w v p xs bs) (hb : Below w.heap.size w w') : InWork w' v p xs bs := by
  obtain ⟨av, bv, e, hp, h1, h2, h3⟩ := h
  exact ⟨av, bv, e, hp, h1.below hb, h2.below hb, h3⟩
theorem InTri.below {w w' : World} {v : Value} {xs : List (Nat × Nat × Nat)} (h : InTri w v xs) (hb : Below w.heap.size w w') : InTri w' v xs := ⟨h.1.below hb, h.2⟩

section
variable {H : Type} {enc : TypeId × Value → H} {W : World} {base : Nat} {held : Bool}
theorem byte_cell {n : Nat} {v : Value} {y : DataW H × List MemPlace} (h : DataW.trod enc Try.prog W base (fun _ => true) held n 5 [v] = some y) : ∃ k : Nat, v = .int .u8 (k : Int) ∧ k < 256 := by
  obtain ⟨n', h, _, hw⟩ := DataW.trod_int Try.underlying5 h
  simp only [List.cons.injEq, and_true] at h
  subst h
  have := bounds_u8 hw
  obtain ⟨x, rfl⟩ : ∃ x : Nat, n' = (x : Int) := ⟨n'.toNat, by omega⟩
  exact ⟨x, rfl, by omega⟩
set_option maxRecDepth 100000 in
theorem b4_open {n : Nat} {cs : List Value} {y : DataW H × List MemPlace} (h : DataW.trod enc Try.prog W base (fun _ => true) held n 108 cs = some y) (hl : cs.length = 4) : ∃ a : B4, cs = enc4 a.1 := by
  match cs, hl with
  | [a, b, c, d], _ =>
    obtain ⟨_, _, _, _, m, _, h0, h1, h2, h3⟩ := trod_array4 Try.underlying108 (by kernel_rfl) h
    obtain ⟨x0, rfl, g0⟩ := byte_cell h0
    obtain ⟨x1, rfl, g1⟩ := byte_cell h1
    obtain ⟨x2, rfl, g2⟩ := byte_cell h2
    obtain ⟨x3, rfl, g3⟩ := byte_cell h3
    exact ⟨⟨(x0, x1, x2, x3), g0, g1, g2, g3⟩, rfl⟩
set_option maxRecDepth 100000 in
theorem b3_open {n : Nat} {cs : List Value} {y : DataW H × List MemPlace} (h : DataW.trod enc Try.prog W base (fun _ => true) held n 70 cs = some y) (hl : cs.length = 3) : ∃ a : B3, cs = enc3 a.1 := by
  match cs, hl with
  | [a, b, c], _ =>
    obtain ⟨_, _, _, m, _, h0, h1, h2⟩ := trod_array3 Try.underlying70 (by kernel_rfl) h
    obtain ⟨x0, rfl, g0⟩ := byte_cell h0
    obtain ⟨x1, rfl, g1⟩ := byte_cell h1
    obtain ⟨x2, rfl, g2⟩ := byte_cell h2
    exact ⟨⟨(x0, x1, x2), g0, g1, g2⟩, rfl⟩
set_option maxRecDepth 100000 in
theorem b2_open {n : Nat} {cs : List Value} {y : DataW H × List MemPlace} (h : DataW.trod enc Try.prog W base (fun _ => true) held n 76 cs = some y) (hl : cs.length = 2) : ∃ a : B2, cs = enc2 a.1 := by
  match cs, hl with
  | [a, b], _ =>
    obtain ⟨xs, m, _, _, _, hl, hi⟩ := DataW.trod_array Try.underlying76 h
    have hc : Try.prog.cellsOf 5 = 1 := by kernel_rfl
    have h0 := hi 0 (by omega)
    have h1 := hi 1 (by omega)
    rw [hc] at h0 h1
    match xs, hl with
    | [y0, y1], _ =>
      simp at h0 h1
      obtain ⟨x0, rfl, g0⟩ := byte_cell h0
      obtain ⟨x1, rfl, g1⟩ := byte_cell h1
      exact ⟨⟨(x0, x1), g0, g1⟩, rfl⟩
set_option maxRecDepth 100000 in
theorem work_open {r : Reach} {b0 : Nat} {v : Value} {d : DataW H} {p : List MemPlace} (hv : Value.okWide Try.prog W r b0 64 v) (h : DataW.Trod enc Try.prog W base (fun _ => true) held 64 v d p) : ∃ P xs bs, InWork W v P xs bs := by
  obtain ⟨v0, v1, v2, y0, y1, y2, n, rfl, _, _, h0, h1, h2⟩ := Joins.open_agg3 Try.underlying64 (by kernel_rfl) (by kernel_rfl) hv h
  obtain ⟨P, rfl, hP⟩ := byte_cell h0
  obtain ⟨js, hj, hjm⟩ := flat_open (encA := fun a : B4 => enc4 a.1) ⟨⟨(0, 0, 0, 0), by decide⟩⟩ (fun _ => rfl) (by decide) Try.underlying61 (by kernel_rfl) (fun _ _ _ h hl => b4_open h hl) h1
  obtain ⟨os, ho, hom⟩ := flat_open (encA := fun a : B2 => enc2 a.1) ⟨⟨(0, 0), by decide⟩⟩ (fun _ => rfl) (by decide) Try.underlying62 (by kernel_rfl) (fun _ _ _ h hl => b2_open h hl) h2
  refine ⟨P, js.map Subtype.val, os.map Subtype.val, v1, v2, rfl, hP, ?_, ?_, by rw [List.length_map]; exact hjm, by rw [List.length_map]; exact hom, fun x hx => ?_, fun x hx => ?_⟩
  · rw [List.length_map, flat_sub]; exact hj
  · rw [List.length_map, flat_sub]; exact ho
  · obtain ⟨a, _, rfl⟩ := List.mem_map.1 hx; exact a.2
  · obtain ⟨a, _, rfl⟩ := List.mem_map.1 hx; exact a.2
set_option maxRecDepth 100000 in
theorem tri_open {r : Reach} {b0 : Nat} {v : Value} {d : DataW H} {p : List MemPlace} (hv : Value.okWide Try.prog W r b0 69 v) (h : DataW.Trod enc Try.prog W base (fun _ => true) held 69 v d p) : ∃ xs, InTri W v xs := by
  obtain ⟨a, len, cap, rfl⟩ := okWide_slice Try.underlying69 hv
  obtain ⟨fuel, hf⟩ := h
  obtain ⟨js, hj, hjm⟩ := flat_open (encA := fun a : B3 => enc3 a.1) ⟨⟨(0, 0, 0), by decide⟩⟩ (fun _ => rfl) (by decide) Try.underlying69 (by kernel_rfl) (fun _ _ _ h hl => b3_open h hl) (by simpa [Value.cells] using hf)
  refine ⟨js.map Subtype.val, ?_, by rw [List.length_map]; exact hjm, fun x hx => ?_⟩
  · rw [List.length_map, flat_sub]; exact hj
  · obtain ⟨a, _, rfl⟩ := List.mem_map.1 hx; exact a.2
theorem okWide_array {P : Program} {w : World} {r : Reach} {b0 : Nat} {t e : TypeId} {n : Nat} {v : Value} (ht : P.underlying t = some (.array n e)) (h : Value.okWide P w r b0 t v) : ∃ cs, v = .agg cs ∧ cs.size = P.cellsOf t := by
  simp only [Value.okWide, ht] at h
  obtain ⟨cs, h1, h2, _⟩ := h
  exact ⟨cs, h1, h2⟩
set_option maxRecDepth 100000 in
theorem u83_open {r : Reach} {b0 : Nat} {v : Value} {d : DataW H} {p : List MemPlace} (hv : Value.okWide Try.prog W r b0 70 v) (h : DataW.Trod enc Try.prog W base (fun _ => true) held 70 v d p) :
    ∃ a b c : Nat, v = .agg #[.int .u8 a, .int .u8 b, .int .u8 c] ∧ a ≤ 255 ∧ b ≤ 255 ∧ c ≤ 255 := by
  obtain ⟨cs, rfl, hsz⟩ := okWide_array Try.underlying70 hv
  obtain ⟨c0, c1, c2, rfl⟩ := Joins.array3 (hsz.trans (by kernel_rfl))
  obtain ⟨fuel, hf⟩ := h
  obtain ⟨⟨⟨a, b, c⟩, ha, hb, hc⟩, he⟩ := b3_open (cs := [c0, c1, c2]) (by simpa [Value.cells] using hf) rfl
  simp only [enc3, List.cons.injEq, and_true] at he
  obtain ⟨rfl, rfl, rfl⟩ := he
  exact ⟨a, b, c, rfl, Nat.le_of_lt_succ ha, Nat.le_of_lt_succ hb, Nat.le_of_lt_succ hc⟩
set_option maxRecDepth 100000 in
theorem u82_open {r : Reach} {b0 : Nat} {v : Value} {d : DataW H} {p : List MemPlace} (hv : Value.okWide Try.prog W r b0 76 v) (h : DataW.Trod enc Try.prog W base (fun _ => true) held 76 v d p) :
    ∃ a b : Nat, v = .agg #[.int .u8 a, .int .u8 b] ∧ a ≤ 255 ∧ b ≤ 255 := by
  obtain ⟨cs, rfl, hsz⟩ := okWide_array Try.underlying76 hv
  obtain ⟨c0, c1, rfl⟩ := Joins.array2 (hsz.trans (by kernel_rfl))
  obtain ⟨fuel, hf⟩ := h
  obtain ⟨⟨⟨a, b⟩, ha, hb⟩, he⟩ := b2_open (cs := [c0, c1]) (by simpa [Value.cells] using hf) rfl
  simp only [enc2, List.cons.injEq, and_true] at he
  obtain ⟨rfl, rfl⟩ := he
  exact ⟨a, b, rfl, Nat.le_of_lt_succ ha, Nat.le_of_lt_succ hb⟩
theorem cells_in {k : IntKind} {a : Addr} {len cap : Nat} {zs : List Int} (hl : len ≤ cap) (hm : cap ≤ maxLen) (hz : zs.length = cap) (hc : ∀ i, i < cap → W.cell? (a.add i) = some (.int k (zs.getD i 0))) :
    ∃ ao c, Value.slice (some a) len cap = .slice ao (zs.take len).length c ∧ (zs.take len).length ≤ c ∧ (zs.take len).length ≤ maxLen ∧ (zs.take len ≠ [] → ∃ g o, ao = some ⟨g, o, none⟩ ∧ g < W.heap.size ∧ ∀ j, j < (zs.take len).length → W.cell? ⟨g, o + j, none⟩ = some (.int k ((zs.take len).getD j 0))) := by
  have hzl : (zs.take len).length = len := by rw [List.length_take]; omega
  refine ⟨some a, cap, by rw [hzl], by omega, by omega, fun hne => ?_⟩
  have h0 : 0 < len := by
    rcases Nat.eq_zero_or_pos len with e | e
    · exact absurd (List.length_eq_zero_iff.1 (hzl.trans e)) hne
    · exact e
  obtain ⟨b, off, spot⟩ := a
  have c0 := hc 0 (by omega)
  have hs : spot = none := by simpa [Addr.add] using World.cell?_spot c0
  subst hs
  refine ⟨b, off, rfl, ?_, fun j hj => ?_⟩
  · have := World.block_lt_of_cell? W _ c0
    simpa [Addr.add] using this
  · rw [hzl] at hj
    have ci := hc j (by omega)
    rw [show (⟨b, off, none⟩ : Addr).add j = ⟨b, off + j, none⟩ from by simp [Addr.add]] at ci
    rw [ci, List.getD_eq_getElem?_getD, List.getD_eq_getElem?_getD, List.getElem?_take, if_pos hj]
theorem wf_take {k : IntKind} {p : Int → Prop} {zs : List Int} (hw : ∀ n ∈ zs, (Lit.int k n).wf = true) (hp : ∀ n, (Lit.int k n).wf = true → p n) (h0 : p 0) (len j : Nat) : p ((zs.take len).getD j 0) := by
  rw [List.getD_eq_getElem?_getD]
  cases h : (zs.take len)[j]? with
  | none => exact h0
  | some n => exact hp _ (hw n (List.mem_of_mem_take (List.mem_of_getElem? h)))
theorem getD_map_toNat (l : List Int) (j : Nat) (h : 0 ≤ l.getD j 0) : (((l.map Int.toNat).getD j 0 : Nat) : Int) = l.getD j 0 := by
  rw [List.getD_eq_getElem?_getD] at h ⊢
  rw [List.getD_eq_getElem?_getD, List.getElem?_map]
  cases e : l[j]? with
  | none => simp
  | some x => rw [e] at h; simp at h ⊢; omega
set_option maxRecDepth 100000 in
theorem u8s_open {r : Reach} {b0 : Nat} {v : Value} {d : DataW H} {p : List MemPlace} (hv : Value.okWide Try.prog W r b0 65 v) (h : DataW.Trod enc Try.prog W base (fun _ => true) held 65 v d p) : ∃ xs, InU8 W v xs := by
  obtain ⟨a, len, cap, rfl⟩ := okWide_slice Try.underlying65 hv
  obtain ⟨fuel, hf⟩ := h
  rcases open_ints Try.underlying65 Try.underlying5 (by kernel_rfl) hf with ⟨hcs, _⟩ | ⟨a, len, cap, zs, hcs, _, hl, hm, hz, _, hcell, hw⟩
  · simp [Value.cells] at hcs
    obtain ⟨rfl, rfl, rfl⟩ := hcs
    exact ⟨[], ⟨none, 0, rfl, Nat.le_refl _, Nat.zero_le _, fun h => absurd rfl h⟩, fun j => by simp⟩
  · simp [Value.cells] at hcs
    obtain ⟨rfl, rfl, rfl⟩ := hcs
    simp only [if_true] at hz
    obtain ⟨ao, c, e, h1, h2, h3⟩ := cells_in (len := len) hl hm hz fun i hi => hcell i (by omega)
    have hb := fun j => wf_take hw (fun n h => bounds_u8 h) (by omega) len j
    refine ⟨(zs.take len).map Int.toNat, ⟨ao, c, by rw [List.length_map]; exact e, by rw [List.length_map]; exact h1, by rw [List.length_map]; exact h2, fun hne => ?_⟩, fun j => ?_⟩
    · obtain ⟨g, o, rfl, hg, hc⟩ := h3 (fun e => hne (by rw [e]; rfl))
      exact ⟨g, o, rfl, hg, fun j hj => by rw [getD_map_toNat _ _ (hb j).1]; exact hc j (by simpa using hj)⟩
    · have := getD_map_toNat (zs.take len) j (hb j).1
      have := (hb j).2
      omega
end
end Go.Proofs.Ytjkbhdlbomcbeaa
