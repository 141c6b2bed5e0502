import Derived.Test.YtbemlfppekpmjaaZc
import Derived.ProofKit
import Derived.OpenShut
import Derived.ChangeOld
import Derived.Below
import Derived.Deep.Matrix
import Derived.Deep.Slices
import Derived.Lib.SmallJoins
import Derived.Laws.IdiomArrays
import Derived.Deep.Strs
/-! Arguments that come in. -/
namespace Go.Proofs.Ytbemlfppekpmjaa
open Go.RowKit Go.ChangeShapes Go.WideShapes Go.ChangeAt Rng
/-- A slice of ints that came in. -/
def InRow (w : World) (v : Value) (xs : List Int) : Prop := Reads w v xs ∧ xs.length ≤ maxLen ∧ ∃ ao c, v = .slice ao xs.length c ∧ (ao = none → c = 0)
theorem InRow.below {w w' : World} {v : Value} {xs : List Int} (h : InRow w v xs) (hb : Below w.heap.size w w') : InRow w' v xs := ⟨h.1.below hb, h.2⟩
/-- A row from its cells. -/
theorem inrow_cells {W : World} {a : Addr} {len cap : Nat} {zs : List Int} (hl : len ≤ cap) (hm : cap ≤ maxLen) (hz : zs.length = cap) (hc : ∀ i, i < cap → W.cell? (a.add i) = some (.int .i64 (zs.getD i 0))) : InRow W (.slice (some a) len cap) (zs.take len) := by
  have hzl : (zs.take len).length = len := by rw [List.length_take]; omega
  refine ⟨⟨some a, cap, by rw [hzl], by omega, fun hne => ?_⟩, by omega, some a, cap, by rw [hzl], fun h => by cases h⟩
  have h0 : 0 < len := by
    rcases Nat.eq_zero_or_pos len with e | e
    · exact absurd (List.length_eq_zero_iff.1 (hzl.trans e)) hne
    · exact e
  obtain ⟨b, off, spot⟩ := a
  have c0 := hc 0 (by omega)
  have hs : spot = none := by simpa [Addr.add] using World.cell?_spot c0
  subst hs
  refine ⟨b, off, rfl, ?_, fun j hj => ?_⟩
  · have := World.block_lt_of_cell? W _ c0
    simpa [Addr.add] using this
  · rw [hzl] at hj
    have ci := hc j (by omega)
    rw [show (⟨b, off, none⟩ : Addr).add j = ⟨b, off + j, none⟩ from by simp [Addr.add]] at ci
    rw [ci, List.getD_eq_getElem?_getD, List.getD_eq_getElem?_getD, List.getElem?_take, if_pos hj]
theorem inrow_nil (W : World) : InRow W (.slice none 0 0) [] := ⟨⟨none, 0, rfl, Nat.le_refl _, fun h => absurd rfl h⟩, Nat.zero_le _, none, 0, rfl, fun _ => rfl⟩

abbrev B3 : Type := { x : Nat × Nat × Nat // x.1 < 256 ∧ x.2.1 < 256 ∧ x.2.2 < 256 }
def enc3 (x : Nat × Nat × Nat) : List Value := [.int .u8 (x.1 : Int), .int .u8 (x.2.1 : Int), .int .u8 (x.2.2 : Int)]
theorem flat_sub {α β : Type} (f : α → β) (enc : β → List Value) (xs : List α) : flat enc (xs.map f) = flat (fun a => enc (f a)) xs := by simp [flat, List.flatMap_map]
/-- Triples of bytes that came in. -/
def InTri (w : World) (v : Value) (xs : List (Nat × Nat × Nat)) : Prop := FlatR w 3 v xs.length (flat enc3 xs) ∧ xs.length ≤ maxLen ∧ ∀ x ∈ xs, x.1 < 256 ∧ x.2.1 < 256 ∧ x.2.2 < 256
/-- Bytes that came in. -/
def InU8 (w : World) (v : Value) (xs : List Nat) : Prop := (∃ ao c, v = .slice ao xs.length c ∧ xs.length ≤ c ∧ xs.length ≤ maxLen ∧ (xs ≠ [] → ∃ g o, ao = some ⟨g, o, none⟩ ∧ g < w.heap.size ∧ ∀ j, j < xs.length → w.cell? ⟨g, o + j, none⟩ = some (.int .u8 ((xs.getD j 0 : Nat) : Int)))) ∧ ∀ j, xs.getD j 0 ≤ 255
theorem InU8.below {w w' : World} {v : Value} {xs : List Nat} (h : InU8 w v xs) (hb : Below w.heap.size w w') : InU8 w' v xs := by
  obtain ⟨⟨ao, c, rfl, hc, hm, h⟩, hb'⟩ := h
  refine ⟨⟨ao, c, rfl, hc, hm, fun hne => ?_⟩, hb'⟩
  obtain ⟨g, o, rfl, hg, hc⟩ := h hne
  exact ⟨g, o, rfl, Nat.lt_of_lt_of_le hg hb.size, fun j hj => (hb.cell (p := ⟨g, o + j, none⟩) hg).trans (hc j hj)⟩
theorem InTri.below {w w' : World} {v : Value} {xs : List (Nat × Nat × Nat)} (h : InTri w v xs) (hb : Below w.heap.size w w') : InTri w' v xs := ⟨h.1.below hb, h.2⟩

section
variable {H : Type} {enc : TypeId × Value → H} {W : World} {base : Nat} {held : Bool}

theorem inrow_open {fuel : Nat} {v : Value} {x : DataW H × List MemPlace} (h : DataW.trod enc Try.prog W base (fun _ => true) held fuel 22 [v] = some x) : ∃ xs, InRow W v xs := by
  rcases open_ints Try.underlying22 Try.underlying3 (by kernel_rfl) h with ⟨hcs, _⟩ | ⟨a, len, cap, zs, hcs, _, hl, hm, hz, _, hcell, _⟩
  · simp only [List.cons.injEq, and_true] at hcs
    subst hcs
    exact ⟨[], inrow_nil W⟩
  · simp only [List.cons.injEq, and_true] at hcs
    subst hcs
    simp only [if_true] at hz
    exact ⟨_, inrow_cells hl hm hz (fun i hi => hcell i (by omega))⟩

theorem int_cell {n : Nat} {v : Value} {y : DataW H × List MemPlace} (h : DataW.trod enc Try.prog W base (fun _ => true) held n 3 [v] = some y) : ∃ k, v = .int .i64 k := by
  obtain ⟨n', h, _, _⟩ := DataW.trod_int Try.underlying3 h
  simp at h
  exact ⟨n', h⟩
theorem addr_add_add (a : Addr) (i j : Nat) : (a.add i).add j = a.add (i + j) := by
  obtain ⟨b, off, spot⟩ := a
  unfold Addr.add
  by_cases hi : i = 0 <;> by_cases hj : j = 0 <;> simp [hi, hj]
  omega
/-- A slice of structs that came in. -/
theorem flat_open {α : Type} {t e : TypeId} {z : Nat} {encA : α → List Value} (hA : Inhabited α) (hz : ∀ a, (encA a).length = z) (hz0 : 0 < z) (ht : Try.prog.underlying t = some (.slice e)) (hc : Try.prog.cellsOf e = z)
    (hel : ∀ n cs y, DataW.trod enc Try.prog W base (fun _ => true) held n e cs = some y → cs.length = z → ∃ a, cs = encA a) {fuel : Nat} {v : Value} {x : DataW H × List MemPlace} (h : DataW.trod enc Try.prog W base (fun _ => true) held fuel t [v] = some x) :
    ∃ xs : List α, FlatR W z v xs.length (flat encA xs) ∧ xs.length ≤ maxLen := by
  rcases Deep.open_slice ht h with ⟨hcs, _⟩ | ⟨a, len, cap, m, n, D, Pl, hcs, _, hl, hm, hmm, _, hx⟩
  · simp only [List.cons.injEq, and_true] at hcs
    subst hcs
    exact ⟨[], ⟨by simp [flat], none, 0, rfl, Nat.le_refl _, fun _ => rfl, fun h => absurd rfl h⟩, Nat.zero_le _⟩
  · simp only [List.cons.injEq, and_true] at hcs
    subst hcs
    simp only [if_true] at hmm
    subst hmm
    rw [hc] at hx
    have hch : ∀ i, i < m → ∃ b : α, ∀ k, k < z → W.cell? (a.add (i * z + k)) = (encA b)[k]? := fun i hi => by
      obtain ⟨cs', h1, h2⟩ := hx i hi
      obtain ⟨_, hlen, hcell⟩ := World.cells?_some h1
      obtain ⟨b, rfl⟩ := hel _ _ _ h2 hlen
      refine ⟨b, fun k hk => ?_⟩
      have := hcell k hk
      rw [← this, addr_add_add]
    have hch2 : ∀ i, ∃ b : α, i < m → ∀ k, k < z → W.cell? (a.add (i * z + k)) = (encA b)[k]? := fun i => by
      by_cases hi : i < m
      · obtain ⟨b, hb⟩ := hch i hi; exact ⟨b, fun _ => hb⟩
      · exact ⟨hA.default, fun h => absurd h hi⟩
    obtain ⟨A, hA⟩ := Classical.axiomOfChoice hch2
    have hlen : ((List.range len).map A).length = len := by simp
    refine ⟨(List.range len).map A, ⟨flat_len hz _, some a, m, by rw [hlen], by rw [hlen]; exact hl, fun h => (by cases h), fun hne => ?_⟩, by rw [hlen]; omega⟩
    rw [hlen] at hne
    obtain ⟨b, off, spot⟩ := a
    have c0 := hA 0 (by omega) 0 hz0
    rw [Nat.zero_mul, Nat.zero_add] at c0
    obtain ⟨u0, hu0⟩ : ∃ u, (encA (A 0))[0]? = some u := ⟨(encA (A 0))[0]'(by rw [hz]; exact hz0), List.getElem?_eq_getElem _⟩
    rw [hu0] at c0
    have hs : spot = none := by simpa [Addr.add] using World.cell?_spot c0
    subst hs
    refine ⟨b, off, rfl, ?_, fun j u hj => ?_⟩
    · have := World.block_lt_of_cell? W _ c0
      simpa [Addr.add] using this
    · have hjl := (List.getElem?_eq_some_iff.1 hj).1
      rw [flat_len hz, hlen] at hjl
      have hdm : j / z * z + j % z = j := by rw [Nat.mul_comm]; exact Nat.div_add_mod j z
      have hi : j / z < len := (Nat.div_lt_iff_lt_mul hz0).2 hjl
      have hk : j % z < z := Nat.mod_lt _ hz0
      have hf := flat_at hz ((List.range len).map A) (j / z) (j % z) (by rw [hlen]; exact hi) hk
      rw [hdm, hj] at hf
      have hcj := hA (j / z) (by omega) (j % z) hk
      rw [hdm] at hcj
      rw [show (⟨b, off, none⟩ : Addr).add j = ⟨b, off + j, none⟩ from by simp [Addr.add]] at hcj
      rw [hcj, hf]
      simp
set_option maxRecDepth 100000 in
theorem ints_open {r : Reach} {b0 : Nat} {v : Value} {d : DataW H} {p : List MemPlace} (hv : Value.okWide Try.prog W r b0 22 v) (h : DataW.Trod enc Try.prog W base (fun _ => true) held 22 v d p) : ∃ xs, InRow W v xs := by
  obtain ⟨a, len, cap, rfl⟩ := okWide_slice Try.underlying22 hv
  obtain ⟨fuel, hf⟩ := h
  exact inrow_open (fuel := fuel) (x := (d, p)) (by simpa [Value.cells] using hf)
theorem byte_cell {n : Nat} {v : Value} {y : DataW H × List MemPlace} (h : DataW.trod enc Try.prog W base (fun _ => true) held n 5 [v] = some y) : ∃ k : Nat, v = .int .u8 (k : Int) ∧ k < 256 := by
  obtain ⟨n', h, _, hw⟩ := DataW.trod_int Try.underlying5 h
  simp only [List.cons.injEq, and_true] at h
  subst h
  have := bounds_u8 hw
  obtain ⟨x, rfl⟩ : ∃ x : Nat, n' = (x : Int) := ⟨n'.toNat, by omega⟩
  exact ⟨x, rfl, by omega⟩
set_option maxRecDepth 100000 in
theorem b3_open {n : Nat} {cs : List Value} {y : DataW H × List MemPlace} (h : DataW.trod enc Try.prog W base (fun _ => true) held n 73 cs = some y) (hl : cs.length = 3) : ∃ a : B3, cs = enc3 a.1 := by
  match cs, hl with
  | [a, b, c], _ =>
    obtain ⟨_, _, _, m, _, h0, h1, h2⟩ := trod_array3 Try.underlying73 (by kernel_rfl) h
    obtain ⟨x0, rfl, g0⟩ := byte_cell h0
    obtain ⟨x1, rfl, g1⟩ := byte_cell h1
    obtain ⟨x2, rfl, g2⟩ := byte_cell h2
    exact ⟨⟨(x0, x1, x2), g0, g1, g2⟩, rfl⟩
set_option maxRecDepth 100000 in
theorem tri_open {r : Reach} {b0 : Nat} {v : Value} {d : DataW H} {p : List MemPlace} (hv : Value.okWide Try.prog W r b0 55 v) (h : DataW.Trod enc Try.prog W base (fun _ => true) held 55 v d p) : ∃ xs, InTri W v xs := by
  obtain ⟨a, len, cap, rfl⟩ := okWide_slice Try.underlying55 hv
  obtain ⟨fuel, hf⟩ := h
  obtain ⟨js, hj, hjm⟩ := flat_open (encA := fun a : B3 => enc3 a.1) ⟨⟨(0, 0, 0), by decide⟩⟩ (fun _ => rfl) (by decide) Try.underlying55 (by kernel_rfl) (fun _ _ _ h hl => b3_open h hl) (by simpa [Value.cells] using hf)
  refine ⟨js.map Subtype.val, ?_, by rw [List.length_map]; exact hjm, fun x hx => ?_⟩
  · rw [List.length_map, flat_sub]; exact hj
  · obtain ⟨a, _, rfl⟩ := List.mem_map.1 hx; exact a.2
theorem cells_in {k : IntKind} {a : Addr} {len cap : Nat} {zs : List Int} (hl : len ≤ cap) (hm : cap ≤ maxLen) (hz : zs.length = cap) (hc : ∀ i, i < cap → W.cell? (a.add i) = some (.int k (zs.getD i 0))) :
    ∃ ao c, Value.slice (some a) len cap = .slice ao (zs.take len).length c ∧ (zs.take len).length ≤ c ∧ (zs.take len).length ≤ maxLen ∧ (zs.take len ≠ [] → ∃ g o, ao = some ⟨g, o, none⟩ ∧ g < W.heap.size ∧ ∀ j, j < (zs.take len).length → W.cell? ⟨g, o + j, none⟩ = some (.int k ((zs.take len).getD j 0))) := by
  have hzl : (zs.take len).length = len := by rw [List.length_take]; omega
  refine ⟨some a, cap, by rw [hzl], by omega, by omega, fun hne => ?_⟩
  have h0 : 0 < len := by
    rcases Nat.eq_zero_or_pos len with e | e
    · exact absurd (List.length_eq_zero_iff.1 (hzl.trans e)) hne
    · exact e
  obtain ⟨b, off, spot⟩ := a
  have c0 := hc 0 (by omega)
  have hs : spot = none := by simpa [Addr.add] using World.cell?_spot c0
  subst hs
  refine ⟨b, off, rfl, ?_, fun j hj => ?_⟩
  · have := World.block_lt_of_cell? W _ c0
    simpa [Addr.add] using this
  · rw [hzl] at hj
    have ci := hc j (by omega)
    rw [show (⟨b, off, none⟩ : Addr).add j = ⟨b, off + j, none⟩ from by simp [Addr.add]] at ci
    rw [ci, List.getD_eq_getElem?_getD, List.getD_eq_getElem?_getD, List.getElem?_take, if_pos hj]
theorem wf_take {k : IntKind} {p : Int → Prop} {zs : List Int} (hw : ∀ n ∈ zs, (Lit.int k n).wf = true) (hp : ∀ n, (Lit.int k n).wf = true → p n) (h0 : p 0) (len j : Nat) : p ((zs.take len).getD j 0) := by
  rw [List.getD_eq_getElem?_getD]
  cases h : (zs.take len)[j]? with
  | none => exact h0
  | some n => exact hp _ (hw n (List.mem_of_mem_take (List.mem_of_getElem? h)))
theorem getD_map_toNat (l : List Int) (j : Nat) (h : 0 ≤ l.getD j 0) : (((l.map Int.toNat).getD j 0 : Nat) : Int) = l.getD j 0 := by
  rw [List.getD_eq_getElem?_getD] at h ⊢
  rw [List.getD_eq_getElem?_getD, List.getElem?_map]
  cases e : l[j]? with
  | none => simp
  | some x => rw [e] at h; simp at h ⊢; omega
set_option maxRecDepth 100000 in
theorem u8s_open {r : Reach} {b0 : Nat} {v : Value} {d : DataW H} {p : List MemPlace} (hv : Value.okWide Try.prog W r b0 49 v) (h : DataW.Trod enc Try.prog W base (fun _ => true) held 49 v d p) : ∃ xs, InU8 W v xs := by
  obtain ⟨a, len, cap, rfl⟩ := okWide_slice Try.underlying49 hv
  obtain ⟨fuel, hf⟩ := h
  rcases open_ints Try.underlying49 Try.underlying5 (by kernel_rfl) hf with ⟨hcs, _⟩ | ⟨a, len, cap, zs, hcs, _, hl, hm, hz, _, hcell, hw⟩
  · simp [Value.cells] at hcs
    obtain ⟨rfl, rfl, rfl⟩ := hcs
    exact ⟨[], ⟨none, 0, rfl, Nat.le_refl _, Nat.zero_le _, fun h => absurd rfl h⟩, fun j => by simp⟩
  · simp [Value.cells] at hcs
    obtain ⟨rfl, rfl, rfl⟩ := hcs
    simp only [if_true] at hz
    obtain ⟨ao, c, e, h1, h2, h3⟩ := cells_in (len := len) hl hm hz fun i hi => hcell i (by omega)
    have hb := fun j => wf_take hw (fun n h => bounds_u8 h) (by omega) len j
    refine ⟨(zs.take len).map Int.toNat, ⟨ao, c, by rw [List.length_map]; exact e, by rw [List.length_map]; exact h1, by rw [List.length_map]; exact h2, fun hne => ?_⟩, fun j => ?_⟩
    · obtain ⟨g, o, rfl, hg, hc⟩ := h3 (fun e => hne (by rw [e]; rfl))
      exact ⟨g, o, rfl, hg, fun j hj => by rw [getD_map_toNat _ _ (hb j).1]; exact hc j (by simpa using hj)⟩
    · have := getD_map_toNat (zs.take len) j (hb j).1
      have := (hb j).2
      omega
/-- An act. -/
structure Ac where
  kd : Nat
  a : Int
  b : Int
def encA (x : Ac) : List Value := [.int .u8 (x.kd : Int), .int .i64 x.a, .int .i64 x.b]
abbrev Acb : Type := { x : Ac // x.kd < 256 }
def InActs (w : World) (v : Value) (xs : List Ac) : Prop := FlatR w 3 v xs.length (flat encA xs) ∧ xs.length ≤ maxLen ∧ ∀ x ∈ xs, x.kd < 256
theorem InActs.below {w w' : World} {v : Value} {xs : List Ac} (h : InActs w v xs) (hb : Below w.heap.size w w') : InActs w' v xs := ⟨h.1.below hb, h.2⟩
set_option maxRecDepth 100000 in
theorem act_open {n : Nat} {cs : List Value} {y : DataW H × List MemPlace} (h : DataW.trod enc Try.prog W base (fun _ => true) held n 41 cs = some y) (hl : cs.length = 3) : ∃ a : Acb, cs = encA a.1 := by
  obtain ⟨y0, y1, y2, m, _, _, h0, h1, h2⟩ := Deep.trod_struct3 Try.underlying41 h
  match cs, hl with
  | [a, b, c], _ =>
    have e3 : Try.prog.cellsOf 3 = 1 := by kernel_rfl
    have e5 : Try.prog.cellsOf 5 = 1 := by kernel_rfl
    simp [e3, e5] at h0 h1 h2
    obtain ⟨f, rfl, hf⟩ := byte_cell h0
    obtain ⟨t, rfl⟩ := int_cell h1
    obtain ⟨l, rfl⟩ := int_cell h2
    exact ⟨⟨⟨f, t, l⟩, hf⟩, rfl⟩
set_option maxRecDepth 100000 in
theorem acts_open {r : Reach} {b0 : Nat} {v : Value} {d : DataW H} {p : List MemPlace} (hv : Value.okWide Try.prog W r b0 39 v) (h : DataW.Trod enc Try.prog W base (fun _ => true) held 39 v d p) : ∃ xs, InActs W v xs := by
  obtain ⟨a, len, cap, rfl⟩ := okWide_slice Try.underlying39 hv
  obtain ⟨fuel, hf⟩ := h
  obtain ⟨js, hj, hjm⟩ := flat_open (encA := fun a : Acb => encA a.1) ⟨⟨⟨0, 0, 0⟩, by decide⟩⟩ (fun _ => rfl) (by decide) Try.underlying39 (by kernel_rfl) (fun _ _ _ h hl => act_open h hl) (by simpa [Value.cells] using hf)
  refine ⟨js.map Subtype.val, ?_, by rw [List.length_map]; exact hjm, fun x hx => ?_⟩
  · rw [List.length_map, flat_sub]; exact hj
  · obtain ⟨a, _, rfl⟩ := List.mem_map.1 hx; exact a.2
end
end Go.Proofs.Ytbemlfppekpmjaa
