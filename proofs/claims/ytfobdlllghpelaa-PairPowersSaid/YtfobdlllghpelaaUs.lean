import Derived.Test.YtfobdlllghpelaaFr
namespace Go.Proofs.Ytfobdlllghpelaa
open Go.RowKit Go.ChangeShapes Go.WideShapes Go.ChangeAt

/-- A slice of numbers of some kind that came in: as Nats, with their bound. -/
def InNats (k : IntKind) (b : Nat) (w : World) (v : Value) (xs : List Nat) : Prop := (∃ ao c, v = .slice ao xs.length c ∧ xs.length ≤ c ∧ xs.length ≤ maxLen ∧ (xs ≠ [] → ∃ g o, ao = some ⟨g, o, none⟩ ∧ g < w.heap.size ∧ ∀ j, j < xs.length → w.cell? ⟨g, o + j, none⟩ = some (.int k ((xs.getD j 0 : Nat) : Int)))) ∧ ∀ j, xs.getD j 0 ≤ b
theorem InNats.below {k : IntKind} {b : Nat} {w w' : World} {v : Value} {xs : List Nat} (h : InNats k b w v xs) (hb : Below w.heap.size w w') : InNats k b w' v xs := by
  obtain ⟨⟨ao, c, rfl, hc, hm, h⟩, hb'⟩ := h
  refine ⟨⟨ao, c, rfl, hc, hm, fun hne => ?_⟩, hb'⟩
  obtain ⟨g, o, rfl, hg, hc⟩ := h hne
  exact ⟨g, o, rfl, Nat.lt_of_lt_of_le hg hb.size, fun j hj => (hb.cell (p := ⟨g, o + j, none⟩) hg).trans (hc j hj)⟩
/-- .. of bytes with signs. -/
def InI8 (w : World) (v : Value) (xs : List Int) : Prop := (∃ ao c, v = .slice ao xs.length c ∧ xs.length ≤ c ∧ xs.length ≤ maxLen ∧ (xs ≠ [] → ∃ g o, ao = some ⟨g, o, none⟩ ∧ g < w.heap.size ∧ ∀ j, j < xs.length → w.cell? ⟨g, o + j, none⟩ = some (.int .i8 (xs.getD j 0)))) ∧ ∀ j, -128 ≤ xs.getD j 0 ∧ xs.getD j 0 ≤ 127
theorem InI8.below {w w' : World} {v : Value} {xs : List Int} (h : InI8 w v xs) (hb : Below w.heap.size w w') : InI8 w' v xs := by
  obtain ⟨⟨ao, c, rfl, hc, hm, h⟩, hb'⟩ := h
  refine ⟨⟨ao, c, rfl, hc, hm, fun hne => ?_⟩, hb'⟩
  obtain ⟨g, o, rfl, hg, hc⟩ := h hne
  exact ⟨g, o, rfl, Nat.lt_of_lt_of_le hg hb.size, fun j hj => (hb.cell (p := ⟨g, o + j, none⟩) hg).trans (hc j hj)⟩

section
variable {H : Type} {enc : TypeId × Value → H} {W : World} {base : Nat} {held : Bool}
theorem okWide_array {P : Program} {w : World} {r : Reach} {b0 : Nat} {t e : TypeId} {n : Nat} {v : Value} (ht : P.underlying t = some (.array n e)) (h : Value.okWide P w r b0 t v) : ∃ cs, v = .agg cs ∧ cs.size = P.cellsOf t := by
  simp only [Value.okWide, ht] at h
  obtain ⟨cs, h1, h2, _⟩ := h
  exact ⟨cs, h1, h2⟩
set_option maxRecDepth 100000 in
theorem ints2_open {r : Reach} {b0 : Nat} {v : Value} {d : DataW H} {p : List MemPlace} (hv : Value.okWide Try.prog W r b0 43 v) (h : DataW.Trod enc Try.prog W base (fun _ => true) held 43 v d p) :
    ∃ c0 c1 xs ys, v = .agg #[c0, c1] ∧ InRow W c0 xs ∧ InRow W c1 ys := by
  obtain ⟨cs, rfl, hsz⟩ := okWide_array Try.underlying43 hv
  obtain ⟨c0, c1, rfl⟩ := Joins.array2 (hsz.trans (by kernel_rfl))
  obtain ⟨fuel, hf⟩ := h
  obtain ⟨xs, m, _, _, _, hl, hi⟩ := DataW.trod_array Try.underlying43 hf
  have hc : Try.prog.cellsOf 24 = 1 := by kernel_rfl
  have h0 := hi 0 (by omega)
  have h1 := hi 1 (by omega)
  rw [hc] at h0 h1
  match xs, hl with
  | [y0, y1], _ =>
    simp [Value.cells] at h0 h1
    obtain ⟨z0, e0⟩ := inrow_open h0
    obtain ⟨z1, e1⟩ := inrow_open h1
    exact ⟨c0, c1, z0, z1, rfl, e0, e1⟩
set_option maxRecDepth 100000 in
theorem u162_open {r : Reach} {b0 : Nat} {v : Value} {d : DataW H} {p : List MemPlace} (hv : Value.okWide Try.prog W r b0 68 v) (h : DataW.Trod enc Try.prog W base (fun _ => true) held 68 v d p) :
    ∃ a b : Nat, v = .agg #[.int .u16 a, .int .u16 b] ∧ a ≤ 65535 ∧ b ≤ 65535 := by
  obtain ⟨cs, rfl, hsz⟩ := okWide_array Try.underlying68 hv
  obtain ⟨c0, c1, rfl⟩ := Joins.array2 (hsz.trans (by kernel_rfl))
  obtain ⟨fuel, hf⟩ := h
  obtain ⟨xs, m, _, _, _, hl, hi⟩ := DataW.trod_array Try.underlying68 hf
  have hc : Try.prog.cellsOf 60 = 1 := by kernel_rfl
  have h0 := hi 0 (by omega)
  have h1 := hi 1 (by omega)
  rw [hc] at h0 h1
  match xs, hl with
  | [y0, y1], _ =>
    simp [Value.cells] at h0 h1
    obtain ⟨n0, e0, _, w0⟩ := DataW.trod_int Try.underlying60 h0
    obtain ⟨n1, e1, _, w1⟩ := DataW.trod_int Try.underlying60 h1
    simp only [List.cons.injEq, and_true] at e0 e1
    subst e0 e1
    obtain ⟨a0, a1⟩ := bounds_u16 w0
    obtain ⟨b0, b1⟩ := bounds_u16 w1
    obtain ⟨x, rfl⟩ : ∃ x : Nat, n0 = (x : Int) := ⟨n0.toNat, by omega⟩
    obtain ⟨y, rfl⟩ : ∃ x : Nat, n1 = (x : Int) := ⟨n1.toNat, by omega⟩
    exact ⟨x, y, rfl, by omega, by omega⟩
set_option maxRecDepth 100000 in
theorem u83_open {r : Reach} {b0 : Nat} {v : Value} {d : DataW H} {p : List MemPlace} (hv : Value.okWide Try.prog W r b0 70 v) (h : DataW.Trod enc Try.prog W base (fun _ => true) held 70 v d p) :
    ∃ a b c : Nat, v = .agg #[.int .u8 a, .int .u8 b, .int .u8 c] ∧ a ≤ 255 ∧ b ≤ 255 ∧ c ≤ 255 := by
  obtain ⟨cs, rfl, hsz⟩ := okWide_array Try.underlying70 hv
  obtain ⟨c0, c1, c2, rfl⟩ := Joins.array3 (hsz.trans (by kernel_rfl))
  obtain ⟨fuel, hf⟩ := h
  obtain ⟨xs, m, _, _, _, hl, hi⟩ := DataW.trod_array Try.underlying70 hf
  have hc : Try.prog.cellsOf 5 = 1 := by kernel_rfl
  have h0 := hi 0 (by omega)
  have h1 := hi 1 (by omega)
  have h2 := hi 2 (by omega)
  rw [hc] at h0 h1 h2
  match xs, hl with
  | [y0, y1, y2], _ =>
    simp [Value.cells] at h0 h1 h2
    obtain ⟨n0, e0, _, w0⟩ := DataW.trod_int Try.underlying5 h0
    obtain ⟨n1, e1, _, w1⟩ := DataW.trod_int Try.underlying5 h1
    obtain ⟨n2, e2, _, w2⟩ := DataW.trod_int Try.underlying5 h2
    simp only [List.cons.injEq, and_true] at e0 e1 e2
    subst e0 e1 e2
    obtain ⟨a0, a1⟩ := bounds_u8 w0
    obtain ⟨b0, b1⟩ := bounds_u8 w1
    obtain ⟨c0, c1⟩ := bounds_u8 w2
    obtain ⟨x, rfl⟩ : ∃ x : Nat, n0 = (x : Int) := ⟨n0.toNat, by omega⟩
    obtain ⟨y, rfl⟩ : ∃ x : Nat, n1 = (x : Int) := ⟨n1.toNat, by omega⟩
    obtain ⟨z, rfl⟩ : ∃ x : Nat, n2 = (x : Int) := ⟨n2.toNat, by omega⟩
    exact ⟨x, y, z, rfl, by omega, by omega, by omega⟩

theorem cells_in {k : IntKind} {a : Addr} {len cap : Nat} {zs : List Int} (hl : len ≤ cap) (hm : cap ≤ maxLen) (hz : zs.length = cap) (hc : ∀ i, i < cap → W.cell? (a.add i) = some (.int k (zs.getD i 0))) :
    ∃ ao c, Value.slice (some a) len cap = .slice ao (zs.take len).length c ∧ (zs.take len).length ≤ c ∧ (zs.take len).length ≤ maxLen ∧ (zs.take len ≠ [] → ∃ g o, ao = some ⟨g, o, none⟩ ∧ g < W.heap.size ∧ ∀ j, j < (zs.take len).length → W.cell? ⟨g, o + j, none⟩ = some (.int k ((zs.take len).getD j 0))) := by
  have hzl : (zs.take len).length = len := by rw [List.length_take]; omega
  refine ⟨some a, cap, by rw [hzl], by omega, by omega, fun hne => ?_⟩
  have h0 : 0 < len := by
    rcases Nat.eq_zero_or_pos len with e | e
    · exact absurd (List.length_eq_zero_iff.1 (hzl.trans e)) hne
    · exact e
  obtain ⟨b, off, spot⟩ := a
  have c0 := hc 0 (by omega)
  have hs : spot = none := by simpa [Addr.add] using World.cell?_spot c0
  subst hs
  refine ⟨b, off, rfl, ?_, fun j hj => ?_⟩
  · have := World.block_lt_of_cell? W _ c0
    simpa [Addr.add] using this
  · rw [hzl] at hj
    have ci := hc j (by omega)
    rw [show (⟨b, off, none⟩ : Addr).add j = ⟨b, off + j, none⟩ from by simp [Addr.add]] at ci
    rw [ci, List.getD_eq_getElem?_getD, List.getD_eq_getElem?_getD, List.getElem?_take, if_pos hj]
theorem wf_take {k : IntKind} {p : Int → Prop} {zs : List Int} (hw : ∀ n ∈ zs, (Lit.int k n).wf = true) (hp : ∀ n, (Lit.int k n).wf = true → p n) (h0 : p 0) (len j : Nat) : p ((zs.take len).getD j 0) := by
  rw [List.getD_eq_getElem?_getD]
  cases h : (zs.take len)[j]? with
  | none => exact h0
  | some n => exact hp _ (hw n (List.mem_of_mem_take (List.mem_of_getElem? h)))
set_option maxRecDepth 100000 in
theorem i8s_open {r : Reach} {b0 : Nat} {v : Value} {d : DataW H} {p : List MemPlace} (hv : Value.okWide Try.prog W r b0 64 v) (h : DataW.Trod enc Try.prog W base (fun _ => true) held 64 v d p) : ∃ xs, InI8 W v xs := by
  obtain ⟨a, len, cap, rfl⟩ := okWide_slice Try.underlying64 hv
  obtain ⟨fuel, hf⟩ := h
  rcases open_ints Try.underlying64 Try.underlying66 (by kernel_rfl) hf with ⟨hcs, _⟩ | ⟨a, len, cap, zs, hcs, _, hl, hm, hz, _, hcell, hw⟩
  · simp [Value.cells] at hcs
    obtain ⟨rfl, rfl, rfl⟩ := hcs
    exact ⟨[], ⟨none, 0, rfl, Nat.le_refl _, Nat.zero_le _, fun h => absurd rfl h⟩, fun j => by simp⟩
  · simp [Value.cells] at hcs
    obtain ⟨rfl, rfl, rfl⟩ := hcs
    simp only [if_true] at hz
    exact ⟨zs.take len, cells_in hl hm hz fun i hi => hcell i (by omega), fun j => wf_take hw (fun n h => bounds_i8 h) (by omega) len j⟩
theorem getD_map_toNat (l : List Int) (j : Nat) (h : 0 ≤ l.getD j 0) : (((l.map Int.toNat).getD j 0 : Nat) : Int) = l.getD j 0 := by
  rw [List.getD_eq_getElem?_getD] at h ⊢
  rw [List.getD_eq_getElem?_getD, List.getElem?_map]
  cases e : l[j]? with
  | none => simp
  | some x => rw [e] at h; simp at h ⊢; omega
set_option maxRecDepth 100000 in
theorem u16s_open {r : Reach} {b0 : Nat} {v : Value} {d : DataW H} {p : List MemPlace} (hv : Value.okWide Try.prog W r b0 59 v) (h : DataW.Trod enc Try.prog W base (fun _ => true) held 59 v d p) : ∃ xs, InNats .u16 65535 W v xs := by
  obtain ⟨a, len, cap, rfl⟩ := okWide_slice Try.underlying59 hv
  obtain ⟨fuel, hf⟩ := h
  rcases open_ints Try.underlying59 Try.underlying60 (by kernel_rfl) hf with ⟨hcs, _⟩ | ⟨a, len, cap, zs, hcs, _, hl, hm, hz, _, hcell, hw⟩
  · simp [Value.cells] at hcs
    obtain ⟨rfl, rfl, rfl⟩ := hcs
    exact ⟨[], ⟨none, 0, rfl, Nat.le_refl _, Nat.zero_le _, fun h => absurd rfl h⟩, fun j => by simp⟩
  · simp [Value.cells] at hcs
    obtain ⟨rfl, rfl, rfl⟩ := hcs
    simp only [if_true] at hz
    obtain ⟨ao, c, e, h1, h2, h3⟩ := cells_in (len := len) hl hm hz fun i hi => hcell i (by omega)
    have hb := fun j => wf_take hw (fun n h => bounds_u16 h) (by omega) len j
    refine ⟨(zs.take len).map Int.toNat, ⟨ao, c, by rw [List.length_map]; exact e, by rw [List.length_map]; exact h1, by rw [List.length_map]; exact h2, fun hne => ?_⟩, fun j => ?_⟩
    · obtain ⟨g, o, rfl, hg, hc⟩ := h3 (fun e => hne (by rw [e]; rfl))
      exact ⟨g, o, rfl, hg, fun j hj => by rw [getD_map_toNat _ _ (hb j).1]; exact hc j (by simpa using hj)⟩
    · have := getD_map_toNat (zs.take len) j (hb j).1
      have := (hb j).2
      omega
end
end Go.Proofs.Ytfobdlllghpelaa
