import Derived.Test.YtfobdlllghpelaaXq
import Derived.Test.YtfobdlllghpelaaP
import Derived.Deep.MidRow
import Derived.ChangeKeysEq
namespace Go.Proofs.Ytfobdlllghpelaa
open Go.RowKit Go.Shelf Pair

/-! ## A table of rows of eight numbers in one block -/
def rowV (ys : List Int) : List Value := ys.map (Value.int .i64)
def FRow (W : World) (B g N : Nat) (xs : List (List Int)) : Prop :=
  (xs.length = N ∧ 0 < N ∧ ∀ x ∈ xs, x.length = 8) ∧ (B ≤ g ∧ g < W.heap.size) ∧ (∀ S k, S < N → k < 8 → W.cell? ⟨g, S * 8 + k, none⟩ = some (.int .i64 ((xs.getD S zeroF).getD k 0))) ∧ ∀ j, W.frozen? ⟨g, j, none⟩ = false
theorem FRow.lt {W : World} {B g N : Nat} {xs : List (List Int)} (h : FRow W B g N xs) : B ≤ g ∧ g < W.heap.size := h.2.1
theorem FRow.base {W : World} {B B' g N : Nat} {xs : List (List Int)} (h : FRow W B g N xs) (hb : B' ≤ B) : FRow W B' g N xs := ⟨h.1, ⟨Nat.le_trans hb h.lt.1, h.lt.2⟩, h.2.2⟩
theorem FRow.keep {W W' : World} {B C g N : Nat} {xs : List (List Int)} (h : FRow W B g N xs) (hb : Below C W W') (hl : g < C) (hs : W.heap.size ≤ W'.heap.size) : FRow W' B g N xs :=
  ⟨h.1, ⟨h.lt.1, Nat.lt_of_lt_of_le h.lt.2 hs⟩, fun S k hS hk => (hb.cell (p := ⟨g, S * 8 + k, none⟩) hl).trans (h.2.2.1 S k hS hk), fun j => (hb.frozen (p := ⟨g, j, none⟩) hl).trans (h.2.2.2 j)⟩
theorem FRow.below {W W' : World} {B g N : Nat} {xs : List (List Int)} (h : FRow W B g N xs) (hb : Below W.heap.size W W') : FRow W' B g N xs := h.keep hb h.lt.2 hb.size
theorem FRow.kept {W W' : World} {B g N : Nat} {xs : List (List Int)} {row : Option Nat} (h : FRow W B g N xs) (hg : W.grownBy W' row) (hr : ∀ r, row = some r → ∃ o : Obj, W.heap[r]? = some o ∧ o.isCells = false) : FRow W' B g N xs := by
  have hcell := h.2.2.1 0 0 h.1.2.1 (by omega)
  have hne : some g ≠ row := fun e => by
    obtain ⟨o, ho, hk⟩ := hr g e.symm
    simp [World.cell?, ho] at hcell
    cases o <;> simp_all [Obj.isCells]
  exact ⟨h.1, ⟨h.lt.1, Nat.lt_of_lt_of_le h.lt.2 hg.size⟩, fun S k hS hk => cell_kept (h.2.2.1 S k hS hk) hg hr, fun j => (World.frozen?_of_block (a := ⟨g, j, none⟩) (hg.block g h.lt.2 hne)).trans (h.2.2.2 j)⟩
theorem FRow.other {W : World} {B g N b i : Nat} {u : Value} {xs : List (List Int)} (h : FRow W B g N xs) (hb : b ≠ g) : FRow (W.setCell ⟨b, i, none⟩ u) B g N xs :=
  ⟨h.1, ⟨h.lt.1, by simpa using h.lt.2⟩, fun S k hS hk => (World.cell?_setCell_other _ _ _ _ (by intro e; simp only [Addr.mk.injEq] at e; exact hb e.1)).trans (h.2.2.1 S k hS hk), fun j => by rw [World.frozen?_setCell]; exact h.2.2.2 j⟩
theorem FRow.len {W : World} {B g N : Nat} {xs : List (List Int)} (h : FRow W B g N xs) {S : Nat} (hS : S < N) : (xs.getD S zeroF).length = 8 := by
  have : S < xs.length := by rw [h.1.1]; exact hS
  rw [List.getD_eq_getElem?_getD, List.getElem?_eq_getElem this]
  exact h.1.2.2 _ (List.getElem_mem this)
theorem FRow.range {W : World} {B g N : Nat} {xs : List (List Int)} (h : FRow W B g N xs) {S : Nat} (hS : S < N) : W.rangeAt g (S * 8) (rowV (xs.getD S zeroF)) := fun j v hv => by
  obtain ⟨hj, rfl⟩ := List.getElem?_eq_some_iff.1 hv
  have hl := h.len hS
  simp only [rowV, List.length_map] at hj
  rw [h.2.2.1 S j hS (by omega)]
  rw [List.getD_eq_getElem?_getD (l := xs.getD S zeroF), List.getElem?_eq_getElem hj]
  simp [rowV]
theorem FRow.there {W : World} {B g N : Nat} {xs : List (List Int)} (h : FRow W B g N xs) {S : Nat} (hS : S < N) : W.there g (S * 8) 8 := fun j hj => ⟨by rw [h.2.2.1 S j hS hj]; rfl, h.2.2.2 _⟩
theorem arr8_eq (ys : List Int) : arr8 ys = .agg (rowV ys).toArray := rfl
theorem rowV_len (ys : List Int) : (rowV ys).length = ys.length := by simp [rowV]
theorem FRow.load {W : World} {B g N : Nat} {xs : List (List Int)} (h : FRow W B g N xs) {S : Nat} (hS : S < N) : (Instr.loadAt 79 (.pointer (some ⟨g, S * 8, none⟩))).run Try.prog W = .ok (arr8 (xs.getD S zeroF)) W :=
  run_loadAt_mid W g (S * 8) 79 (rowV (xs.getD S zeroF)) _ (h.range hS) Try.underlying79 rfl (by rw [rowV_len, h.len hS]; kernel_rfl)
theorem one_rowV (ys : List Int) : (rowV ys).toArray.all (·.oneCell') = true := all_oneCell_toArray (fun v hv => by
  simp only [rowV, List.mem_map] at hv
  obtain ⟨y, _, rfl⟩ := hv; rfl)
theorem FRow.storeRun {W : World} {B g N : Nat} {xs : List (List Int)} (h : FRow W B g N xs) {S : Nat} (hS : S < N) {ys : List Int} (hy : ys.length = 8) : (Instr.storeAt 79 (.pointer (some ⟨g, S * 8, none⟩)) (arr8 ys)).run Try.prog W = .ok () (W.setCells g (S * 8) (rowV ys)) := by
  have hl : (rowV ys).toArray.size = 8 := by simp [rowV, hy]
  exact run_storeAt_mid W g (S * 8) 79 (rowV ys).toArray (by rw [hl]; exact h.there hS) (by rw [hl]; kernel_rfl) (one_rowV ys)
theorem size_setCells (b : Nat) : ∀ (vs : List Value) (o : Nat) (w : World), (w.setCells b o vs).heap.size = w.heap.size
  | [], _, _ => rfl
  | v :: r, o, w => by rw [World.setCells, size_setCells b r]; simp
theorem FRow.set {W : World} {B g N : Nat} {xs : List (List Int)} (h : FRow W B g N xs) {S : Nat} (hS : S < N) {ys : List Int} (hy : ys.length = 8) : FRow (W.setCells g (S * 8) (rowV ys)) B g N (xs.set S ys) := by
  have hSx : S < xs.length := by rw [h.1.1]; exact hS
  refine ⟨⟨by rw [List.length_set]; exact h.1.1, h.1.2.1, fun x hx => ?_⟩, ⟨h.lt.1, by rw [size_setCells]; exact h.lt.2⟩, fun T k hT hk => ?_, fun j => by rw [World.frozen?_setCells]; exact h.2.2.2 j⟩
  · rcases List.mem_or_eq_of_mem_set hx with hx | rfl
    · exact h.1.2.2 x hx
    · exact hy
  · by_cases e : T = S
    · subst e
      rw [World.cell?_setCells_in g (rowV ys) (T * 8) W (fun i hi => by rw [h.2.2.1 T i hS (by simpa [rowV, hy] using hi)]; rfl) k (by rw [rowV_len, hy]; exact hk)]
      have hk' : k < ys.length := by omega
      simp [rowV, List.getD_eq_getElem?_getD, hSx, hk']
    · rw [World.cell?_setCells_out g (rowV ys) (S * 8) W ⟨g, T * 8 + k, none⟩ (fun _ _ => by
        rw [rowV_len, hy]
        show T * 8 + k < S * 8 ∨ S * 8 + 8 ≤ T * 8 + k
        omega), h.2.2.1 T k hT hk]
      simp [List.getD_eq_getElem?_getD, Ne.symm e]
/-- What a store of many cells into one block keeps. -/
theorem setCells_ind {Pr : World → Prop} {b : Nat} (hs : ∀ (W : World) (i : Nat) (u : Value), Pr W → Pr (W.setCell ⟨b, i, none⟩ u)) : ∀ (vs : List Value) (o : Nat) (W : World), Pr W → Pr (W.setCells b o vs)
  | [], _, _, h => h
  | v :: r, o, W, h => by rw [World.setCells]; exact setCells_ind hs r (o + 1) _ (hs W o v h)
theorem below_setCells {B g : Nat} {w W : World} (h : Below B w W) (hg : B ≤ g) (o : Nat) (vs : List Value) : Below B w (W.setCells g o vs) := setCells_ind (Pr := fun W => Below B w W) (fun _ _ _ h => below_set h hg) vs o W h
theorem KeepsOthers.setCells (W : World) (g o : Nat) (vs : List Value) : KeepsOthers W (W.setCells g o vs) :=
  setCells_ind (Pr := fun W' => KeepsOthers W W') (fun W' _ u h => h.trans (KeepsOthers.setCell W' _ u)) vs o W ⟨Nat.le_refl _, fun _ _ h _ => h⟩
theorem cell_setCells (W : World) (g o b i : Nat) (vs : List Value) (hb : b ≠ g) : (W.setCells g o vs).cell? ⟨b, i, none⟩ = W.cell? ⟨b, i, none⟩ :=
  World.cell?_setCells_out g vs o W ⟨b, i, none⟩ (fun e _ => absurd e hb)
theorem Fx.setCells {W : World} {s sw sc bm gm n N c g o : Nat} {ao : Option Addr} {fw fc : Value} (h : Fx W s sw sc bm gm n N ao c fw fc) (hl : s ≠ g ∧ sw ≠ g ∧ sc ≠ g ∧ bm ≠ g) (vs : List Value) : Fx (W.setCells g o vs) s sw sc bm gm n N ao c fw fc :=
  setCells_ind (Pr := fun W => Fx W s sw sc bm gm n N ao c fw fc) (fun _ _ _ h => h.set hl) vs o W h
theorem Marks.setCells {W : World} {B : Nat} {Ds : List Nat} (h : Marks W B Ds) (g o : Nat) (vs : List Value) : Marks (W.setCells g o vs) B Ds :=
  setCells_ind (Pr := fun W => Marks W B Ds) (fun _ _ _ h => h.set _ _) vs o W h

theorem info79 : (Try.prog.info? 79).map (fun i => (i.zero, i.size, i.bytes)) = some (some (arr8 zeroF), 8, 64) := by kernel_rfl
theorem made8 (N S k : Nat) (hS : S < N) (hk : k < 8) : (madeCells (arr8 zeroF).cells (N * 8))[S * 8 + k]? = some (.int .i64 0) := by
  have h : S * 8 + k < N * 8 := by omega
  have hz : ∀ i, i < 8 → (arr8 zeroF).cells[i]! = .int .i64 0 := fun i hi => by
    match i, hi with
    | 0, _ | 1, _ | 2, _ | 3, _ | 4, _ | 5, _ | 6, _ | 7, _ => rfl
  have hs : (arr8 zeroF).cells.size = 8 := rfl
  simp only [madeCells, hs]
  rw [Array.getElem?_map, Array.getElem?_range, if_pos h]
  simp only [Option.map_some]
  rw [hz _ (Nat.mod_lt _ (by omega))]
/-- make([]falling, n) at the model's operation. -/
theorem make_frow {ops : Array Oper} {rest : List Oper} {o : Oper} {a : Act} {Q : Exit → Act → World → Prop} {w : World} {B : Nat} {t : TypeId} (ht : Try.prog.underlying t = some (.slice 79))
    (n : Nat) (hn : 0 < n) (hC : n ≤ 1000000) (hB : B ≤ w.heap.size) (hg : o.guard = none) (l c : Operand) (hop : o.op = Op.makeSlice t l c)
    (hl : a.eval l = .int .i64 (n : Int)) (hc : a.eval c = .int .i64 (n : Int))
    (hK : ∀ w', FRow w' B w.heap.size n (List.replicate n zeroF) → Below B w w' → w'.heap.size = w.heap.size + 1 → wpList Try.prog ops Q rest (a.put o.dst (.slice (some ⟨w.heap.size, 0, none⟩) n n)) w') :
    wpList Try.prog ops Q (o :: rest) a w := by
  obtain ⟨i0, hi, hz0, hz1, hz2⟩ := info_parts info79
  refine wpList_plain hg fun K hK' => ?_
  have hr := run_make (P := Try.prog) w t 79 i0 (arr8 zeroF) ht hi hz0 .i64 .i64 (n : Int) (n : Int) (by omega) (by omega) (by rw [hz2]; omega) (by omega)
  simp only [Int.toNat_natCast, hz1] at hr
  unfold Oper.wp
  simp [execOp, hop, hl, hc, hr, Result.andThen]
  refine hK' _ _ (hK _ ⟨⟨by simp, hn, fun x hx => ?_⟩, ⟨hB, by simp⟩, fun S k hS hk => ?_, fun j => ?_⟩ ((Below.refl _ _).alloc hB _) (by simp))
  · rw [List.eq_of_mem_replicate hx]; rfl
  · rw [World.cell?_alloc_at (hn := rfl), made8 n S k hS hk]
    simp [List.getD_eq_getElem?_getD, hS]
    exact (zeros_at k).symm
  · exact frozen_of_row _ _ j _ 79 (World.alloc_heap_new w _)
/-- Two values of eight numbers are compared. -/
theorem eq79 {xs ys : List Int} (hx : xs.length = 8) (hy : ys.length = 8) (w : World) : (Op.equalIn 10000 79 (arr8 xs) (arr8 ys)).run Try.prog w = .ok (decide (xs = ys)) w := by
  obtain ⟨a0, a1, a2, a3, a4, a5, a6, a7, rfl⟩ := eight hx
  obtain ⟨b0, b1, b2, b3, b4, b5, b6, b7, rfl⟩ := eight hy
  have un3 := Try.underlying3
  have ag3 := Try.isAgg3
  have sz3 := Try.sizeOf3
  obtain ⟨i3, hi, hz0, hz1, hz2⟩ := info_parts info3
  rw [show (10000 : Nat) = 9999 + 1 from rfl, arr8_eq, arr8_eq, run_equalIn_array w 9999 _ _ Try.underlying79 hi]
  rw [show Try.prog.cellsOf 3 = 1 by kernel_rfl]
  simp only [rowV, List.map_cons, List.map_nil, List.range_succ, List.range_zero, List.nil_append, List.cons_append, Op.eqItems, part]
  go_simp
  by_cases h0 : a0 = b0 <;> simp [h0]
  by_cases h1 : a1 = b1 <;> simp [h1]
  by_cases h2 : a2 = b2 <;> simp [h2]
  by_cases h3 : a3 = b3 <;> simp [h3]
  by_cases h4 : a4 = b4 <;> simp [h4]
  by_cases h5 : a5 = b5 <;> simp [h5]
  by_cases h6 : a6 = b6 <;> simp [h6]
  by_cases h7 : a7 = b7 <;> simp [h7]
end Go.Proofs.Ytfobdlllghpelaa
