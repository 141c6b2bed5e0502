import Derived.Test.YtfobdlllghpelaaH
import Derived.Deep.RegionWith
import Derived.Deep.RegionHeld3
import Derived.Deep.CutRange
namespace Go.Proofs.Ytfobdlllghpelaa
open Go.RowKit Go.Shelf Pair

theorem make_eq (W : World) (n : Nat) (hC : n ≤ 1000000) : Sem.run Try.prog (Instr.makeSlice 24 (.int .i64 (n : Int)) (.int .i64 (n : Int))) W = .ok (.slice (some ⟨W.heap.size, 0, none⟩) n n) (W.alloc (.cells (madeCells #[.int .i64 0] n) 3)) := by
  obtain ⟨i0, hi, hz0, hz1, hz2⟩ := info_parts info3
  have hr := run_make (P := Try.prog) W 24 3 i0 (.int .i64 0) Try.underlying24 hi hz0 .i64 .i64 (n : Int) (n : Int) (by omega) (by omega) (by rw [hz2]; omega) (by omega)
  simp only [Int.toNat_natCast, hz1, Nat.mul_one] at hr
  exact hr
theorem made_row {W W' : World} {B n : Nat} (hC : n ≤ 1000000) (hB : B ≤ W.heap.size) (h : W' = W.alloc (.cells (madeCells #[.int .i64 0] n) 3)) : Row W' B W.heap.size n (List.replicate n 0) := by
  subst h
  refine ⟨⟨by simp, .inr ⟨W.heap.size, n, _, rfl, hB, heap_alloc_new W _, Nat.le_refl _, by unfold maxLen; omega, by simp [size_madeCells], ?_⟩⟩, by simp⟩
  show (madeCells #[Value.int .i64 0] n).toList.take (n * 1) = _
  rw [toList_madeCells_one, Nat.mul_one, List.take_replicate, Nat.min_self, List.map_replicate]
theorem pow_tab : ∀ n : Nat, n ≤ 8 → IntKind.i64.wrap ((2 : Int) ^ n) = ((2 ^ n : Nat) : Int) := by decide +kernel
theorem pow_le : ∀ n : Nat, n ≤ 8 → 2 ^ n ≤ 256 := by decide +kernel
theorem pow_ge : ∀ n : Nat, 1 ≤ n → n ≤ 8 → 2 ≤ 2 ^ n := by
  intro n h1 _
  exact Nat.le_trans (show 2 ≤ 2 ^ 1 by decide) (Nat.pow_le_pow_right (by decide) h1)
theorem own_set_other {w : World} {B g i sz n : Nat} {e : TypeId} {v u : Value} {xs : List Value} (h : w.ownsRow B e sz v n xs) (hg : v.ownBlock ≠ some g) : (w.setCell ⟨g, i, none⟩ u).ownsRow B e sz v n xs := by
  refine ⟨h.1, ?_⟩
  rcases h.2 with hn | ⟨b, cap, cur, rfl, hB, hb, rest⟩
  · exact .inl hn
  · exact .inr ⟨b, cap, cur, rfl, hB, by rw [heap_setCell_other w ⟨g, i, none⟩ b _ (fun e => hg (by show some b = some g; rw [e]))]; exact hb, rest⟩
theorem SRow.other {w : World} {B g n b i : Nat} {xs : List Nat} {u : Value} (h : SRow w B g n xs) (hb : b ≠ g) : SRow (w.setCell ⟨b, i, none⟩ u) B g n xs :=
  ⟨own_set_other h.1 (fun e => hb (by simpa [Value.ownBlock] using e.symm)), h.2⟩
theorem Row.other {w : World} {B g n b i : Nat} {xs : List Int} {u : Value} (h : Row w B g n xs) (hb : b ≠ g) : Row (w.setCell ⟨b, i, none⟩ u) B g n xs :=
  ⟨own_set_other h.1 (fun e => hb (by simpa [Value.ownBlock] using e.symm)), h.2⟩
/-- The box of a listing, and its two rows. -/
def Lst (w : World) (B b gA gC n N : Nat) (al : List Nat) (cs : List Int) : Prop :=
  (w.cell? ⟨b, 0, none⟩ = some (.slice (some ⟨gA, 0, none⟩) n n) ∧ w.cell? ⟨b, 1, none⟩ = some (.slice (some ⟨gC, 0, none⟩) N N)) ∧ SRow w B gA n al ∧ Row w B gC N cs ∧ gA ≠ gC ∧ b ≠ gC ∧ B ≤ b ∧ b < w.heap.size
theorem Lst.cell0 {w : World} {B b gA gC n N : Nat} {al : List Nat} {cs : List Int} (h : Lst w B b gA gC n N al cs) : w.cell? ⟨b, 0, none⟩ = some (.slice (some ⟨gA, 0, none⟩) n n) := h.1.1
theorem Lst.cell1 {w : World} {B b gA gC n N : Nat} {al : List Nat} {cs : List Int} (h : Lst w B b gA gC n N al cs) : w.cell? ⟨b, 1, none⟩ = some (.slice (some ⟨gC, 0, none⟩) N N) := h.1.2
theorem Lst.below {w w' : World} {B b gA gC n N : Nat} {al : List Nat} {cs : List Int} (h : Lst w B b gA gC n N al cs) (hb : Below w.heap.size w w') : Lst w' B b gA gC n N al cs :=
  ⟨⟨(hb.cell (p := ⟨b, 0, none⟩) h.2.2.2.2.2.2).trans h.1.1, (hb.cell (p := ⟨b, 1, none⟩) h.2.2.2.2.2.2).trans h.1.2⟩, h.2.1.below hb, h.2.2.1.below hb, h.2.2.2.1, h.2.2.2.2.1, h.2.2.2.2.2.1, Nat.lt_of_lt_of_le h.2.2.2.2.2.2 hb.size⟩
theorem Lst.set {w : World} {B b gA gC n N : Nat} {al : List Nat} {cs : List Int} (h : Lst w B b gA gC n N al cs) (j : Nat) (y : Int) : Lst (w.setCell ⟨gC, j, none⟩ (.int .i64 y)) B b gA gC n N al (cs.set j y) :=
  ⟨⟨(World.cell?_setCell_other _ _ _ _ (by intro e; simp only [Addr.mk.injEq] at e; exact h.2.2.2.2.1 e.1.symm)).trans h.1.1, (World.cell?_setCell_other _ _ _ _ (by intro e; simp only [Addr.mk.injEq] at e; exact h.2.2.2.2.1 e.1.symm)).trans h.1.2⟩,
    h.2.1.other h.2.2.2.1.symm, h.2.2.1.set j y, h.2.2.2.1, h.2.2.2.2.1, h.2.2.2.2.2.1, by simpa using h.2.2.2.2.2.2⟩
theorem made_row' {W W' : World} {B n g : Nat} (h : W' = W.alloc (.cells (madeCells #[.int .i64 0] n) 3)) (hC : n ≤ 1000000) (hB : B ≤ W.heap.size) (hg : g = W.heap.size) : Row W' B g n (List.replicate n 0) := by
  subst hg; exact made_row hC hB h


abbrev mk0 (N : Nat) : Obj := .cells (madeCells #[Value.int .i64 0] N) 3
abbrev box2 (gA gC n N : Nat) : Obj := .cells #[.slice (some ⟨gA, 0, none⟩) n n, .slice (some ⟨gC, 0, none⟩) N N] 98
abbrev box0 : Obj := .cells #[.slice none 0 0, .slice none 0 0] 98
def LstAt (w1 X : World) (B n N : Nat) (al : List Nat) (cs : List Int) (p : Value) : Prop := ∃ b gA gC, p = .pointer (some ⟨b, 0, none⟩) ∧ Hid (Lst X B b gA gC n N al cs) ∧ Hid (Below B w1 X)
theorem box2_cells (W : World) (gA gC n N : Nat) : (W.alloc (box2 gA gC n N)).cell? ⟨W.heap.size, 0, none⟩ = some (.slice (some ⟨gA, 0, none⟩) n n) ∧ (W.alloc (box2 gA gC n N)).cell? ⟨W.heap.size, 1, none⟩ = some (.slice (some ⟨gC, 0, none⟩) N N) := by
  constructor <;> (rw [World.cell?_alloc_at (hn := rfl)]; rfl)
theorem set2_cells {X : World} {b : Nat} {u v u0 v0 : Value} (h0 : X.cell? ⟨b, 0, none⟩ = some u0) (h1 : X.cell? ⟨b, 1, none⟩ = some v0) :
    ((X.setCell ⟨b, 0, none⟩ u).setCell ⟨b, 1, none⟩ v).cell? ⟨b, 0, none⟩ = some u ∧ ((X.setCell ⟨b, 0, none⟩ u).setCell ⟨b, 1, none⟩ v).cell? ⟨b, 1, none⟩ = some v := by
  constructor
  · rw [World.cell?_setCell_other _ _ _ _ (by intro e; simp at e)]
    exact World.cell?_setCell_same' _ _ _ (by rw [h0]; rfl)
  · refine World.cell?_setCell_same' _ _ _ ?_
    rw [World.cell?_setCell_other _ _ _ _ (by intro e; simp at e), h1]; rfl
theorem box0_cells (W : World) : (W.alloc box0).cell? ⟨W.heap.size, 0, none⟩ = some (.slice none 0 0) ∧ (W.alloc box0).cell? ⟨W.heap.size, 1, none⟩ = some (.slice none 0 0) := by
  constructor <;> (rw [World.cell?_alloc_at (hn := rfl)]; rfl)
theorem Lst.kept {w w' : World} {B b gA gC n N : Nat} {al : List Nat} {cs : List Int} {row : Option Nat} (h : Lst w B b gA gC n N al cs) (hg : w.grownBy w' row) (hr : ∀ r, row = some r → ∃ o : Obj, w.heap[r]? = some o ∧ o.isCells = false) : Lst w' B b gA gC n N al cs :=
  ⟨⟨cell_kept h.1.1 hg hr, cell_kept h.1.2 hg hr⟩, h.2.1.kept hg hr, h.2.2.1.kept hg hr, h.2.2.2.1, h.2.2.2.2.1, h.2.2.2.2.2.1, Nat.lt_of_lt_of_le h.2.2.2.2.2.2 hg.size⟩
theorem mk_row (W : World) {B N : Nat} (hC : N ≤ 1000000) (hB : B ≤ W.heap.size) : Row (W.alloc (mk0 N)) B W.heap.size N (List.replicate N 0) := made_row hC hB rfl

section
variable {w1 wA : World} {B gA n N : Nat} {al : List Nat}
theorem fin1 (hB : B = w1.heap.size) (hN : N ≤ 1000000) (hA : SRow wA w1.drew.heap.size gA n al) (hb : Below w1.drew.heap.size w1.drew wA) :
    LstAt w1 ((wA.alloc (mk0 N)).alloc (box2 gA wA.heap.size n N)) B n N al (List.replicate N 0) (.pointer (some ⟨wA.heap.size + 1, 0, none⟩)) := by
  have hs := hb.size
  have hl := hA.lt
  simp at hs hl
  have hc := box2_cells (wA.alloc (mk0 N)) gA wA.heap.size n N
  simp only [World.size_alloc] at hc
  refine ⟨_, gA, wA.heap.size, rfl, Lib.hid ⟨hc, ?_, ?_, by omega, by omega, by omega, by simp⟩, Lib.hid ?_⟩
  · exact ((hA.below (below_alloc1 _ _)).below (below_alloc1 _ _)).base (by simp; omega)
  · exact (mk_row wA hN (by omega)).below (below_alloc1 _ _)
  · subst hB
    exact (((Below.refl _ _).drew.trans (hb.mono (by simp))).alloc (by omega) _).alloc (by simp; omega) _
theorem fin2 (hB : B = w1.heap.size) (hN : N ≤ 1000000) (hA : SRow wA w1.drew.heap.size gA n al) (hb : Below w1.drew.heap.size w1.drew wA) :
    LstAt w1 ((wA.alloc (box2 gA (wA.heap.size + 1) n N)).alloc (mk0 N)) B n N al (List.replicate N 0) (.pointer (some ⟨wA.heap.size, 0, none⟩)) := by
  have hs := hb.size
  have hl := hA.lt
  simp at hs hl
  have hc := box2_cells wA gA (wA.heap.size + 1) n N
  have hb2 := below_alloc1 (wA.alloc (box2 gA (wA.heap.size + 1) n N)) (mk0 N)
  have hr := mk_row (B := B) (wA.alloc (box2 gA (wA.heap.size + 1) n N)) hN (by simp; omega)
  simp only [World.size_alloc] at hr
  refine ⟨_, gA, wA.heap.size + 1, rfl, Lib.hid ⟨⟨(hb2.cell (p := ⟨_, 0, none⟩) (by simp)).trans hc.1, (hb2.cell (p := ⟨_, 1, none⟩) (by simp)).trans hc.2⟩, ?_, hr, by omega, by omega, by omega, by simp; omega⟩, Lib.hid ?_⟩
  · exact ((hA.below (below_alloc1 _ _)).below (below_alloc1 _ _)).base (by simp; omega)
  · subst hB
    exact (((Below.refl _ _).drew.trans (hb.mono (by simp))).alloc (by omega) _).alloc (by simp; omega) _
theorem fin3 (hB : B = w1.heap.size) (hN : N ≤ 1000000) (hA : SRow wA (w1.alloc (mk0 N)).drew.heap.size gA n al) (hb : Below (w1.alloc (mk0 N)).drew.heap.size (w1.alloc (mk0 N)).drew wA) :
    LstAt w1 (wA.alloc (box2 gA w1.heap.size n N)) B n N al (List.replicate N 0) (.pointer (some ⟨wA.heap.size, 0, none⟩)) := by
  have hs := hb.size
  have hl := hA.lt
  simp at hs hl
  refine ⟨_, gA, w1.heap.size, rfl, Lib.hid ⟨box2_cells wA gA w1.heap.size n N, ?_, ?_, by omega, by omega, by omega, by simp⟩, Lib.hid ?_⟩
  · exact (hA.below (below_alloc1 _ _)).base (by simp; omega)
  · exact (((mk_row w1 hN (by omega)).below (Below.refl _ _).drew).below hb).below (below_alloc1 _ _)
  · subst hB
    exact ((((Below.refl _ _).alloc (Nat.le_refl _) _).drew.trans (hb.mono (by simp)))).alloc (by omega) _
theorem fin4 (hB : B = w1.heap.size) (hN : N ≤ 1000000) (hA : SRow wA ((w1.alloc (mk0 N)).alloc box0).drew.heap.size gA n al) (hb : Below ((w1.alloc (mk0 N)).alloc box0).drew.heap.size ((w1.alloc (mk0 N)).alloc box0).drew wA) :
    LstAt w1 ((wA.setCell ⟨w1.heap.size + 1, 0, none⟩ (.slice (some ⟨gA, 0, none⟩) n n)).setCell ⟨w1.heap.size + 1, 1, none⟩ (.slice (some ⟨w1.heap.size, 0, none⟩) N N)) B n N al (List.replicate N 0) (.pointer (some ⟨w1.heap.size + 1, 0, none⟩)) := by
  have hs := hb.size
  have hl := hA.lt
  have hc := box0_cells (w1.alloc (mk0 N))
  have c0 := hb.cell (p := ⟨w1.heap.size + 1, 0, none⟩) (by simp)
  have c1 := hb.cell (p := ⟨w1.heap.size + 1, 1, none⟩) (by simp)
  simp at hs hl
  simp only [World.size_alloc] at hc
  refine ⟨_, gA, w1.heap.size, rfl, Lib.hid ⟨set2_cells (c0.trans hc.1) (c1.trans hc.2), ?_, ?_, by omega, by omega, by omega, by simp; omega⟩, Lib.hid ?_⟩
  · exact ((hA.base (by simp; omega)).other (by omega)).other (by omega)
  · exact (((((mk_row w1 hN (by omega)).below (below_alloc1 _ _)).below (Below.refl _ _).drew).below hb).other (by omega)).other (by omega)
  · subst hB
    exact below_set (below_set ((((Below.refl _ _).alloc (Nat.le_refl _) _).alloc (by simp) _).drew.trans (hb.mono (by simp; omega))) (by omega)) (by omega)
theorem fin5 (hB : B = w1.heap.size) (hN : N ≤ 1000000) (hA : SRow wA (w1.alloc box0).drew.heap.size gA n al) (hb : Below (w1.alloc box0).drew.heap.size (w1.alloc box0).drew wA) :
    LstAt w1 (((wA.setCell ⟨w1.heap.size, 0, none⟩ (.slice (some ⟨gA, 0, none⟩) n n)).setCell ⟨w1.heap.size, 1, none⟩ (.slice (some ⟨wA.heap.size, 0, none⟩) N N)).alloc (mk0 N)) B n N al (List.replicate N 0) (.pointer (some ⟨w1.heap.size, 0, none⟩)) := by
  have hs := hb.size
  have hl := hA.lt
  have hc := box0_cells w1
  have c0 := hb.cell (p := ⟨w1.heap.size, 0, none⟩) (by simp)
  have c1 := hb.cell (p := ⟨w1.heap.size, 1, none⟩) (by simp)
  simp at hs hl
  obtain ⟨X, hX⟩ : ∃ X, X = (wA.setCell ⟨w1.heap.size, 0, none⟩ (.slice (some ⟨gA, 0, none⟩) n n)).setCell ⟨w1.heap.size, 1, none⟩ (.slice (some ⟨wA.heap.size, 0, none⟩) N N) := ⟨_, rfl⟩
  have hXs : X.heap.size = wA.heap.size := by rw [hX]; simp
  have hd := set2_cells (u := .slice (some ⟨gA, 0, none⟩) n n) (v := .slice (some ⟨wA.heap.size, 0, none⟩) N N) (c0.trans hc.1) (c1.trans hc.2)
  have hA2 : SRow X B gA n al := by rw [hX]; exact ((hA.base (by simp; omega)).other (by omega)).other (by omega)
  have hbX : Below B w1 X := by
    rw [hX]; subst hB
    exact below_set (below_set (((Below.refl _ _).alloc (Nat.le_refl _) _).drew.trans (hb.mono (by simp))) (by omega)) (by omega)
  rw [← hX] at hd ⊢
  have hb2 := below_alloc1 X (mk0 N)
  have hr := mk_row (B := B) X hN (by omega)
  rw [hXs] at hr hb2
  refine ⟨_, gA, wA.heap.size, rfl, Lib.hid ⟨⟨(hb2.cell (p := ⟨_, 0, none⟩) (by simp; omega)).trans hd.1, (hb2.cell (p := ⟨_, 1, none⟩) (by simp; omega)).trans hd.2⟩, hA2.below (below_alloc1 _ _), hr, by omega, by omega, by omega, by simp; omega⟩, Lib.hid (hbX.alloc (by omega) _)⟩
theorem fin6 (hB : B = w1.heap.size) (hN : N ≤ 1000000) (hA : SRow wA ((w1.alloc box0).alloc (mk0 N)).drew.heap.size gA n al) (hb : Below ((w1.alloc box0).alloc (mk0 N)).drew.heap.size ((w1.alloc box0).alloc (mk0 N)).drew wA) :
    LstAt w1 ((wA.setCell ⟨w1.heap.size, 0, none⟩ (.slice (some ⟨gA, 0, none⟩) n n)).setCell ⟨w1.heap.size, 1, none⟩ (.slice (some ⟨w1.heap.size + 1, 0, none⟩) N N)) B n N al (List.replicate N 0) (.pointer (some ⟨w1.heap.size, 0, none⟩)) := by
  have hs := hb.size
  have hl := hA.lt
  have hc := box0_cells w1
  have hb2 := below_alloc1 (w1.alloc box0) (mk0 N)
  have c0 := (hb.cell (p := ⟨w1.heap.size, 0, none⟩) (by simp; omega)).trans ((hb2.cell (p := ⟨w1.heap.size, 0, none⟩) (by simp)).trans hc.1)
  have c1 := (hb.cell (p := ⟨w1.heap.size, 1, none⟩) (by simp; omega)).trans ((hb2.cell (p := ⟨w1.heap.size, 1, none⟩) (by simp)).trans hc.2)
  have hr := mk_row (B := B) (w1.alloc box0) hN (by simp; omega)
  simp only [World.size_alloc] at hr
  simp at hs hl
  refine ⟨_, gA, w1.heap.size + 1, rfl, Lib.hid ⟨set2_cells c0 c1, ?_, ?_, by omega, by omega, by omega, by simp; omega⟩, Lib.hid ?_⟩
  · exact ((hA.base (by simp; omega)).other (by omega)).other (by omega)
  · exact ((((hr.below (Below.refl _ _).drew)).below hb).other (by omega)).other (by omega)
  · subst hB
    exact below_set (below_set ((((Below.refl _ _).alloc (Nat.le_refl _) _).alloc (by simp) _).drew.trans (hb.mono (by simp; omega))) (by omega)) (by omega)
end
end Go.Proofs.Ytfobdlllghpelaa
