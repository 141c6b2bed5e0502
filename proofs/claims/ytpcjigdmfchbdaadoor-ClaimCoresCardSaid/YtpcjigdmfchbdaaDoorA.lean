import Derived.Test.YtpcjigdmfchbdaaDoorProg
import Derived.WalkKit
import Derived.WalkLawsBesides
import Derived.WalkSpells
import Derived.Lib.Hide
import Derived.Deep.QuietTactic
import Derived.BigQuiet
import Derived.Outline
import Derived.Lib.Strings
import Derived.IntWalk
import Derived.Laws.AppendOwnNone
import Derived.Maps.AppendAt
import Derived.StillTailTactics
import Derived.Lib.SliceRun
import Derived.Deep.RegionLaw
import Derived.Deep.RegionHeld3
import Derived.Deep.MidRow
namespace Go.Proofs.YtpcjigdmfchbdaaDoor
open Go.RowKit
theorem own_below {B : Nat} {e : TypeId} {sz n : Nat} {v : Value} {xs : List Value} {w w' : World} (h : w.ownsRow B e sz v n xs) (hb : Below w.heap.size w w') : w'.ownsRow B e sz v n xs := by
  refine ⟨h.1, ?_⟩
  rcases h.2 with hn | ⟨g, cap, cur, rfl, hB, hg, rest⟩
  · exact .inl hn
  · refine .inr ⟨g, cap, cur, rfl, hB, ?_, rest⟩
    rw [hb.block g (Array.getElem?_eq_some_iff.1 hg).1]
    exact hg
theorem below_seq {w w1 w2 : World} {B : Nat} (h : Below B w w1) (k : Below w1.heap.size w1 w2) (hB : B ≤ w.heap.size) : Below B w w2 :=
  h.trans (k.mono (Nat.le_trans hB h.size))
theorem below_call {w w1 : World} (h : Below w.heap.size w w1) {w2 : World} (k : Below w1.heap.size w1 w2) : Below w.heap.size w w2 := below_seq h k (Nat.le_refl _)
theorem own_base {B B' : Nat} {e : TypeId} {sz n : Nat} {v : Value} {xs : List Value} {w : World} (h : w.ownsRow B e sz v n xs) (hb : B' ≤ B) : w.ownsRow B' e sz v n xs := by
  refine ⟨h.1, ?_⟩
  rcases h.2 with hn | ⟨g, cap, cur, rfl, hB, rest⟩
  · exact .inl hn
  · exact .inr ⟨g, cap, cur, rfl, Nat.le_trans hb hB, rest⟩
/-- `v` holds the ints `xs` in memory that was made after block `B`. -/
def Ints (w : World) (B : Nat) (v : Value) (xs : List Int) : Prop := w.ownsRow B 3 1 v xs.length (xs.map (Value.int .i64))
theorem Ints.below {B : Nat} {v : Value} {xs : List Int} {w w' : World} (h : Ints w B v xs) (hb : Below w.heap.size w w') : Ints w' B v xs := own_below h hb
theorem Ints.base {B B' : Nat} {v : Value} {xs : List Int} {w : World} (h : Ints w B v xs) (hb : B' ≤ B) : Ints w B' v xs := own_base h hb
theorem Ints.nil (w : World) (B : Nat) : Ints w B (.slice none 0 0) [] := World.ownsRow_nil _ _ _ _
/-- `v` reads as the ints `xs`. -/
def Reads (w : World) (v : Value) (xs : List Int) : Prop := ∃ ao c, v = .slice ao xs.length c ∧ xs.length ≤ c ∧ (xs ≠ [] → ∃ g o, ao = some ⟨g, o, none⟩ ∧ g < w.heap.size ∧ ∀ j, j < xs.length → w.cell? ⟨g, o + j, none⟩ = some (.int .i64 (xs.getD j 0)))
theorem Reads.below {w w' : World} {v : Value} {xs : List Int} (h : Reads w v xs) (hb : Below w.heap.size w w') : Reads w' v xs := by
  obtain ⟨ao, c, rfl, hc, h⟩ := h
  refine ⟨ao, c, rfl, hc, fun hne => ?_⟩
  obtain ⟨g, o, rfl, hg, hc⟩ := h hne
  exact ⟨g, o, rfl, Nat.lt_of_lt_of_le hg hb.size, fun j hj => (hb.cell (p := ⟨g, o + j, none⟩) hg).trans (hc j hj)⟩
theorem Ints.shape {w : World} {B : Nat} {v : Value} {xs : List Int} (h : Ints w B v xs) : Reads w v xs := by
  have hh := h
  rcases h.2 with ⟨rfl, h0⟩ | ⟨g, cap, cur, rfl, hB, hg, hn, _⟩
  · refine ⟨none, 0, by rw [h0], by omega, fun hne => absurd (List.length_eq_zero_iff.1 h0) hne⟩
  · refine ⟨_, cap, rfl, hn, fun _ => ⟨g, 0, rfl, (Array.getElem?_eq_some_iff.1 hg).1, fun j hj => ?_⟩⟩
    rw [show 0 + j = j from by omega, hh.cellAt j (by omega)]
    simp [List.getD_eq_getElem?_getD, hj]
theorem Reads.len {w : World} {v : Value} {xs : List Int} (h : Reads w v xs) : ∃ ao c, v = .slice ao xs.length c ∧ xs.length ≤ c := by
  obtain ⟨ao, c, e, hc, _⟩ := h; exact ⟨ao, c, e, hc⟩
/-- `v` reads as the rows of ints `xss`. -/
def ReadsG (w : World) (v : Value) (xss : List (List Int)) : Prop := ∃ ao c, v = .slice ao xss.length c ∧ xss.length ≤ c ∧ (xss ≠ [] → ∃ g o, ao = some ⟨g, o, none⟩ ∧ g < w.heap.size ∧ ∀ j, j < xss.length → ∃ u, w.cell? ⟨g, o + j, none⟩ = some u ∧ Reads w u (xss.getD j []))
theorem ReadsG.below {w w' : World} {v : Value} {xss : List (List Int)} (h : ReadsG w v xss) (hb : Below w.heap.size w w') : ReadsG w' v xss := by
  obtain ⟨ao, c, rfl, hc, h⟩ := h
  refine ⟨ao, c, rfl, hc, fun hne => ?_⟩
  obtain ⟨g, o, rfl, hg, hc⟩ := h hne
  refine ⟨g, o, rfl, Nat.lt_of_lt_of_le hg hb.size, fun j hj => ?_⟩
  obtain ⟨u, h1, h2⟩ := hc j hj
  exact ⟨u, (hb.cell (p := ⟨g, o + j, none⟩) hg).trans h1, h2.below hb⟩
theorem info3 : (Tryd.prog.info? 3).map (fun i => (i.zero, i.size, i.bytes)) = some (some (.int .i64 0), 1, 8) := by kernel_rfl
theorem info24 : (Tryd.prog.info? 24).map (fun i => (i.zero, i.size, i.bytes)) = some (some (.slice none 0 0), 1, 24) := by kernel_rfl
/-- append(s, y) of one int, at the model's operation. -/
theorem app_int {ops : Array Oper} {rest : List Oper} {o : Oper} {a : Act} {Q : Exit → Act → World → Prop} {w : World} {B : Nat} {v : Value} {xs : List Int} {y : Int}
    (hown : Ints w B v xs) (hlen : xs.length ≤ 1000000000) (hB : B ≤ w.heap.size) (hgd : o.guard = none) (s x : Operand)
    (ho : o.op = .call { callee := .builtin .append, args := #[s, x], argTypes := #[24, 24] }) (hs : a.eval s = v) (hx : a.eval x = .slice (some ⟨w.heap.size, 0, none⟩) 1 1)
    (h : ∀ v' w', Ints w' B v' (xs ++ [y]) → Below B w w' → wpList Tryd.prog ops Q rest (a.put o.dst v') w') : wpList Tryd.prog ops Q (o :: rest) a (w.alloc (.cells #[.int .i64 y] 3)) := by
  obtain ⟨i0, hi, hz0, hz1, hz2⟩ := info_parts info3
  refine wpList_append_own _ hgd s x 24 ho B 3 i0 (.int .i64 0) 1 8 Tryd.underlying24 hi hz0 hz1 hz2 rfl (by decide) v xs.length (xs.map (Value.int .i64)) hs (World.ownsRow.alloc hown _) ⟨w.heap.size, 0, none⟩ 1 1 [.int .i64 y] hx rfl ?_ ?_ ?_ ?_ ?_ ?_
  · exact cell_one_new _ _ _
  · intro u hu; simp at hu; subst hu; rfl
  · unfold maxLen; omega
  · omega
  · simp; omega
  · intro v' w' h2 h3 _
    refine h v' w' ?_ ?_
    · unfold Ints; simpa using h2
    · exact ((Below.refl B w).alloc hB _).grown h3 (by simp; omega) (fun k hk => (World.ownsRow.lt hown k hk).1)
theorem ret_i {k : IntKind} {a b : Int} (h : a = b) : Ending.returned (.int k a) = .returned (.int k b) := by rw [h]
theorem ret_b {a b : Bool} (h : a = b) : Ending.returned (.bool a) = .returned (.bool b) := by rw [h]
theorem int_eq {k : IntKind} {a b : Int} (h : a = b) : Value.int k a = .int k b := by rw [h]
def Made (w : World) (xs : List Int) (e : Ending) (w' : World) : Prop := ∃ v, e = .returned v ∧ Ints w' w.heap.size v xs ∧ Below w.heap.size w w'
def MadeE (w : World) (xs : List Int) (err : Int) (e : Ending) (w' : World) : Prop := ∃ v, e = .returned (.tuple #[v, .int .i64 err]) ∧ Ints w' w.heap.size v xs ∧ Below w.heap.size w w'
theorem Ints.lit (w : World) (B : Nat) (hB : B ≤ w.heap.size) : Ints (w.alloc (.cells #[] 3)) B (.slice (some ⟨w.heap.size, 0, none⟩) 0 0) [] :=
  World.ownsRow_made w #[] 0 hB (by unfold maxLen; omega) (by simp)
theorem drop_cons (xs : List Int) (k : Nat) (h : k < xs.length) : xs.drop k = xs.getD k 0 :: xs.drop (k + 1) := by
  rw [List.drop_eq_getElem_cons h]; congr 1; simp [List.getD_eq_getElem?_getD, h]
theorem drop_consG (xs : List (List Int)) (k : Nat) (h : k < xs.length) : xs.drop k = xs.getD k [] :: xs.drop (k + 1) := by
  rw [List.drop_eq_getElem_cons h]; congr 1; simp [List.getD_eq_getElem?_getD, h]
theorem drop_end {α : Type} (xs : List α) (k : Nat) (h : xs.length ≤ k) : xs.drop k = [] := List.drop_eq_nil_of_le h
theorem below_alloc1 (w : World) (o : Obj) : Below w.heap.size w (w.alloc o) := (Below.refl _ _).alloc (Nat.le_refl _) _
theorem below_set {w wr : World} {B g : Nat} {k : Nat} {u : Value} (h : Below B w wr) (hg : B ≤ g) : Below B w (wr.setCell ⟨g, k, none⟩ u) := h.setCell hg u
/-- A row of one's own that is written to. -/
def Row (w : World) (B g n : Nat) (xs : List Int) : Prop := w.ownsRow B 3 1 (.slice (some ⟨g, 0, none⟩) n n) n (xs.map (Value.int .i64)) ∧ xs.length = n
theorem Row.ints {w : World} {B g n : Nat} {xs : List Int} (h : Row w B g n xs) : Ints w B (.slice (some ⟨g, 0, none⟩) n n) xs := by
  unfold Ints; rw [h.2]; exact h.1
theorem Row.below {w w' : World} {B g n : Nat} {xs : List Int} (h : Row w B g n xs) (hb : Below w.heap.size w w') : Row w' B g n xs := ⟨own_below h.1 hb, h.2⟩
theorem Row.base {w : World} {B B' g n : Nat} {xs : List Int} (h : Row w B g n xs) (hb : B' ≤ B) : Row w B' g n xs := ⟨own_base h.1 hb, h.2⟩
theorem Row.cell {w : World} {B g n : Nat} {xs : List Int} (h : Row w B g n xs) {j : Nat} (hj : j < n) : w.cell? ⟨g, j, none⟩ = some (.int .i64 (xs.getD j 0)) := by
  rw [h.1.cellAt j (by omega)]
  have := h.2
  simp [List.getD_eq_getElem?_getD, show j < xs.length by omega]
theorem Row.frozen {w : World} {B g n : Nat} {xs : List Int} (h : Row w B g n xs) (j : Nat) : w.frozen? ⟨g, j, none⟩ = false := h.1.frozenAt j
theorem Row.set {w : World} {B g n : Nat} {xs : List Int} (h : Row w B g n xs) (j : Nat) (y : Int) : Row (w.setCell ⟨g, j, none⟩ (.int .i64 y)) B g n (xs.set j y) := by
  refine ⟨?_, by rw [List.length_set]; exact h.2⟩
  rw [List.map_set]; exact (h.1.stored j _).1
theorem Row.lt {w : World} {B g n : Nat} {xs : List Int} (h : Row w B g n xs) : B ≤ g ∧ g < w.heap.size := by
  rcases h.1.2 with ⟨h', _⟩ | ⟨g', cap', cur, h', hB, hg, _⟩
  · simp at h'
  · simp only [Value.slice.injEq, Option.some.injEq, Addr.mk.injEq, and_true, true_and] at h'
    obtain ⟨rfl, rfl⟩ := h'
    exact ⟨hB, (Array.getElem?_eq_some_iff.1 hg).1⟩
theorem Row.reads {w : World} {B g n : Nat} {xs : List Int} (h : Row w B g n xs) : Reads w (.slice (some ⟨g, 0, none⟩) n n) xs := h.ints.shape
/-- make([]int, n) at the model's operation. -/
theorem make_row {ops : Array Oper} {rest : List Oper} {o : Oper} {a : Act} {Q : Exit → Act → World → Prop} {w : World} {B : Nat}
    (n : Nat) (hC : n ≤ 1000000) (hB : B ≤ w.heap.size) (hg : o.guard = none) (l c : Operand) (hop : o.op = Op.makeSlice 24 l c)
    (hl : a.eval l = .int .i64 (n : Int)) (hc : a.eval c = .int .i64 (n : Int))
    (hK : ∀ w', Row w' B w.heap.size n (List.replicate n 0) → Below B w w' → wpList Tryd.prog ops Q rest (a.put o.dst (.slice (some ⟨w.heap.size, 0, none⟩) n n)) w') :
    wpList Tryd.prog ops Q (o :: rest) a w := by
  obtain ⟨i0, hi, hz0, hz1, hz2⟩ := info_parts info3
  refine wpList_plain hg fun K hK' => ?_
  have hr := run_make (P := Tryd.prog) w 24 3 i0 (.int .i64 0) Tryd.underlying24 hi hz0 .i64 .i64 (n : Int) (n : Int) (by omega) (by omega) (by rw [hz2]; omega) (by omega)
  simp only [Int.toNat_natCast, hz1, Nat.mul_one] at hr
  unfold Oper.wp
  simp [execOp, hop, hl, hc, hr, Result.andThen]
  refine hK' _ _ (hK _ ⟨⟨by simp, .inr ⟨w.heap.size, n, _, rfl, hB, heap_alloc_new w _, Nat.le_refl _, by unfold maxLen; omega, by simp [size_madeCells], ?_⟩⟩, by simp⟩ ((Below.refl _ _).alloc hB _))
  show (madeCells #[Value.int .i64 0] n).toList.take (n * 1) = _
  rw [toList_madeCells_one, Nat.mul_one, List.take_replicate, Nat.min_self, List.map_replicate]
/-- Rows of ints of one's own. -/
def OwnG (w : World) (B : Nat) (v : Value) (xss : List (List Int)) : Prop :=
  ∃ vs : List Value, w.ownsRow B 24 1 v vs.length vs ∧ vs.length = xss.length ∧ ∀ j, j < vs.length → Ints w B (vs.getD j undef) (xss.getD j [])
theorem OwnG.below {w w' : World} {B : Nat} {v : Value} {xss : List (List Int)} (h : OwnG w B v xss) (hb : Below w.heap.size w w') : OwnG w' B v xss := by
  obtain ⟨vs, h1, h2, h3⟩ := h
  exact ⟨vs, own_below h1 hb, h2, fun j hj => (h3 j hj).below hb⟩
theorem OwnG.base {w : World} {B B' : Nat} {v : Value} {xss : List (List Int)} (h : OwnG w B v xss) (hb : B' ≤ B) : OwnG w B' v xss := by
  obtain ⟨vs, h1, h2, h3⟩ := h
  exact ⟨vs, own_base h1 hb, h2, fun j hj => (h3 j hj).base hb⟩
theorem OwnG.shape {w : World} {B : Nat} {v : Value} {xss : List (List Int)} (h : OwnG w B v xss) : ReadsG w v xss := by
  obtain ⟨vs, h1, h2, h3⟩ := h
  have hh := h1
  rcases h1.2 with ⟨rfl, h0⟩ | ⟨g, cap, cur, rfl, hB, hg, hn, _⟩
  · refine ⟨none, 0, by rw [← h2, h0], by omega, fun hne => absurd (List.length_eq_zero_iff.1 (by omega)) hne⟩
  · refine ⟨_, cap, by rw [h2], by omega, fun _ => ⟨g, 0, rfl, (Array.getElem?_eq_some_iff.1 hg).1, fun j hj => ?_⟩⟩
    rw [← h2] at hj
    refine ⟨vs.getD j undef, ?_, (h3 j hj).shape⟩
    rw [show 0 + j = j from by omega, hh.cellAt j (by omega)]
    simp [List.getD_eq_getElem?_getD, hj]
/-- append(s, row) of one row of ints, at the model's operation. -/
theorem app_row {ops : Array Oper} {rest : List Oper} {o : Oper} {a : Act} {Q : Exit → Act → World → Prop} {w : World} {B : Nat} {v u : Value} {xss : List (List Int)} {ys : List Int}
    (hown : OwnG w B v xss) (hu : Ints w B u ys) (hlen : xss.length ≤ 1000000) (hB : B ≤ w.heap.size) (hgd : o.guard = none) (s x : Operand)
    (ho : o.op = .call { callee := .builtin .append, args := #[s, x], argTypes := #[40, 40] }) (hs : a.eval s = v) (hx : a.eval x = .slice (some ⟨w.heap.size, 0, none⟩) 1 1)
    (h : ∀ v' w', OwnG w' B v' (xss ++ [ys]) → Below B w w' → (∀ u' zs, Ints w B u' zs → Ints w' B u' zs) → wpList Tryd.prog ops Q rest (a.put o.dst v') w') : wpList Tryd.prog ops Q (o :: rest) a (w.alloc (.cells #[u] 24)) := by
  obtain ⟨i0, hi, hz0, hz1, hz2⟩ := info_parts info24
  obtain ⟨vs, hv, hvl, hin⟩ := hown
  have hone : u.oneCell' = true := by obtain ⟨ao, c, rfl, _⟩ := hu.shape; rfl
  refine wpList_append_own _ hgd s x 40 ho B 24 i0 (.slice none 0 0) 1 24 Tryd.underlying40 hi hz0 hz1 hz2 rfl (by decide) v vs.length vs hs (World.ownsRow.alloc hv _) ⟨w.heap.size, 0, none⟩ 1 1 [u] hx rfl (cell_one_new _ _ _) ?_ ?_ ?_ ?_ ?_
  · intro z hz; simp at hz; subst hz; exact hone
  · unfold maxLen; omega
  · omega
  · simp; omega
  · intro v' w' h2 h3 _
    have hkeep : ∀ u' zs, Ints w B u' zs → Ints w' B u' zs := by
      intro u' zs hz
      refine World.ownsRow.kept (World.ownsRow.alloc hz _) h3 ?_
      rcases hz.2 with ⟨rfl, _⟩ | ⟨g, cap, cur, rfl, _, hg, _⟩
      · exact .inl rfl
      · right
        intro e
        rcases hv.2 with ⟨rfl, _⟩ | ⟨g', cap', cur', rfl, _, hg', _⟩
        · simp [Value.ownBlock] at e
        · simp only [Value.ownBlock, Option.some.injEq] at e
          subst e
          rw [hg] at hg'
          simp at hg'
    refine h v' w' ⟨vs ++ [u], by simpa using h2, by simp [hvl], fun j hj => ?_⟩ ?_ hkeep
    · simp at hj
      by_cases e : j < vs.length
      · have := hkeep _ _ (hin j e)
        rw [List.getD_eq_getElem?_getD, List.getElem?_append_left e, ← List.getD_eq_getElem?_getD, List.getD_eq_getElem?_getD (l := xss ++ [ys]), List.getElem?_append_left (by omega), ← List.getD_eq_getElem?_getD]
        exact this
      · have : j = vs.length := by omega
        subst this
        have := hkeep _ _ hu
        rw [List.getD_eq_getElem?_getD, List.getElem?_append_right (Nat.le_refl _), List.getD_eq_getElem?_getD, List.getElem?_append_right (by omega), hvl]
        simpa using this
    · exact ((Below.refl B w).alloc hB _).grown h3 (by simp; omega) (fun k hk => (World.ownsRow.lt hv k hk).1)
theorem OwnG.lit (w : World) (B : Nat) (hB : B ≤ w.heap.size) : OwnG (w.alloc (.cells #[] 24)) B (.slice (some ⟨w.heap.size, 0, none⟩) 0 0) [] :=
  ⟨[], World.ownsRow_made w #[] 0 hB (by unfold maxLen; omega) (by simp), rfl, fun j hj => by simp at hj⟩
theorem Ints.alloc {B : Nat} {v : Value} {xs : List Int} {w : World} (h : Ints w B v xs) (o : Obj) : Ints (w.alloc o) B v xs := World.ownsRow.alloc h o
theorem OwnG.alloc {B : Nat} {v : Value} {xs : List (List Int)} {w : World} (h : OwnG w B v xs) (o : Obj) : OwnG (w.alloc o) B v xs := h.below (below_alloc1 w o)
/-- append(s, y) of one int: the block is the row's own, or a new one. -/
theorem app_run (w : World) {B : Nat} {v : Value} {xs : List Int} {y : Int} (hown : Ints w B v xs) (hlen : xs.length ≤ 1000000) (hB : B ≤ w.heap.size) (ad : Addr) (hc : w.cell? ad = some (.int .i64 y)) :
    ∃ v' w', (Builtin.append_ #[24, 24] 24 #[v, .slice (some ad) 1 1]).run Tryd.prog w = .ok v' w' ∧ Ints w' B v' (xs ++ [y]) ∧ w.grownBy w' v.ownBlock ∧ (v'.ownBlock = v.ownBlock ∨ v'.ownBlock = some w.heap.size) := by
  obtain ⟨i0, hi, hz0, hz1, hz2⟩ := info_parts info3
  have hnews : ∀ j u, ([Value.int .i64 y] : List Value)[j]? = some u → w.cell? (ad.add j) = some u := by
    intro j u hj
    cases j with
    | zero => simp at hj; subst hj; simpa [Addr.add] using hc
    | succ j => simp at hj
  obtain ⟨v', w', hr, h2, h3, _⟩ := run_append_own (P := Tryd.prog) w B 24 24 3 i0 (.int .i64 0) 1 8 Tryd.underlying24 hi hz0 hz1 hz2 rfl (by decide) v xs.length (xs.map (Value.int .i64)) hown ad 1 1 [.int .i64 y] rfl hnews (by intro u hu; simp at hu; subst hu; rfl) (by unfold maxLen; omega) (by omega) hB
  refine ⟨v', w', hr, by unfold Ints; simpa using h2, h3, ?_⟩
  rcases hown.2 with ⟨rfl, h0⟩ | ⟨g, cap, cur, rfl, hbg, hg, hnc, hcm, hcs, htake⟩
  · have hr2 := run_append_nil (P := Tryd.prog) w 24 24 3 i0 (.int .i64 0) Tryd.underlying24 hi hz0 ad 1 1 [.int .i64 y] (by rw [hz1]; rfl) hnews (by omega) (by omega) (by rw [hz2]; omega)
    rw [hr] at hr2
    simp only [Result.ok.injEq] at hr2
    right; rw [hr2.1]; rfl
  · by_cases hroom : xs.length + 1 ≤ cap
    · have hr2 := run_append_room (P := Tryd.prog) w 24 24 3 i0 Tryd.underlying24 hi g xs.length cap cur hg ad 1 1 [.int .i64 y] (by rw [hz1]; rfl) hnews (by intro u hu; simp at hu; subst hu; rfl) hroom (by rw [hz1, hcs]; simp; omega)
      rw [hr] at hr2
      simp only [Result.ok.injEq] at hr2
      left; rw [hr2.1]; rfl
    · have holds : ∀ j u, (xs.map (Value.int .i64))[j]? = some u → w.cell? ((⟨g, 0, none⟩ : Addr).add j) = some u := World.ownsRow.cells (g := g) hown rfl
      have hr2 := run_append_grow (P := Tryd.prog) w 24 24 3 i0 (.int .i64 0) Tryd.underlying24 hi hz0 ⟨g, 0, none⟩ xs.length cap (xs.map (Value.int .i64)) (by rw [hz1]; simp) holds ad 1 1 [.int .i64 y] (by rw [hz1]; rfl) hnews (by omega) (by omega) (growslice_fits (by omega) (by rw [hz2]; omega))
      rw [hr] at hr2
      simp only [Result.ok.injEq] at hr2
      right; rw [hr2.1]; rfl
theorem Ints.ownBlock_lt {w : World} {B : Nat} {u : Value} {zs : List Int} (h : Ints w B u zs) : ∀ k, u.ownBlock = some k → k < w.heap.size := fun k hk => (World.ownsRow.lt h k hk).2
/-- A slice of ints that came in. -/
def InRow (w : World) (v : Value) (xs : List Int) : Prop := Reads w v xs ∧ xs.length ≤ maxLen ∧ ∃ ao c, v = .slice ao xs.length c ∧ (ao = none → c = 0)
theorem InRow.below {w w' : World} {v : Value} {xs : List Int} (h : InRow w v xs) (hb : Below w.heap.size w w') : InRow w' v xs := ⟨h.1.below hb, h.2⟩
def InRows (w : World) (v : Value) (xss : List (List Int)) : Prop := ∃ ao c, v = .slice ao xss.length c ∧ xss.length ≤ c ∧ xss.length ≤ maxLen ∧ (xss ≠ [] → ∃ g o, ao = some ⟨g, o, none⟩ ∧ g < w.heap.size ∧ ∀ j, j < xss.length → ∃ u, w.cell? ⟨g, o + j, none⟩ = some u ∧ InRow w u (xss.getD j []))
theorem InRows.below {w w' : World} {v : Value} {xss : List (List Int)} (h : InRows w v xss) (hb : Below w.heap.size w w') : InRows w' v xss := by
  obtain ⟨ao, c, rfl, hc, hm, h⟩ := h
  refine ⟨ao, c, rfl, hc, hm, fun hne => ?_⟩
  obtain ⟨g, o, rfl, hg, hc⟩ := h hne
  refine ⟨g, o, rfl, Nat.lt_of_lt_of_le hg hb.size, fun j hj => ?_⟩
  obtain ⟨u, h1, h2⟩ := hc j hj
  exact ⟨u, (hb.cell (p := ⟨g, o + j, none⟩) hg).trans h1, h2.below hb⟩
/-- append(s, src...) of ints, at the model's operation. -/
theorem app_ints {ops : Array Oper} {rest : List Oper} {o : Oper} {a : Act} {Q : Exit → Act → World → Prop} {w : World} {B : Nat} {v u : Value} {xs ys : List Int}
    (hown : Ints w B v xs) (hu : Reads w u ys) (hs' : u = .slice none 0 0 ∨ ∃ ad l c, u = .slice (some ad) l c) (hlen : xs.length + ys.length ≤ 1000000000) (hB : B ≤ w.heap.size) (hgd : o.guard = none) (s x : Operand)
    (ho : o.op = .call { callee := .builtin .append, args := #[s, x], argTypes := #[24, 24] }) (hs : a.eval s = v) (hx : a.eval x = u)
    (h : ∀ v' w', Ints w' B v' (xs ++ ys) → Below B w w' → wpList Tryd.prog ops Q rest (a.put o.dst v') w') : wpList Tryd.prog ops Q (o :: rest) a w := by
  obtain ⟨i0, hi, hz0, hz1, hz2⟩ := info_parts info3
  obtain ⟨ao, c, rfl, hc, hcl⟩ := hu
  rcases hs' with e | ⟨ad, l, c', e⟩
  · have hy : ys = [] := by
      simp only [Value.slice.injEq] at e
      exact List.length_eq_zero_iff.1 e.2.1
    subst hy
    refine wpList_append_own_none hgd s x 24 ho B 3 i0 1 Tryd.underlying24 hi v xs.length (xs.map (Value.int .i64)) hs hown (hx.trans e) ?_
    exact h v w (by simpa using hown) (Below.refl _ _)
  · have ea : ao = some ad := by cases e; rfl
    subst ea
    refine wpList_append_own _ hgd s x 24 ho B 3 i0 (.int .i64 0) 1 8 Tryd.underlying24 hi hz0 hz1 hz2 rfl (by decide) v xs.length (xs.map (Value.int .i64)) hs hown ad ys.length c (ys.map (Value.int .i64)) hx (by simp) ?_ ?_ (by unfold maxLen; omega) (by omega) hB ?_
    · intro j z hj
      rw [List.getElem?_map, Option.map_eq_some_iff] at hj
      obtain ⟨y, hy, rfl⟩ := hj
      obtain ⟨hj1, hj2⟩ := List.getElem?_eq_some_iff.1 hy
      obtain ⟨g, o', e1, _, hcell⟩ := hcl (fun e => by rw [e] at hj1; simp at hj1)
      cases e1
      have := hcell j hj1
      rw [show (⟨g, o', none⟩ : Addr).add j = ⟨g, o' + j, none⟩ from by simp [Addr.add], this, List.getD_eq_getElem?_getD, hy]; rfl
    · intro z hz
      rw [List.mem_map] at hz
      obtain ⟨y, _, rfl⟩ := hz
      rfl
    · intro v' w' h2 h3 _
      refine h v' w' ?_ ?_
      · unfold Ints; simpa using h2
      · exact (Below.refl B w).grown h3 hB (fun k hk => (World.ownsRow.lt hown k hk).1)
theorem Reads.take {w : World} {ao : Option Addr} {c n : Nat} {xs : List Int} (hn : xs.length = n) (h : Reads w (.slice ao n c) xs) {m : Nat} (hm : m ≤ n) : Reads w (.slice ao m c) (xs.take m) := by
  subst hn
  obtain ⟨ao', c', e, hc, h⟩ := h
  have e1 : ao = ao' ∧ c = c' := by cases e; exact ⟨rfl, rfl⟩
  obtain ⟨rfl, rfl⟩ := e1
  have hl : (xs.take m).length = m := by rw [List.length_take]; omega
  refine ⟨ao, c, by rw [hl], by omega, fun hne => ?_⟩
  obtain ⟨g, o, rfl, hg, hcell⟩ := h (fun e => hne (by rw [e]; simp))
  refine ⟨g, o, rfl, hg, fun j hj => ?_⟩
  rw [hl] at hj
  rw [hcell j (by omega), List.getD_eq_getElem?_getD, List.getD_eq_getElem?_getD, List.getElem?_take, if_pos hj]
theorem ints_parts {w : World} {B : Nat} {v : Value} {xs : List Int} (h : Ints w B v xs) (hne : xs ≠ []) : ∃ g cap, v = .slice (some ⟨g, 0, none⟩) xs.length cap ∧ B ≤ g ∧ g < w.heap.size ∧
    (∀ j, j < xs.length → w.cell? ⟨g, j, none⟩ = some (.int .i64 (xs.getD j 0))) ∧ (∀ j, w.frozen? ⟨g, j, none⟩ = false) ∧ ∀ j y, Ints (w.setCell ⟨g, j, none⟩ (.int .i64 y)) B v (xs.set j y) := by
  have hh := h
  rcases h.2 with ⟨rfl, h0⟩ | ⟨g, cap, cur, rfl, hB, hg, hn, _⟩
  · exact absurd (List.length_eq_zero_iff.1 h0) hne
  · refine ⟨g, cap, rfl, hB, (Array.getElem?_eq_some_iff.1 hg).1, fun j hj => ?_, fun j => hh.frozenAt j, fun j y => ?_⟩
    · rw [hh.cellAt j (by omega)]
      simp [List.getD_eq_getElem?_getD, hj]
    · have := (hh.stored j (.int .i64 y)).1
      unfold Ints
      rw [List.length_set, List.map_set]
      exact this
/-- The cells of rows of ints that are read at place `k`. -/
theorem ReadsG.at {w : World} {ao : Option Addr} {n c : Nat} {gs : List (List Int)} (h : ReadsG w (.slice ao n c) gs) (hn : gs.length = n) {k : Nat} (hk : k < n) :
    ∃ g o, ao = some ⟨g, o, none⟩ ∧ g < w.heap.size ∧ ∃ ro rc, w.cell? ⟨g, o + k, none⟩ = some (.slice ro (gs.getD k []).length rc) ∧ Reads w (.slice ro (gs.getD k []).length rc) (gs.getD k []) := by
  obtain ⟨ao', c', e, _, hc⟩ := h
  have e1 : ao = ao' := by cases e; rfl
  subst e1
  obtain ⟨g, o, rfl, hg, hcell⟩ := hc (fun e => by rw [e] at hn; simp at hn; omega)
  obtain ⟨u, h1, h2⟩ := hcell k (by omega)
  obtain ⟨ro, rc, rfl, _⟩ := id h2
  exact ⟨g, o, rfl, hg, ro, rc, h1, h2⟩
theorem Reads.at {w : World} {ao : Option Addr} {n c : Nat} {xs : List Int} (h : Reads w (.slice ao n c) xs) (hn : xs.length = n) {k : Nat} (hk : k < n) :
    ∃ g o, ao = some ⟨g, o, none⟩ ∧ g < w.heap.size ∧ ∀ j, j < n → w.cell? ⟨g, o + j, none⟩ = some (.int .i64 (xs.getD j 0)) := by
  obtain ⟨ao', c', e, _, hc⟩ := h
  have e1 : ao = ao' := by cases e; rfl
  subst e1
  obtain ⟨g, o, rfl, hg, hcell⟩ := hc (fun e => by rw [e] at hn; simp at hn; omega)
  exact ⟨g, o, rfl, hg, fun j hj => hcell j (by omega)⟩
theorem reads_addr {w : World} {ao : Option Addr} {n c : Nat} {xs : List Int} (h : Reads w (.slice ao n c) xs) (hn : xs.length = n) (h1 : 1 ≤ n) : ∃ ad l c', Value.slice ao n c = .slice (some ad) l c' := by
  obtain ⟨g, o, rfl, _⟩ := h.at hn (k := 0) (by omega)
  exact ⟨_, _, _, rfl⟩
def sameL (a b : List Int) : Bool := a == b
theorem sameL_len {a b : List Int} (h : a.length ≠ b.length) : false = sameL a b := by
  unfold sameL; symm; rw [beq_eq_false_iff_ne]; intro e; exact h (by rw [e])
theorem sameL_at {a b : List Int} (k : Nat) (h : (a.getD k 0) ≠ b.getD k 0) : false = sameL a b := by
  unfold sameL; symm; rw [beq_eq_false_iff_ne]; intro e; exact h (by rw [e])
theorem sameL_all {a b : List Int} (h : a.length = b.length) (k : Nat) (hk : a.length ≤ k) (hj : ∀ j, j < k → a.getD j 0 = b.getD j 0) : true = sameL a b := by
  unfold sameL; symm; rw [beq_iff_eq]
  refine List.ext_getElem h fun i h1 h2 => ?_
  have := hj i (by omega)
  simpa [List.getD_eq_getElem?_getD, h1, h2] using this
theorem sameL_self (a : List Int) : sameL a a = true := by simp [sameL]
theorem lit2 (w : World) (a b : Int) : Reads (w.alloc (.cells #[.int .i64 a, .int .i64 b] 3)) (.slice (some ⟨w.heap.size, 0, none⟩) 2 2) [a, b] := by
  refine ⟨_, 2, rfl, by simp, fun _ => ⟨w.heap.size, 0, rfl, by simp, fun j hj => ?_⟩⟩
  rw [World.cell?_alloc_at (hn := rfl)]
  simp at hj
  rcases (show j = 0 ∨ j = 1 by omega) with rfl | rfl <;> rfl
/-- A row of one's own stays where its block does. -/
theorem own_block {B : Nat} {e : TypeId} {sz n : Nat} {v : Value} {xs : List Value} {w w' : World} (h : w.ownsRow B e sz v n xs) (hb : ∀ k, v.ownBlock = some k → w'.heap[k]? = w.heap[k]?) : w'.ownsRow B e sz v n xs := by
  refine ⟨h.1, ?_⟩
  rcases h.2 with hn | ⟨g, cap, cur, rfl, hB, hg, rest⟩
  · exact .inl hn
  · refine .inr ⟨g, cap, cur, rfl, hB, ?_, rest⟩
    rw [hb g rfl]
    exact hg
def flat {α : Type} (enc : α → List Value) (xs : List α) : List Value := xs.flatMap enc
theorem flat_len {α : Type} {enc : α → List Value} {z : Nat} (hz : ∀ a, (enc a).length = z) : ∀ xs : List α, (flat enc xs).length = xs.length * z
  | [] => by simp [flat]
  | a :: xs => by
    have := flat_len hz xs
    unfold flat at this ⊢
    rw [List.flatMap_cons, List.length_append, hz, this, List.length_cons, Nat.add_mul, Nat.one_mul, Nat.add_comm]
theorem flat_app {α : Type} (enc : α → List Value) (xs ys : List α) : flat enc (xs ++ ys) = flat enc xs ++ flat enc ys := by simp [flat]
theorem flat_at {α : Type} {enc : α → List Value} {z : Nat} (hz : ∀ a, (enc a).length = z) : ∀ (xs : List α) (i k : Nat) (h : i < xs.length), k < z → (flat enc xs)[i * z + k]? = (enc xs[i])[k]?
  | a :: xs, 0, k, _, hk => by
    rw [Nat.zero_mul, Nat.zero_add]
    unfold flat
    rw [List.flatMap_cons, List.getElem?_append_left (by rw [hz]; exact hk)]; rfl
  | a :: xs, i + 1, k, h, hk => by
    have ih := flat_at hz xs i k (by simpa using h) hk
    unfold flat at ih ⊢
    rw [List.flatMap_cons, List.getElem?_append_right (by rw [hz, Nat.add_mul]; omega), hz, show (i + 1) * z + k - z = i * z + k by rw [Nat.add_mul]; omega, ih]; rfl
theorem flat_set {α : Type} {enc : α → List Value} {z : Nat} (hz : ∀ a, (enc a).length = z) : ∀ (xs : List α) (i k : Nat) (b : α) (u : Value), i < xs.length → k < z → (∀ a, xs[i]? = some a → enc b = (enc a).set k u) → (flat enc xs).set (i * z + k) u = flat enc (xs.set i b)
  | a :: xs, 0, k, b, u, _, hk, he => by
    have := he a rfl
    unfold flat
    rw [Nat.zero_mul, Nat.zero_add, List.set_cons_zero, List.flatMap_cons, List.flatMap_cons, this, List.set_append_left _ _ (by rw [hz]; exact hk)]
  | a :: xs, i + 1, k, b, u, h, hk, he => by
    have ih := flat_set hz xs i k b u (by simpa using h) hk (fun c hc => he c (by simpa using hc))
    unfold flat at ih ⊢
    rw [List.set_cons_succ, List.flatMap_cons, List.flatMap_cons, ← ih, List.set_append_right _ _ (by rw [hz, Nat.add_mul]; omega), hz, show (i + 1) * z + k - z = i * z + k by rw [Nat.add_mul]; omega]
theorem flat_take {α : Type} {enc : α → List Value} {z : Nat} (hz : ∀ a, (enc a).length = z) : ∀ (xs : List α) (n : Nat), flat enc (xs.take n) = (flat enc xs).take (n * z)
  | [], n => by simp [flat]
  | a :: xs, 0 => by simp [flat]
  | a :: xs, n + 1 => by
    have ih := flat_take hz xs n
    unfold flat at ih ⊢
    rw [List.take_succ_cons, List.flatMap_cons, List.flatMap_cons, ih, List.take_append, hz, show (n + 1) * z - z = n * z by rw [Nat.add_mul]; omega, List.take_of_length_le (l := enc a) (by rw [hz, Nat.add_mul]; omega)]
theorem flat_drop {α : Type} {enc : α → List Value} {z : Nat} (hz : ∀ a, (enc a).length = z) : ∀ (xs : List α) (n : Nat), flat enc (xs.drop n) = (flat enc xs).drop (n * z)
  | [], n => by simp [flat]
  | a :: xs, 0 => by simp [flat]
  | a :: xs, n + 1 => by
    have ih := flat_drop hz xs n
    unfold flat at ih ⊢
    rw [List.drop_succ_cons, List.flatMap_cons, ih, List.drop_append, hz, show (n + 1) * z - z = n * z by rw [Nat.add_mul]; omega, List.drop_of_length_le (l := enc a) (by rw [hz, Nat.add_mul]; omega), List.nil_append]
/-- `v` reads as `n` elements whose cells are `cs`, `z` each; wherever it lies. -/
def FlatR (w : World) (z : Nat) (v : Value) (n : Nat) (cs : List Value) : Prop := cs.length = n * z ∧ ∃ ao c, v = .slice ao n c ∧ n ≤ c ∧ (ao = none → c = 0) ∧ (n ≠ 0 → ∃ g o, ao = some ⟨g, o, none⟩ ∧ g < w.heap.size ∧ ∀ j u, cs[j]? = some u → w.cell? ⟨g, o + j, none⟩ = some u)
theorem FlatR.below {w w' : World} {z n : Nat} {v : Value} {cs : List Value} (h : FlatR w z v n cs) (hb : Below w.heap.size w w') : FlatR w' z v n cs := by
  obtain ⟨h0, ao, c, rfl, hc, h2, h⟩ := h
  refine ⟨h0, ao, c, rfl, hc, h2, fun hn => ?_⟩
  obtain ⟨g, o, rfl, hg, hcl⟩ := h hn
  exact ⟨g, o, rfl, Nat.lt_of_lt_of_le hg hb.size, fun j u hj => (hb.cell (p := ⟨g, o + j, none⟩) hg).trans (hcl j u hj)⟩
theorem own_cells {w : World} {B e sz n : Nat} {v : Value} {xs : List Value} (h : w.ownsRow B e sz v n xs) : ∃ ao c, v = .slice ao n c ∧ n ≤ c ∧ (n ≠ 0 → ∃ g, ao = some ⟨g, 0, none⟩ ∧ B ≤ g ∧ g < w.heap.size ∧ ∀ j u, xs[j]? = some u → w.cell? ⟨g, j, none⟩ = some u) := by
  have hh := h
  rcases h.2 with ⟨rfl, h0⟩ | ⟨g, cap, cur, rfl, hB, hg, hn, _⟩
  · exact ⟨none, 0, by rw [h0], by omega, fun hne => absurd h0 hne⟩
  · refine ⟨_, cap, rfl, hn, fun _ => ⟨g, rfl, hB, (Array.getElem?_eq_some_iff.1 hg).1, fun j u hj => ?_⟩⟩
    have hl := (List.getElem?_eq_some_iff.1 hj).1
    rw [hh.cellAt j (by rw [← hh.1]; exact hl), hj]
theorem own_flatR {w : World} {B e sz n : Nat} {v : Value} {xs : List Value} (h : w.ownsRow B e sz v n xs) : FlatR w sz v n xs := by
  refine ⟨h.1, ?_⟩
  have hh := h
  rcases h.2 with ⟨rfl, h0⟩ | ⟨g, cap, cur, rfl, hB, hg, hn, _⟩
  · exact ⟨none, 0, by rw [h0], by omega, fun _ => rfl, fun hne => absurd h0 hne⟩
  · refine ⟨_, cap, rfl, hn, fun e => by simp at e, fun _ => ⟨g, 0, rfl, (Array.getElem?_eq_some_iff.1 hg).1, fun j u hj => ?_⟩⟩
    have hl := (List.getElem?_eq_some_iff.1 hj).1
    rw [Nat.zero_add, hh.cellAt j (by rw [← hh.1]; exact hl), hj]
/-- append(s, src...) of structs, at the model's operation. -/
theorem app_flat {ops : Array Oper} {rest : List Oper} {o : Oper} {a : Act} {Q : Exit → Act → World → Prop} {w : World} {B m n z bytes : Nat} {t e : TypeId} {i0 : TypeInfo} {zv : Value} (ht : Tryd.prog.underlying t = some (.slice e)) (hi : Tryd.prog.info? e = some i0) (hz0 : i0.zero = some zv) (hz1 : i0.size = z) (hz2 : i0.bytes = bytes) (hzc : zv.cells.size = z) (hz : 0 < z) (hby : bytes ≤ 100)
    {v : Value} {ad : Addr} {c : Nat} {xs ys : List Value} (hown : w.ownsRow B e z v n xs) (hx : FlatR w z (.slice (some ad) m c) m ys) (h1 : ∀ u ∈ ys, u.oneCell' = true) (hlen : n + m ≤ 1000000) (hB : B ≤ w.heap.size) (hgd : o.guard = none) (s x : Operand)
    (ho : o.op = .call { callee := .builtin .append, args := #[s, x], argTypes := #[t, t] }) (hs : a.eval s = v) (hxv : a.eval x = .slice (some ad) m c)
    (h : ∀ v' w', w'.ownsRow B e z v' (n + m) (xs ++ ys) → w.grownBy w' v.ownBlock → (v'.ownBlock = v.ownBlock ∨ v'.ownBlock = some w.heap.size) → wpList Tryd.prog ops Q rest (a.put o.dst v') w') : wpList Tryd.prog ops Q (o :: rest) a w := by
  obtain ⟨h0, ao, c', e1, hc, hnone, hcl⟩ := hx
  obtain ⟨rfl, rfl⟩ : some ad = ao ∧ c = c' := by injection e1 with a _ b; exact ⟨a, b⟩
  refine wpList_append_own_at _ hgd s x t ho B e i0 zv z bytes ht hi hz0 hz1 hz2 hzc hz v n xs hs hown ad m c ys hxv h0 ?_ h1 (by unfold maxLen; omega) (Nat.le_trans (Nat.mul_le_mul hlen hby) (by omega)) hB ?_
  · intro j u hj
    by_cases hm : m = 0
    · subst hm
      have := (List.getElem?_eq_some_iff.1 hj).1
      rw [h0] at this; omega
    · obtain ⟨g, o, e1, _, hcell⟩ := hcl hm
      obtain rfl : ad = ⟨g, o, none⟩ := by injection e1
      rw [show (⟨g, o, none⟩ : Addr).add j = ⟨g, o + j, none⟩ from by simp [Addr.add]]
      exact hcell j u hj
  · intro v' w' h2 h3 _ h5
    exact h v' w' h2 h3 h5
/-- append(s, x) of one struct, at the model's operation: what else changes. -/
theorem app_one {ops : Array Oper} {rest : List Oper} {o : Oper} {a : Act} {Q : Exit → Act → World → Prop} {w : World} {B n z bytes : Nat} {t e : TypeId} {i0 : TypeInfo} {zv : Value} (ht : Tryd.prog.underlying t = some (.slice e)) (hi : Tryd.prog.info? e = some i0) (hz0 : i0.zero = some zv) (hz1 : i0.size = z) (hz2 : i0.bytes = bytes) (hzc : zv.cells.size = z) (hz : 0 < z) (hby : bytes ≤ 100)
    {v : Value} {xs : List Value} {y : Array Value} (hown : w.ownsRow B e z v n xs) (hy : y.size = z) (h1 : ∀ u ∈ y.toList, u.oneCell' = true) (hlen : n ≤ 999999) (hB : B ≤ w.heap.size) (hgd : o.guard = none) (s x : Operand)
    (ho : o.op = .call { callee := .builtin .append, args := #[s, x], argTypes := #[t, t] }) (hs : a.eval s = v) (hxv : a.eval x = .slice (some ⟨w.heap.size, 0, none⟩) 1 1)
    (h : ∀ v' w', w'.ownsRow B e z v' (n + 1) (xs ++ y.toList) → Below B w w' → (∀ g, g < w.heap.size → v.ownBlock ≠ some g → w'.heap[g]? = w.heap[g]?) → (∀ g, v'.ownBlock = some g → v.ownBlock = some g ∨ w.heap.size ≤ g) → w.heap.size ≤ w'.heap.size → wpList Tryd.prog ops Q rest (a.put o.dst v') w') : wpList Tryd.prog ops Q (o :: rest) a (w.alloc (.cells y e)) := by
  refine wpList_append_own_at _ hgd s x t ho B e i0 zv z bytes ht hi hz0 hz1 hz2 hzc hz v n xs hs (World.ownsRow.alloc hown _) ⟨w.heap.size, 0, none⟩ 1 1 y.toList hxv (by simp [hy]) ?_ h1 (by unfold maxLen; omega) (Nat.le_trans (Nat.mul_le_mul (show n + 1 ≤ 1000000 by omega) hby) (by omega)) (by simp; omega) ?_
  · intro j u hj
    have e : (⟨w.heap.size, 0, none⟩ : Addr).add j = ⟨w.heap.size, j, none⟩ := by unfold Addr.add; split <;> simp_all
    rw [e, World.cell?_alloc_at (hn := rfl)]
    show y[j]? = some u
    rw [← Array.getElem?_toList]; exact hj
  · intro v' w' h2 h3 _ h5
    refine h v' w' h2 ?_ (fun g hg hne => ?_) (fun g hg => ?_) (by have := h3.size; simp at this; omega)
    · exact ((Below.refl B w).alloc hB _).grown h3 (by simp; omega) (fun k hk => (World.ownsRow.lt hown k hk).1)
    · rw [h3.block g (by simp; omega) (fun e => hne e.symm)]
      exact (below_alloc1 w _).block g hg
    · rcases h5 with h5 | h5
      · left; rw [← h5]; exact hg
      · right; rw [h5] at hg; injection hg with hg; rw [← hg]; simp
end Go.Proofs.YtpcjigdmfchbdaaDoor
