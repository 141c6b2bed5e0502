import Derived.Test.YtbcoaiaocfommaaH
import Derived.Test.YtbcoaiaocfommaaShB
import Derived.Lib.OwnBridge
namespace Go.Proofs.Ytbcoaiaocfommaa
open Go.RowKit Go.Sort

/-! ## points on a circle -/
def pt (s n i : Nat) : Nat := i * s % n
def pts (s n c : Nat) : List Int := (List.range c).map fun (i : Nat) => ((pt s n i : Nat) : Int)
theorem pts_len (s n c : Nat) : (pts s n c).length = c := by unfold pts; simp
theorem pts_snoc (s n c : Nat) : pts s n (c + 1) = pts s n c ++ [((pt s n c : Nat) : Int)] := by unfold pts; rw [List.range_succ]; simp

def fillC (xs : List Int) (n : Nat) : List Value := xs.map (Value.int .i64) ++ List.replicate (n - xs.length) (.int .i64 0)
theorem fillC_full (xs : List Int) (n : Nat) (h : n ≤ xs.length) : fillC xs n = xs.map (Value.int .i64) := by
  unfold fillC; rw [show n - xs.length = 0 from by omega]; simp
theorem fillC_set (xs : List Int) (n : Nat) (y : Int) (h : xs.length < n) : (fillC xs n).set xs.length (.int .i64 y) = fillC (xs ++ [y]) n := by
  unfold fillC
  rw [List.set_append_right _ _ (by simp), List.map_append, List.length_map, Nat.sub_self, List.length_append, List.length_singleton]
  obtain ⟨m, hm⟩ : ∃ m, n - xs.length = m + 1 := ⟨n - xs.length - 1, by omega⟩
  rw [hm, show n - (xs.length + 1) = m from by omega, List.replicate_succ, List.set_cons_zero]
  simp
theorem fillC_at (xs : List Int) (n : Nat) (h : xs.length < n) : (fillC xs n)[xs.length]? = some (.int .i64 0) := by
  unfold fillC
  rw [List.getElem?_append_right (by simp), List.length_map, Nat.sub_self]
  obtain ⟨m, hm⟩ : ∃ m, n - xs.length = m + 1 := ⟨n - xs.length - 1, by omega⟩
  rw [hm]; rfl

/-- make([]int, n, C) at the model's operation. -/
theorem make_ints {ops : Array Oper} {rest : List Oper} {o : Oper} {a : Act} {Q : Exit → Act → World → Prop} {w : World} {B : Nat}
    (n C : Nat) (hnc : n ≤ C) (hC : C ≤ 1000000) (hB : B ≤ w.heap.size) (hg : o.guard = none) (l c : Operand) (hop : o.op = Op.makeSlice 23 l c)
    (hl : a.eval l = .int .i64 (n : Int)) (hc : a.eval c = .int .i64 (C : Int))
    (hK : ∀ w', w'.ownsRow B 3 1 (.slice (some ⟨w.heap.size, 0, none⟩) n C) n (fillC [] n) → w.grownBy w' none → wpList Try.prog ops Q rest (a.put o.dst (.slice (some ⟨w.heap.size, 0, none⟩) n C)) w') :
    wpList Try.prog ops Q (o :: rest) a w := by
  obtain ⟨i0, hi, hz0, hz1, hz2⟩ := info_parts info3
  refine wpList_plain hg fun K hK' => ?_
  have hr := run_make (P := Try.prog) w 23 3 i0 (.int .i64 0) Try.underlying23 hi hz0 .i64 .i64 (n : Int) (C : Int) (by omega) (by omega) (by rw [hz2]; omega) (by omega)
  simp only [Int.toNat_natCast, hz1, Nat.mul_one] at hr
  unfold Oper.wp
  simp [execOp, hop, hl, hc, hr, Result.andThen]
  refine hK' _ _ (hK _ ⟨by simp [fillC], .inr ⟨w.heap.size, C, _, rfl, hB, heap_alloc_new w _, hnc, by unfold maxLen; omega, by simp [size_madeCells], ?_⟩⟩ (World.grownBy_alloc w _ none))
  show (madeCells #[Value.int .i64 0] C).toList.take (n * 1) = _
  rw [toList_madeCells_one, Nat.mul_one, List.take_replicate, Nat.min_eq_left hnc]
  unfold fillC; simp

theorem own_grow {w : World} {B : Nat} {e : TypeId} {sz n : Nat} {v : Value} {xs : List Value} (h : w.ownsRow B e sz v n xs) (os : Array Obj) : (Sort.grow w os).ownsRow B e sz v n xs := by
  refine ⟨h.1, ?_⟩
  rcases h.2 with hn | ⟨g, cap, cur, rfl, hB, hg, rest⟩
  · exact .inl hn
  · refine .inr ⟨g, cap, cur, rfl, hB, ?_, rest⟩
    rw [heap_grow_old _ _ (Array.getElem?_eq_some_iff.1 hg).1]; exact hg

def sorted (l : List Int) : List Int := l.mergeSort fun x y => decide (x ≤ y)
theorem sorted_len (l : List Int) : (sorted l).length = l.length := by unfold sorted; simp

/-- slices.Sort of a row of ints that the call made. -/
theorem sort72 {w : World} {B g c cap : Nat} {zs : List Int} (hown : w.ownsRow B 3 1 (.slice (some ⟨g, 0, none⟩) c cap) c (zs.map (Value.int .i64))) (hc : c = zs.length) (hs : c ≤ 1000000) :
    Calls Try.prog 72 #[.slice (some ⟨g, 0, none⟩) c cap] w fun e w' => e = .returned (.tuple #[]) ∧ w'.ownsRow B 3 1 (.slice (some ⟨g, 0, none⟩) c cap) c ((sorted zs).map (Value.int .i64)) ∧ Below B w w' := by
  subst hc
  obtain ⟨g', cap', e, hBg, hgl, hnc, hcm, _, hH⟩ := Lib.holds_of_ownsRow (enc := Value.int .i64) hown (by simp)
  have e1 : g' = g ∧ cap' = cap := by cases e; exact ⟨rfl, rfl⟩
  obtain ⟨rfl, rfl⟩ := e1
  refine (Try.slices_Sort_int g' 0 cap' zs w hH hgl (by omega)).mono ?_
  rintro e' w' ⟨rfl, q, os, rfl⟩
  refine ⟨rfl, ?_, ?_⟩
  · have h2 := Lib.ownsRow_putRow (q := q) (ys := sorted zs) hown (sorted_len zs) (Nat.le_refl _)
    rw [List.take_of_length_le (by rw [sorted_len]; exact Nat.le_refl _)] at h2
    exact own_grow h2 os
  · have hb := Lib.below_putRow (enc := Value.int .i64) (q := q) (d := (sorted zs).toArray) (Below.refl B w) hBg
    refine ⟨hb.os, hb.tape, hb.output, Nat.le_trans hb.size (by simp [Sort.grow]), fun k hk => ?_⟩
    rw [← hb.block k hk]
    refine heap_grow_old _ _ ?_
    have := hb.size
    simp [putRow, mapBlock, Sort.ahead] at *
    omega
end Go.Proofs.Ytbcoaiaocfommaa
