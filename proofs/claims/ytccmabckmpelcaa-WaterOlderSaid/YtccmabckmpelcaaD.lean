import Derived.Test.YtccmabckmpelcaaC
import Derived.Laws.CopyOwn
namespace Go.Proofs.Ytccmabckmpelcaa
open Go.RowKit

theorem below_set {w wr : World} {B g : Nat} {k : Nat} {u : Value} (h : Below B w wr) (hg : B ≤ g) : Below B w (wr.setCell ⟨g, k, none⟩ u) := h.setCell hg u

/-- A row of one's own that is written to. -/
def Row (w : World) (B g n : Nat) (xs : List Int) : Prop := w.ownsRow B 3 1 (.slice (some ⟨g, 0, none⟩) n n) n (xs.map (Value.int .i64)) ∧ xs.length = n
theorem Row.ints {w : World} {B g n : Nat} {xs : List Int} (h : Row w B g n xs) : Ints w B (.slice (some ⟨g, 0, none⟩) n n) xs := by
  unfold Ints; rw [h.2]; exact h.1
theorem Row.below {w w' : World} {B g n : Nat} {xs : List Int} (h : Row w B g n xs) (hb : Below w.heap.size w w') : Row w' B g n xs := ⟨own_below h.1 hb, h.2⟩
theorem Row.base {w : World} {B B' g n : Nat} {xs : List Int} (h : Row w B g n xs) (hb : B' ≤ B) : Row w B' g n xs := ⟨own_base h.1 hb, h.2⟩
theorem Row.cell {w : World} {B g n : Nat} {xs : List Int} (h : Row w B g n xs) {j : Nat} (hj : j < n) : w.cell? ⟨g, j, none⟩ = some (.int .i64 (xs.getD j 0)) := by
  rw [h.1.cellAt j (by omega)]
  have := h.2
  simp [List.getD_eq_getElem?_getD, show j < xs.length by omega]
theorem Row.frozen {w : World} {B g n : Nat} {xs : List Int} (h : Row w B g n xs) (j : Nat) : w.frozen? ⟨g, j, none⟩ = false := h.1.frozenAt j
theorem Row.set {w : World} {B g n : Nat} {xs : List Int} (h : Row w B g n xs) (j : Nat) (y : Int) : Row (w.setCell ⟨g, j, none⟩ (.int .i64 y)) B g n (xs.set j y) := by
  refine ⟨?_, by rw [List.length_set]; exact h.2⟩
  rw [List.map_set]; exact (h.1.stored j _).1
theorem Row.lt {w : World} {B g n : Nat} {xs : List Int} (h : Row w B g n xs) : B ≤ g ∧ g < w.heap.size := by
  rcases h.1.2 with ⟨h', _⟩ | ⟨g', cap', cur, h', hB, hg, _⟩
  · simp at h'
  · simp only [Value.slice.injEq, Option.some.injEq, Addr.mk.injEq, and_true, true_and] at h'
    obtain ⟨rfl, rfl⟩ := h'
    exact ⟨hB, (Array.getElem?_eq_some_iff.1 hg).1⟩
theorem Row.reads {w : World} {B g n : Nat} {xs : List Int} (h : Row w B g n xs) : Reads w (.slice (some ⟨g, 0, none⟩) n n) xs := h.ints.shape

/-- make([]int, n) at the model's operation. -/
theorem make_row {ops : Array Oper} {rest : List Oper} {o : Oper} {a : Act} {Q : Exit → Act → World → Prop} {w : World} {B : Nat}
    (n : Nat) (hC : n ≤ 1000000) (hB : B ≤ w.heap.size) (hg : o.guard = none) (l c : Operand) (hop : o.op = Op.makeSlice 22 l c)
    (hl : a.eval l = .int .i64 (n : Int)) (hc : a.eval c = .int .i64 (n : Int))
    (hK : ∀ w', Row w' B w.heap.size n (List.replicate n 0) → Below B w w' → wpList Try.prog ops Q rest (a.put o.dst (.slice (some ⟨w.heap.size, 0, none⟩) n n)) w') :
    wpList Try.prog ops Q (o :: rest) a w := by
  obtain ⟨i0, hi, hz0, hz1, hz2⟩ := info_parts info3
  refine wpList_plain hg fun K hK' => ?_
  have hr := run_make (P := Try.prog) w 22 3 i0 (.int .i64 0) Try.underlying22 hi hz0 .i64 .i64 (n : Int) (n : Int) (by omega) (by omega) (by rw [hz2]; omega) (by omega)
  simp only [Int.toNat_natCast, hz1, Nat.mul_one] at hr
  unfold Oper.wp
  simp [execOp, hop, hl, hc, hr, Result.andThen]
  refine hK' _ _ (hK _ ⟨⟨by simp, .inr ⟨w.heap.size, n, _, rfl, hB, heap_alloc_new w _, Nat.le_refl _, by unfold maxLen; omega, by simp [size_madeCells], ?_⟩⟩, by simp⟩ ((Below.refl _ _).alloc hB _))
  show (madeCells #[Value.int .i64 0] n).toList.take (n * 1) = _
  rw [toList_madeCells_one, Nat.mul_one, List.take_replicate, Nat.min_self, List.map_replicate]

/-- copy(row, ints) of as many ints. -/
theorem copy_run {w : World} {B g n : Nat} {xs us : List Int} {u : Value}
    (hr : Row w B g n xs) (hu : Reads w u us) (hl : us.length = n) (h1 : 1 ≤ n) :
    ∃ w', Sem.run Try.prog (Builtin.copy_ #[22, 22] 3 #[.slice (some ⟨g, 0, none⟩) n n, u]) w = .ok (.int .i64 n) w' ∧ Row w' B g n us ∧ Below B w w' := by
  obtain ⟨i0, hi, hz0, hz1, hz2⟩ := info_parts info3
  obtain ⟨ao, c, rfl, _, hc⟩ := hu
  obtain ⟨gs, os, rfl, hgs, hc⟩ := hc (fun e => by rw [e] at hl; simp at hl; omega)
  rcases hr.1.2 with ⟨h', _⟩ | ⟨g', cap', cur, h', hB, hg, hnc, hcm, hcs, htake⟩
  · simp at h'
  simp only [Value.slice.injEq, Option.some.injEq, Addr.mk.injEq, and_true, true_and] at h'
  obtain ⟨rfl, rfl⟩ := h'
  have hlm : (us.map (Value.int .i64)).length = n := by simpa using hl
  have hrun := run_copy_row (P := Try.prog) w 22 22 3 3 g 0 n n ⟨gs, os, none⟩ us.length c cur 3 (us.map (Value.int .i64)) Try.underlying22 (by rw [hi]; simp [hz1]) hg (by rw [hlm, hl]; exact (Nat.min_self n).symm) ?_ (by rw [hlm, hcs]; omega) ?_
  · rw [hlm] at hrun
    refine ⟨_, hrun, ⟨⟨by simp [hl], .inr ⟨g, n, _, rfl, hB, setRow_heap w g cur _ 3 (0, 0) hg, Nat.le_refl _, hcm, ?_, ?_⟩⟩, hl⟩, below_setRow (Below.refl _ _) hB _⟩
    · simp [hl, hcs]
    · simp [hl]
  · intro j v hj
    rw [List.getElem?_map, Option.map_eq_some_iff] at hj
    obtain ⟨x, hx, rfl⟩ := hj
    obtain ⟨hj1, hj2⟩ := List.getElem?_eq_some_iff.1 hx
    have := hc j hj1
    rw [show (⟨gs, os, none⟩ : Addr).add j = ⟨gs, os + j, none⟩ from by simp [Addr.add], this, List.getD_eq_getElem?_getD, hx]; rfl
  · intro v hv
    rw [List.mem_map] at hv
    obtain ⟨x, _, rfl⟩ := hv
    rfl

def grow1 (us : List Int) (p : Nat) : List Int := us.set p (us.getD p 0 + 1)
theorem grow1_len (us : List Int) (p : Nat) : (grow1 us p).length = us.length := by simp [grow1]

set_option maxHeartbeats 1000000 in
set_option maxRecDepth 100000 in
theorem grown48 {w : World} {u : Value} {us : List Int} (hu : Reads w u us) (p : Nat) (hp : p < us.length) (hl : us.length ≤ 1000000) (h0 : 0 ≤ us.getD p 0) (h1 : us.getD p 0 ≤ 1000000) :
    Calls Try.prog 48 #[u, .int .i64 p] w fun e w' => ∃ v, e = .returned v ∧ Reads w' v (grow1 us p) ∧ Below w.heap.size w w' := by
  have hu' := hu
  obtain ⟨ao, c, rfl, _, _⟩ := hu
  obtain ⟨n, hn⟩ : ∃ n, n = us.length := ⟨_, rfl⟩
  rw [← hn] at hp hl hu' ⊢
  have hn' := Lib.hid hn
  clear hn
  go_enter Try.func48, Try.ntmps48
  go_wp2_with (first | (at_make; refine make_row n hl (Nat.le_refl w.heap.size) rfl _ _ rfl rfl rfl ?_; intro w1 hr1 hb1))
  obtain ⟨w2, he, hr2, hb2⟩ := copy_run hr1 (hu'.below hb1) hn'.out.symm (by omega)
  have c1 := hr2.cell hp
  have c2 := hr2.frozen p
  have hr2' := Lib.hid hr2
  clear hr2 hr1
  obtain ⟨x, hx⟩ : ∃ x, x = us.getD p 0 := ⟨_, rfl⟩
  rw [← hx] at c1 h0 h1
  have hx' := Lib.hid hx
  clear hx
  rw [he]
  simp only [Result.andThen]
  rw [Oper.upon_value]
  go_wp2
  go_ret
  refine ⟨_, rfl, ?_, below_set (hb1.trans hb2) (Nat.le_refl _)⟩
  have := (hr2'.out.set p (x + 1)).reads
  unfold grow1
  rw [← hx'.out]
  exact this
end Go.Proofs.Ytccmabckmpelcaa
