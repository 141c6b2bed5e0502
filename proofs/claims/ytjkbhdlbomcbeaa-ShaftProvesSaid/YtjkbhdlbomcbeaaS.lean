import Derived.Test.YtjkbhdlbomcbeaaQ
namespace Go.Proofs.Ytjkbhdlbomcbeaa
open Go.RowKit Shf

theorem part_none {s : Sh} (hs : Loose s) : Part s (List.replicate s.n none) where
  len := List.length_replicate
  range := fun i x _ h => by rw [at_none] at h; cases h
  load := fun t _ _ => by rw [used_none]; have := hs.power; omega
  order := fun o _ y h => by rw [at_none] at h; cases h
theorem openN_le (s : Sh) (st : List (Option Int)) : openN s st ≤ s.n := by
  unfold openN
  refine Nat.le_trans (List.length_filter_le _ _) ?_
  rw [List.length_range]; exact Nat.le_refl _
theorem make26 (W : World) (n : Nat) (hC : n ≤ 1000000) : Sem.run Try.prog (Instr.makeSlice 26 (.int .i64 (n : Int)) (.int .i64 (n : Int))) W = .ok (.slice (some ⟨W.heap.size, 0, none⟩) n n) (W.alloc (.cells (madeCells #[Value.int .i64 0] n) 3)) := by
  obtain ⟨i0, hi, hz0, hz1, hz2⟩ := info_parts info3
  have hr := run_make (P := Try.prog) W 26 3 i0 (.int .i64 0) Try.underlying26 hi hz0 .i64 .i64 (n : Int) (n : Int) (by omega) (by omega) (by rw [hz2]; omega) (by omega)
  simp only [Int.toNat_natCast, hz1, Nat.mul_one] at hr
  exact hr
end Go.Proofs.Ytjkbhdlbomcbeaa
