import Derived.Test.YtjkbhdlbomcbeaaXm
import Derived.Deep.RegionHeld3
import Derived.Deep.Cut
import Derived.Deep.CutRange
namespace Go.Proofs.Ytjkbhdlbomcbeaa
open Go.RowKit Go.Shelf Shf

/-- What a job needs from `a` up to `b`. -/
def needJ (j : J) (a b : Int) : Int := j.p * min (min (min j.l (b - a)) (max 0 (j.f + j.l - a))) (max 0 (b - lat j))
def JobIn (j : J) : Prop := 0 ≤ j.f ∧ j.f ≤ 24 ∧ 1 ≤ j.l ∧ j.l ≤ 24 ∧ j.t ≤ 24 ∧ 0 ≤ j.t ∧ 1 ≤ j.p ∧ j.p ≤ 20
theorem needJ_in {j : J} (h : JobIn j) {a b : Int} (hab : a ≤ b) : 0 ≤ needJ j a b ∧ needJ j a b ≤ 480 := by
  unfold JobIn at h
  unfold needJ
  obtain ⟨m, hm⟩ : ∃ m, m = min (min (min j.l (b - a)) (max 0 (j.f + j.l - a))) (max 0 (b - lat j)) := ⟨_, rfl⟩
  rw [← hm]
  have h1 : 0 ≤ m ∧ m ≤ 24 := by omega
  exact ⟨Int.mul_nonneg (by omega) h1.1, by
    have := Int.mul_le_mul (show j.p ≤ 20 by omega) h1.2 h1.1 (by omega)
    omega⟩
theorem run_min4 {P : Program} {w : World} (ts : Array TypeId) (t : TypeId) (a b c d m : Int) (hm : m = min (min (min a b) c) d) : (Builtin.min_ ts t #[.int .i64 a, .int .i64 b, .int .i64 c, .int .i64 d]).run P w = .ok (.int .i64 m) w := by
  have e : (if d < (if c < (if b < a then b else a) then c else (if b < a then b else a)) then d else (if c < (if b < a then b else a) then c else (if b < a then b else a))) = m := by
    rw [hm]; split <;> split <;> split <;> omega
  have h : (Builtin.min_ ts t #[.int .i64 a, .int .i64 b, .int .i64 c, .int .i64 d]).run P w = .ok (.int .i64 (if d < (if c < (if b < a then b else a) then c else (if b < a then b else a)) then d else (if c < (if b < a then b else a) then c else (if b < a then b else a)))) w := by
    simp [Builtin.min_, Builtin.min2]
  rw [h, e]
set_option maxHeartbeats 4000000 in
set_option maxRecDepth 100000 in
theorem need66 {w : World} {j : J} (h : JobIn j) {a b : Int} (ha : 0 ≤ a ∧ a ≤ 24) (hb : 0 ≤ b ∧ b ≤ 24) (hab : a ≤ b) :
    Calls Try.prog 66 #[.agg #[.int .i64 j.f, .int .i64 j.t, .int .i64 j.l, .int .i64 j.p], .int .i64 a, .int .i64 b] w fun e w' => e = .returned (.int .i64 (needJ j a b)) ∧ Below w.heap.size w w' := by
  have hin := needJ_in h hab
  obtain ⟨f, t, l, p⟩ := j
  unfold JobIn at h
  simp only at h ⊢
  have e38 := Lib.hid (show ∀ W, Calls Try.prog 38 #[.agg #[.int .i64 f, .int .i64 t, .int .i64 l, .int .i64 p]] W fun e w' => e = .returned (.int .i64 (t - l)) ∧ Below W.heap.size W w' from fun W => latest38 ⟨f, t, l, p⟩ (by simp only; omega))
  obtain ⟨x, hx⟩ : ∃ x, x = max 0 (f + l - a) := ⟨_, rfl⟩
  obtain ⟨y, hy⟩ : ∃ y, y = max 0 (b - (t - l)) := ⟨_, rfl⟩
  have hneed : needJ ⟨f, t, l, p⟩ a b = p * min (min (min l (b - a)) x) y := by rw [hx, hy]; rfl
  obtain ⟨m, hm⟩ : ∃ m, m = min (min (min l (b - a)) x) y := ⟨_, rfl⟩
  rw [← hm] at hneed
  rw [hneed] at hin ⊢
  have s1 : IntKind.i64.wrap (f + l) = f + l := IntWalk.i64_in _ (by omega)
  have s2 : IntKind.i64.wrap (f + l - a) = f + l - a := IntWalk.i64_in _ (by omega)
  have s3 : IntKind.i64.wrap (b - (t - l)) = b - (t - l) := IntWalk.i64_in _ (by omega)
  have s4 : IntKind.i64.wrap (p * m) = p * m := IntWalk.i64_in _ (by omega)
  have hxy : 0 ≤ x ∧ x ≤ 48 ∧ 0 ≤ y ∧ y ≤ 48 := by omega
  have hm4 := fun (W : World) => run_min4 (P := Try.prog) (w := W) #[3, 3, 3, 3] 3 l (b - a) x y m hm
  have hx' := Lib.hid hx
  have hy' := Lib.hid hy
  have hb0 := Lib.hid (below_alloc1 w (.cells #[.int .i64 f, .int .i64 t, .int .i64 l, .int .i64 p] 56))
  clear hx hy hneed hm hin
  go_enter Try.func66, Try.ntmps66
  go_wp2_with fail
  obtain ⟨W, hW⟩ : ∃ W, W = w.alloc (.cells #[.int .i64 f, .int .i64 t, .int .i64 l, .int .i64 p] 56) := ⟨_, rfl⟩
  have q0 : W.cell? ⟨w.heap.size, 0, none⟩ = some (.int .i64 f) := by rw [hW]; simp
  have q1 : W.cell? ⟨w.heap.size, 1, none⟩ = some (.int .i64 t) := by rw [hW]; simp
  have q2 : W.cell? ⟨w.heap.size, 2, none⟩ = some (.int .i64 l) := by rw [hW]; simp
  have q3 : W.cell? ⟨w.heap.size, 3, none⟩ = some (.int .i64 p) := by rw [hW]; simp
  have hwW := Lib.hid (show w.heap.size < W.heap.size by rw [hW]; simp)
  rw [← hW] at hb0 ⊢
  clear hW
  go_cut [7, 8] from 9 to 21 (fun xv yv wx => ∃ w4 : World, w4 = wx ∧ xv = .int .i64 x ∧ yv = .int .i64 y ∧ Hid (Below W.heap.size W w4))
  case first =>
    by_cases hx2 : 0 < f + l - a <;> by_cases hy2 : 0 < b - (t - l)
    all_goals
      refine wp_region_noPanic ?_
      go_region_held3 (fun w' => w'.cell? ⟨w.heap.size, 0, none⟩ = some (.int .i64 f) ∧ w'.cell? ⟨w.heap.size, 1, none⟩ = some (.int .i64 t) ∧ w'.cell? ⟨w.heap.size, 2, none⟩ = some (.int .i64 l) ∧ w'.cell? ⟨w.heap.size, 3, none⟩ = some (.int .i64 p))
        (first
          | exact ⟨q0, q1, q2, q3⟩
          | exact ⟨(hbW.cell (p := ⟨w.heap.size, 0, none⟩) hwW.out).trans q0, (hbW.cell (p := ⟨w.heap.size, 1, none⟩) hwW.out).trans q1, (hbW.cell (p := ⟨w.heap.size, 2, none⟩) hwW.out).trans q2, (hbW.cell (p := ⟨w.heap.size, 3, none⟩) hwW.out).trans q3⟩)
        ((go_at_call 38; refine (e38.out _).mono ?_; rintro e wk ⟨rfl, hbk⟩; have hbW := (Below.refl W.heap.size W).drew.trans hbk))
      all_goals refine NoPanic.normal ?_
      all_goals go_wp2_with fail
      all_goals go_meet
      all_goals exact ⟨_, rfl, int_eq (by rw [hx'.out]; omega), int_eq (by rw [hy'.out]; omega), Lib.hid hbW⟩
  case rest =>
    obtain ⟨w4, rfl, rfl, rfl, hb4⟩ := hcut
    have r0 := (hb4.out.cell (p := ⟨w.heap.size, 0, none⟩) hwW.out).trans q0
    have r2 := (hb4.out.cell (p := ⟨w.heap.size, 2, none⟩) hwW.out).trans q2
    have r3 := (hb4.out.cell (p := ⟨w.heap.size, 3, none⟩) hwW.out).trans q3
    have hbE := Lib.hid (below_call hb0.out hb4.out)
    go_wp2_with fail
    go_ret
    exact ⟨rfl, hbE.out⟩
end Go.Proofs.Ytjkbhdlbomcbeaa
