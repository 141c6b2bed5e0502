import Derived.Test.YtbcoaiaocfommaaE
import Derived.Test.YtbcoaiaocfommaaH
namespace Go.Proofs.Ytbcoaiaocfommaa
open Go.RowKit

theorem sameL_self (a : List Int) : sameL a a = true := by unfold sameL; simp
theorem sameR_self (a : List RunT) : sameR a a = true := by unfold sameR; simp
theorem same25_yes {w : World} {u v : Value} {xs : List Int} (hu : Reads w u xs) (hv : Reads w v xs) (hl : xs.length ≤ 1000000) :
    Calls Try.prog 25 #[u, v] w fun e w' => e = .returned (.bool true) ∧ Below w.heap.size w w' :=
  (same25 hu hv hl).mono fun _ _ ⟨h1, h2⟩ => ⟨by rw [h1, sameL_self], h2⟩
theorem same36_yes {w : World} {u v : Value} {xs : List RunT} (hu : ReadsR w u xs) (hv : ReadsR w v xs) (hl : xs.length ≤ 1000000) :
    Calls Try.prog 36 #[u, v] w fun e w' => e = .returned (.bool true) ∧ Below w.heap.size w w' :=
  (same36 hu hv hl).mono fun _ _ ⟨h1, h2⟩ => ⟨by rw [h1, sameR_self], h2⟩

/-- A literal of two ints. -/
theorem reads_two (w : World) (a b : Int) : Reads (w.alloc (.cells #[.int .i64 a, .int .i64 b] 3)) (.slice (some ⟨w.heap.size, 0, none⟩) 2 2) [a, b] := by
  refine ⟨_, 2, rfl, fun _ => ⟨w.heap.size, rfl, by simp, fun j => World.frozen?_alloc_at _ _ _ _ rfl, fun j hj => ?_⟩⟩
  rw [World.cell?_alloc_at _ _ _ _ rfl]
  match j, hj with
  | 0, _ => rfl
  | 1, _ => rfl
theorem reads_run (w : World) (a b c : Nat) : ReadsR (w.alloc (.cells #[.int .i64 a, .int .i64 b, .int .i64 c] 62)) (.slice (some ⟨w.heap.size, 0, none⟩) 1 1) [(a, b, c)] := by
  refine ⟨_, 1, rfl, fun _ => ⟨w.heap.size, rfl, by simp, fun j => World.frozen?_alloc_at _ _ _ _ rfl, fun j hj => ?_⟩⟩
  obtain rfl : j = 0 := by simp at hj; exact hj
  rw [World.cell?_alloc_at _ _ _ _ rfl, World.cell?_alloc_at _ _ _ _ rfl, World.cell?_alloc_at _ _ _ _ rfl]
  exact ⟨rfl, rfl, rfl⟩
theorem Reads.alloc {w : World} {v : Value} {xs : List Int} (h : Reads w v xs) (o : Obj) : Reads (w.alloc o) v xs := h.below ((Below.refl _ _).alloc (Nat.le_refl _) o)
theorem ReadsR.alloc {w : World} {v : Value} {xs : List RunT} (h : ReadsR w v xs) (o : Obj) : ReadsR (w.alloc o) v xs := h.below ((Below.refl _ _).alloc (Nat.le_refl _) o)

def abaab : ByteArray := ⟨#[97, 98, 97, 97, 98]⟩
theorem ex_chk : chk abaab = 0 := by decide
theorem ex_size : abaab.size = 5 := rfl
theorem ex_pers : pers abaab.data.toList abaab.size = [3, 5] := by decide
theorem ex_crits : crits abaab.data.toList (leastP abaab.data.toList) (abaab.size - 1) = [2, 4] := by decide
theorem ex_runs : runsCat abaab.data.toList (abaab.size / 2) = [(2, 4, 1)] := by decide
theorem ex_even : evenL 3 2 5 = [97, 97, 98, 97, 98] := by decide

theorem exPeriods (w : World) : Calls Try.prog 22 #[.string ⟨#[97, 98, 97, 97, 98]⟩] w (MadeE w [3, 5] 0) := by
  have := periods22 abaab w ex_chk
  rw [ex_pers] at this
  exact this
theorem exCritical (w : World) : Calls Try.prog 32 #[.string ⟨#[97, 98, 97, 97, 98]⟩] w (MadeE w [2, 4] 0) := by
  have := critical32 abaab w ex_chk
  rw [ex_crits] at this
  exact this
theorem exRuns (w : World) : Calls Try.prog 35 #[.string ⟨#[97, 98, 97, 97, 98]⟩] w (MadeRunsE w [(2, 4, 1)] 0) := by
  have := runs35_one abaab w ex_chk (by rw [ex_runs]; rfl)
  rw [ex_runs] at this
  exact this
theorem exEven (w : World) : Calls Try.prog 44 #[.int .i64 3, .int .i64 2] w (MadeS w [97, 97, 98, 97, 98] 0) := by
  have := even44 3 2 w (by omega) (by omega) (by omega) (by decide)
  rw [ex_even] at this
  exact this

set_option maxHeartbeats 1000000 in
set_option maxRecDepth 100000 in
theorem lives24 (w : World) : Calls Try.prog 24 #[] w fun e w' => e = .returned (.bool true) ∧ Below w.heap.size w w' := by
  go_enter Try.func24, Try.ntmps24
  go_wp2_with (first | (go_at_call 22; refine (exPeriods _).mono ?_; rintro e w1 ⟨v1, rfl, hv1, hb1⟩) | (go_at_call 32; refine (exCritical _).mono ?_; rintro e w2 ⟨v2, rfl, hv2, hb2⟩) | (go_at_call 35; refine (exRuns _).mono ?_; rintro e w3 ⟨v3, rfl, hv3, hb3⟩) | (go_at_call 44; refine (exEven _).mono ?_; rintro e w4 ⟨rfl, hb4⟩))
  have r1 := (((hv1.shape.below hb2).below hb3).below hb4).alloc (.cells #[.int .i64 3, .int .i64 5] 3)
  refine (same25_yes r1 (reads_two _ _ _) (by simp)).mono ?_
  rintro e w5 ⟨rfl, hb5⟩
  clear r1
  go_wp2_with fail
  have hb5' : Below w4.heap.size w4 w5 := ((Below.refl _ _).alloc (Nat.le_refl _) _).trans (hb5.mono (by simp))
  have r2 := (((hv2.shape.below hb3).below hb4).below hb5').alloc (.cells #[.int .i64 2, .int .i64 4] 3)
  refine (same25_yes r2 (reads_two _ _ _) (by simp)).mono ?_
  rintro e w6 ⟨rfl, hb6⟩
  clear r2
  go_wp2_with fail
  have hb6' : Below w5.heap.size w5 w6 := ((Below.refl _ _).alloc (Nat.le_refl _) _).trans (hb6.mono (by simp))
  have r3 := (((hv3.shape.below hb4).below hb5').below hb6').alloc (.cells #[.int .i64 (2 : Nat), .int .i64 (4 : Nat), .int .i64 (1 : Nat)] 62)
  refine (same36_yes r3 (reads_run _ _ _ _) (by simp)).mono ?_
  rintro e w7 ⟨rfl, hb7⟩
  clear r3
  go_wp2_with fail
  have hb7' : Below w6.heap.size w6 w7 := ((Below.refl _ _).alloc (Nat.le_refl _) _).trans (hb7.mono (by simp))
  go_ret
  refine ⟨rfl, ?_⟩
  have q := below_seq (below_seq (below_seq (below_seq hb1 hb2 (Nat.le_refl _)) hb3 (Nat.le_refl _)) hb4 (Nat.le_refl _)) hb5' (Nat.le_refl _)
  exact below_seq (below_seq q hb6' (Nat.le_refl _)) hb7' (Nat.le_refl _)
end Go.Proofs.Ytbcoaiaocfommaa
