import Derived.Test.YtbemlfppekpmjaaQa
import Derived.Test.YtbemlfppekpmjaaZf
namespace Go.Proofs.Ytbemlfppekpmjaa
open Go.RowKit Rng
def st0 (j : Nat) : Bool × Hd := (j == 0, if j = 0 then ⟨true, 0, 0⟩ else H0)
def rows (k : Nat) : List (Bool × Hd) := (List.range k).map st0
theorem rows_len (k : Nat) : (rows k).length = k := by simp [rows]
theorem rows_succ (k : Nat) : rows (k + 1) = rows k ++ [st0 k] := by unfold rows; rw [List.range_succ, List.map_append]; rfl
theorem rows_start {n : Nat} (hn : 1 ≤ n) : rows n = tl (WS.start n) := by
  unfold rows tl
  have hl : (WS.start n).n = n := by simp [WS.start, WS.n]
  rw [hl]
  refine List.map_congr_left fun j _ => ?_
  unfold st0 WS.eng
  rw [start_hd hn]
  by_cases e : j = 0
  · subst e; rfl
  · rw [if_neg e]; simp [H0]
/-- The reference's computation while it grows. -/
structure Gr (w0 w : World) (b : Nat) (rv : Value) (k : Nat) : Prop where
  below : Below w0.heap.size w0 w
  hb : w0.heap.size ≤ b
  bw : b < w.heap.size
  c0 : w.cell? ⟨b, 0, none⟩ = some rv
  c1 : w.cell? ⟨b, 1, none⟩ = some (.slice none 0 0)
  fz : ∀ j, w.frozen? ⟨b, j, none⟩ = false
  row : w.ownsRow w0.heap.size 110 4 rv k (flat encT (rows k))
  rb : rv.ownBlock ≠ some b
def RBeg (w : World) (n : Nat) (e : Ending) (w' : World) : Prop := ∃ b h c, e = .returned (.pointer (some ⟨b, 0, none⟩)) ∧ TkAt w' w.heap.size b h c (.slice none 0 0) (WS.start n) ∧ Below w.heap.size w w'
set_option maxHeartbeats 2000000 in
set_option maxRecDepth 100000 in
theorem begin21 {w : World} {n : Nat} (hn1 : 1 ≤ n) (hn10 : n ≤ 10) : Calls Try.prog 21 #[.int .i64 n] w (RBeg w n) := by
  obtain ⟨i0, hi, hz0, hz1, hz2⟩ := info_parts info110
  have hg := heap_alloc_new w (.cells #[.slice none 0 0, .slice none 0 0] 62)
  have hG0 := Lib.hid (show Gr w (w.alloc (.cells #[.slice none 0 0, .slice none 0 0] 62)) w.heap.size (.slice none 0 0) 0 from
    ⟨below_alloc1 _ _, Nat.le_refl _, by simp, cell_of_row _ _ 0 _ _ _ hg, cell_of_row _ _ 1 _ _ _ hg, fun j => frozen_of_row _ _ j _ _ hg, World.ownsRow_nil _ _ _ _, fun e => by cases e⟩)
  clear hg
  go_enter Try.func21, Try.ntmps21
  go_wp2_with fail
  go_loopw [4] (fun iv wr => ∃ k : Nat, k ≤ n ∧ iv = .int .i64 k ∧ ∃ rv, Hid (Gr w wr w.heap.size rv k)) (fun iv _ => n - (intOf iv).toNat)
  case atStart => exact ⟨0, Nat.zero_le _, rfl, _, hG0⟩
  case round =>
    obtain ⟨k, hk, rfl, rv, hG⟩ := hrel
    obtain ⟨ra, rc, rfl, -⟩ : ∃ a c, rv = .slice a k c ∧ k ≤ c := by obtain ⟨a, c, e, h, _⟩ := own_cells hG.out.row; exact ⟨a, c, e, h⟩
    have c0 := hG.out.c0
    by_cases hlt : k < n
    · have hki : (k : Int) < (n : Int) := by omega
      have hB := Lib.hid (show w.heap.size ≤ wr.heap.size from hG.out.below.size)
      have hzr := Lib.hid (show (flat encT (rows k)) ++ (#[Value.bool ((k : Int) == 0), .bool ((k : Int) == 0), .int .i64 (-1), .int .i64 0] : Array Value).toList = flat encT (rows (k + 1)) by
        rw [rows_succ, flat_app]
        congr 1
        by_cases e : k = 0
        · subst e; rfl
        · have h1 : ((k : Int) == 0) = false := by simp; omega
          have h2 : (k == 0) = false := by simpa using e
          rw [h1]
          show _ = encT (st0 k)
          unfold st0
          rw [if_neg e, h2]; rfl)
      go_wp2_with (
        at_builtin; refine app_one (n := k) (v := .slice ra k rc) (y := #[.bool ((k : Int) == 0), .bool ((k : Int) == 0), .int .i64 (-1), .int .i64 0]) Try.underlying59 hi hz0 hz1 hz2 rfl (by decide) (by decide) hG.out.row rfl (by intro u hu; simp at hu; rcases hu with rfl | rfl | rfl <;> rfl) (by omega) hB.out rfl _ _ rfl rfl rfl ?_; intro v1 w1 hO1 hb1 hk1 ho1 hs1
        have hbb := hk1 w.heap.size hG.out.bw hG.out.rb
        have d0 := (cell_block (p := ⟨w.heap.size, 0, none⟩) hbb).trans c0
        have df := (frozen_block (p := ⟨w.heap.size, 0, none⟩) hbb).trans (hG.out.fz 0)
        obtain ⟨g1, c1, rfl⟩ : ∃ g c, v1 = .slice (some ⟨g, 0, none⟩) (k + 1) c := by
          obtain ⟨ao, c, e, hc, h⟩ := own_cells hO1
          obtain ⟨g, rfl, _⟩ := h (by omega)
          exact ⟨g, c, e⟩
        have hne : (Value.slice (some ⟨g1, 0, none⟩) (k + 1) c1).ownBlock ≠ some w.heap.size := fun e => by
          rcases ho1 _ e with e2 | e2
          · exact hG.out.rb e2
          · have := hG.out.bw; omega
        have hG1 := Lib.hid (show Gr w (w1.setCell ⟨w.heap.size, 0, none⟩ (.slice (some ⟨g1, 0, none⟩) (k + 1) c1)) w.heap.size (.slice (some ⟨g1, 0, none⟩) (k + 1) c1) (k + 1) from
          ⟨below_set (hG.out.below.trans hb1) (Nat.le_refl _), Nat.le_refl _, by simpa using Nat.lt_of_lt_of_le hG.out.bw hs1, World.cell?_setCell_same' _ _ _ (by rw [d0]; rfl), (World.cell?_setCell_other _ _ _ _ (by simp)).trans ((cell_block (p := ⟨w.heap.size, 1, none⟩) hbb).trans hG.out.c1), fun j => by rw [World.frozen?_setCell]; exact (frozen_block (p := ⟨w.heap.size, j, none⟩) hbb).trans (hG.out.fz j),
            ownsRow_setCell_other (by rw [← hzr.out]; exact hO1) hne _, hne⟩)
        clear hO1 hb1 hk1 ho1 hs1 hne hbb)
      go_roundw
      case rel => exact ⟨k + 1, by omega, by go_num, _, hG1⟩
      case measure => simp [intOf]; omega
    · obtain rfl : k = n := by omega
      go_wp2_with fail
      go_ret
      obtain ⟨g, e⟩ : ∃ g, ra = some ⟨g, 0, none⟩ := by
        obtain ⟨a, c, e, _, h⟩ := own_cells hG.out.row
        obtain ⟨g, e2, _⟩ := h (by omega)
        injection e with e _ _
        exact ⟨g, by rw [e, e2]⟩
      subst e
      have hl : (WS.start k).n = k := by simp [WS.start, WS.n]
      refine ⟨w.heap.size, g, rc, rfl, ⟨Nat.le_refl _, hG.out.bw, by rw [hl]; exact c0, hG.out.c1, hG.out.fz, ?_, World.ownsRow_nil _ _ _ _, (fun e => hG.out.rb (by rw [e]; rfl)), (fun e => by cases e), (fun e => by cases e)⟩, hG.out.below⟩
      rw [hl, ← rows_start hn1]
      unfold OwnT
      rw [rows_len]
      exact hG.out.row
end Go.Proofs.Ytbemlfppekpmjaa
