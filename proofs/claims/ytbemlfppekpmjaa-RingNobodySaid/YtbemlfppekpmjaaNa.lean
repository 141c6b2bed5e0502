import Derived.Test.YtbemlfppekpmjaaZf
/-! Rings and computations that no function returned. -/
namespace Go.Proofs.Ytbemlfppekpmjaa
open Go.RowKit Rng
/-- Nothing, or nothing that a function returned. -/
def Gh (w : World) (p : Value) : Prop := p = .pointer none ∨ ∃ x, p = .pointer (some ⟨x, 0, none⟩) ∧ w.cell? ⟨x, 0, none⟩ = some (.pointer none)
theorem gh55 {w : World} {p : Value} (h : Gh w p) : Calls Try.prog 55 #[p] w fun e w' => e = .returned (.bool false) ∧ w = w' := by
  rcases h with rfl | ⟨x, rfl, hx⟩
  · exact nobody55
  · exact other55 hx
theorem gh61 {w : World} {p : Value} (h : Gh w p) : Calls Try.prog 61 #[p] w fun e w' => e = .returned (.bool false) ∧ w = w' := by
  rcases h with rfl | ⟨x, rfl, hx⟩
  · exact nobody61
  · exact other61 hx
set_option maxRecDepth 100000 in
theorem gh56 {w : World} {p : Value} (h : Gh w p) (i : Int) : Calls Try.prog 56 #[p, .int .i64 i] w fun e w' => e = .returned (.bool false) ∧ w = w' := by
  have ht := Lib.hid (gh55 h)
  clear h
  go_enter Try.func56, Try.ntmps56
  go_wp2_with (go_at_call 55; refine ht.out.mono ?_; rintro e wj ⟨rfl, rfl⟩)
  go_ret
  exact ⟨rfl, rfl⟩
set_option maxRecDepth 100000 in
theorem gh22 {w : World} {p : Value} (h : Gh w p) (i : Int) : Calls Try.prog 22 #[p, .int .i64 i] w fun e w' => e = .returned (.int .i64 6) ∧ w = w' := by
  have ht := Lib.hid (gh55 h)
  clear h
  go_enter Try.func22, Try.ntmps22
  go_wp2_with (go_at_call 55; refine ht.out.mono ?_; rintro e wj ⟨rfl, rfl⟩)
  go_ret
  exact ⟨rfl, rfl⟩
set_option maxRecDepth 100000 in
theorem gh25 {w : World} {p : Value} (h : Gh w p) (i : Int) : Calls Try.prog 25 #[p, .int .i64 i] w fun e w' => e = .returned (.int .i64 6) ∧ w = w' := by
  have ht := Lib.hid (gh55 h)
  clear h
  go_enter Try.func25, Try.ntmps25
  go_wp2_with (go_at_call 55; refine ht.out.mono ?_; rintro e wj ⟨rfl, rfl⟩)
  go_ret
  exact ⟨rfl, rfl⟩
set_option maxRecDepth 100000 in
theorem gh46 {w : World} {p : Value} (h : Gh w p) (i : Int) : Calls Try.prog 46 #[p, .int .i64 i] w fun e w' => e = .returned (.slice none 0 0) ∧ w = w' := by
  have h := Lib.hid h
  go_enter Try.func46, Try.ntmps46
  go_wp2_with (go_at_call 56; refine (gh56 h.out i).mono ?_; rintro e wj ⟨rfl, rfl⟩)
  go_ret
  exact ⟨rfl, rfl⟩
set_option maxRecDepth 100000 in
theorem gh47 {w : World} {p : Value} (h : Gh w p) (i : Int) : Calls Try.prog 47 #[p, .int .i64 i] w fun e w' => e = .returned (.int .i64 0) ∧ w = w' := by
  have h := Lib.hid h
  go_enter Try.func47, Try.ntmps47
  go_wp2_with (go_at_call 56; refine (gh56 h.out i).mono ?_; rintro e wj ⟨rfl, rfl⟩)
  go_ret
  exact ⟨rfl, rfl⟩
set_option maxRecDepth 100000 in
theorem gh48 {w : World} {p : Value} (h : Gh w p) : Calls Try.prog 48 #[p] w fun e w' => e = .returned (.int .i64 0) ∧ w = w' := by
  have ht := Lib.hid (gh55 h)
  clear h
  go_enter Try.func48, Try.ntmps48
  go_wp2_with (go_at_call 55; refine ht.out.mono ?_; rintro e wj ⟨rfl, rfl⟩)
  go_ret
  exact ⟨rfl, rfl⟩
set_option maxRecDepth 100000 in
theorem gh24 {w : World} {p : Value} (h : Gh w p) : Calls Try.prog 24 #[p] w fun e w' => e = .returned (.pointer none) ∧ w = w' := by
  have ht := Lib.hid (gh55 h)
  clear h
  go_enter Try.func24, Try.ntmps24
  go_wp2_with (go_at_call 55; refine ht.out.mono ?_; rintro e wj ⟨rfl, rfl⟩)
  go_ret
  exact ⟨rfl, rfl⟩
set_option maxRecDepth 100000 in
theorem gh62 {w : World} {p : Value} (h : Gh w p) (i : Int) : Calls Try.prog 62 #[p, .int .i64 i] w fun e w' => e = .returned (.bool false) ∧ w = w' := by
  have ht := Lib.hid (gh61 h)
  clear h
  go_enter Try.func62, Try.ntmps62
  go_wp2_with (go_at_call 61; refine ht.out.mono ?_; rintro e wj ⟨rfl, rfl⟩)
  go_ret
  exact ⟨rfl, rfl⟩
set_option maxRecDepth 100000 in
theorem gh27 {w : World} {p : Value} (h : Gh w p) (i : Int) (k : Int) : Calls Try.prog 27 #[p, .int .i64 i, .int .i64 k] w fun e w' => e = .returned (.int .i64 6) ∧ w = w' := by
  have ht := Lib.hid (gh61 h)
  clear h
  go_enter Try.func27, Try.ntmps27
  go_wp2_with (go_at_call 61; refine ht.out.mono ?_; rintro e wj ⟨rfl, rfl⟩)
  go_ret
  exact ⟨rfl, rfl⟩
set_option maxRecDepth 100000 in
theorem gh29 {w : World} {p : Value} (h : Gh w p) (i : Int) : Calls Try.prog 29 #[p, .int .i64 i] w fun e w' => e = .returned (.int .i64 6) ∧ w = w' := by
  have ht := Lib.hid (gh61 h)
  clear h
  go_enter Try.func29, Try.ntmps29
  go_wp2_with (go_at_call 61; refine ht.out.mono ?_; rintro e wj ⟨rfl, rfl⟩)
  go_ret
  exact ⟨rfl, rfl⟩
set_option maxRecDepth 100000 in
theorem gh31 {w : World} {p : Value} (h : Gh w p) (i : Int) : Calls Try.prog 31 #[p, .int .i64 i] w fun e w' => e = .returned (.int .i64 6) ∧ w = w' := by
  have ht := Lib.hid (gh61 h)
  clear h
  go_enter Try.func31, Try.ntmps31
  go_wp2_with (go_at_call 61; refine ht.out.mono ?_; rintro e wj ⟨rfl, rfl⟩)
  go_ret
  exact ⟨rfl, rfl⟩
set_option maxRecDepth 100000 in
theorem gh37 {w : World} {p : Value} (h : Gh w p) : Calls Try.prog 37 #[p] w fun e w' => e = .returned (.slice none 0 0) ∧ w = w' := by
  have ht := Lib.hid (gh61 h)
  clear h
  go_enter Try.func37, Try.ntmps37
  go_wp2_with (go_at_call 61; refine ht.out.mono ?_; rintro e wj ⟨rfl, rfl⟩)
  go_ret
  exact ⟨rfl, rfl⟩
set_option maxRecDepth 100000 in
theorem gh41 {w : World} {p : Value} (h : Gh w p) (i : Int) : Calls Try.prog 41 #[p, .int .i64 i] w fun e w' => e = .returned (.bool false) ∧ w = w' := by
  have h := Lib.hid h
  go_enter Try.func41, Try.ntmps41
  go_wp2_with (go_at_call 62; refine (gh62 h.out i).mono ?_; rintro e wj ⟨rfl, rfl⟩)
  go_ret
  exact ⟨rfl, rfl⟩
set_option maxRecDepth 100000 in
theorem gh40 {w : World} {p : Value} (h : Gh w p) (i : Int) : Calls Try.prog 40 #[p, .int .i64 i] w fun e w' => e = .returned (.int .i64 (-1)) ∧ w = w' := by
  have h := Lib.hid h
  go_enter Try.func40, Try.ntmps40
  go_wp2_with (go_at_call 62; refine (gh62 h.out i).mono ?_; rintro e wj ⟨rfl, rfl⟩)
  go_ret
  exact ⟨rfl, rfl⟩
set_option maxRecDepth 100000 in
theorem gh42 {w : World} {p : Value} (h : Gh w p) (i : Int) : Calls Try.prog 42 #[p, .int .i64 i] w fun e w' => e = .returned (.int .i64 0) ∧ w = w' := by
  have h := Lib.hid h
  go_enter Try.func42, Try.ntmps42
  go_wp2_with (go_at_call 62; refine (gh62 h.out i).mono ?_; rintro e wj ⟨rfl, rfl⟩)
  go_ret
  exact ⟨rfl, rfl⟩
set_option maxRecDepth 100000 in
theorem gh38 {w : World} {p : Value} (h : Gh w p) : Calls Try.prog 38 #[p] w fun e w' => e = .returned (.bool false) ∧ w = w' := by
  have ht := Lib.hid (gh61 h)
  clear h
  go_enter Try.func38, Try.ntmps38
  go_wp2_with (go_at_call 61; refine ht.out.mono ?_; rintro e wj ⟨rfl, rfl⟩)
  go_ret
  exact ⟨rfl, rfl⟩
set_option maxRecDepth 100000 in
theorem gh33 {w : World} {p : Value} (h : Gh w p) : Calls Try.prog 33 #[p] w fun e w' => e = .returned (.pointer none) ∧ w = w' := by
  have ht := Lib.hid (gh61 h)
  clear h
  go_enter Try.func33, Try.ntmps33
  go_wp2_with (go_at_call 61; refine ht.out.mono ?_; rintro e wj ⟨rfl, rfl⟩)
  go_ret
  exact ⟨rfl, rfl⟩
/-- Two of them in a row. -/
theorem two_gh {w : World} {y : Nat} {a b : Value} (hy0 : w.cell? ⟨y, 0, none⟩ = some a) (hy1 : w.cell? ⟨y, 1, none⟩ = some b) (ha : Gh w a) (hb : Gh w b) {k : Nat} (hk : k < 2) : ∃ p, w.cell? ⟨y, k, none⟩ = some p ∧ Gh w p := by
  rcases (show k = 0 ∨ k = 1 by omega) with rfl | rfl
  · exact ⟨a, hy0, ha⟩
  · exact ⟨b, hy1, hb⟩
def NobEnd (w : World) (e : Ending) (w' : World) : Prop := e = .returned (.bool true) ∧ Below w.heap.size w w'
set_option maxHeartbeats 2000000 in
set_option maxRecDepth 100000 in
theorem walk13 (w : World) (i k : Int) : Calls Try.prog 13 #[.int .i64 i, .int .i64 k] w (NobEnd w) := by
  have hgA := heap_alloc_new w (.cells #[.pointer none, .slice none 0 0] 77)
  have hbA := below_alloc1 w (.cells #[.pointer none, .slice none 0 0] 77)
  have hgB := heap_alloc_new (w.alloc (.cells #[.pointer none, .slice none 0 0] 77)) (.cells #[.pointer none, .pointer (some ⟨w.heap.size, 0, none⟩)] 23)
  have hbB := below_alloc1 (w.alloc (.cells #[.pointer none, .slice none 0 0] 77)) (.cells #[.pointer none, .pointer (some ⟨w.heap.size, 0, none⟩)] 23)
  obtain ⟨W, hW⟩ : ∃ W, W = (w.alloc (.cells #[.pointer none, .slice none 0 0] 77)).alloc (.cells #[.pointer none, .pointer (some ⟨w.heap.size, 0, none⟩)] 23) := ⟨_, rfl⟩
  rw [World.size_alloc] at hgB
  have hx : Gh W (.pointer (some ⟨w.heap.size, 0, none⟩)) := .inr ⟨_, rfl, by rw [hW]; exact (hbB.cell (p := ⟨w.heap.size, 0, none⟩) (by rw [World.size_alloc]; exact Nat.lt_succ_self _)).trans (cell_of_row _ _ 0 _ _ _ hgA)⟩
  rw [← hW] at hgB
  have h2 := Lib.hid (fun (j : Nat) (hj : j < 2) => two_gh (cell_of_row _ _ 0 _ _ _ hgB) (cell_of_row _ _ 1 _ _ _ hgB) (.inl rfl) hx hj)
  have hbW := Lib.hid (show Below w.heap.size w W by rw [hW]; exact hbA.trans (hbB.mono hbA.size))
  have hgC := heap_alloc_new W (.cells #[.pointer none, .slice none 0 0, .slice none 0 0] 84)
  have hbC := below_alloc1 W (.cells #[.pointer none, .slice none 0 0, .slice none 0 0] 84)
  have hgD := heap_alloc_new (W.alloc (.cells #[.pointer none, .slice none 0 0, .slice none 0 0] 84)) (.cells #[.pointer none, .pointer (some ⟨W.heap.size, 0, none⟩)] 27)
  have hbD := below_alloc1 (W.alloc (.cells #[.pointer none, .slice none 0 0, .slice none 0 0] 84)) (.cells #[.pointer none, .pointer (some ⟨W.heap.size, 0, none⟩)] 27)
  obtain ⟨V, hV⟩ : ∃ V, V = (W.alloc (.cells #[.pointer none, .slice none 0 0, .slice none 0 0] 84)).alloc (.cells #[.pointer none, .pointer (some ⟨W.heap.size, 0, none⟩)] 27) := ⟨_, rfl⟩
  rw [World.size_alloc] at hgD
  have hx2 : Gh V (.pointer (some ⟨W.heap.size, 0, none⟩)) := .inr ⟨_, rfl, by rw [hV]; exact (hbD.cell (p := ⟨W.heap.size, 0, none⟩) (by rw [World.size_alloc]; exact Nat.lt_succ_self _)).trans (cell_of_row _ _ 0 _ _ _ hgC)⟩
  rw [← hV] at hgD
  have h3 := Lib.hid (fun (j : Nat) (hj : j < 2) => two_gh (cell_of_row _ _ 0 _ _ _ hgD) (cell_of_row _ _ 1 _ _ _ hgD) (.inl rfl) hx2 hj)
  have hbV := Lib.hid (show Below w.heap.size w V by rw [hV]; exact hbW.out.trans ((hbC.trans (hbD.mono hbC.size)).mono hbW.out.size))
  have hW' := Lib.hid hW
  have hV' := Lib.hid hV
  clear hgA hbA hgB hbB hx hgC hbC hgD hbD hx2 hW hV
  go_enter Try.func13, Try.ntmps13
  go_wp2_with fail
  rw [← hW'.out]
  go_loopw [16] (fun iv wr => ∃ j : Nat, j ≤ 2 ∧ iv = .int .i64 j ∧ Hid (Same W wr)) (fun iv _ => 2 - (intOf iv).toNat)
  case atStart => exact ⟨0, by omega, rfl, Lib.hid (show Same _ _ from rfl)⟩
  case round =>
    obtain ⟨j, hj, rfl, hw⟩ := hrel
    obtain rfl := hw.out
    by_cases hlt : j < 2
    · obtain ⟨p, hc, hp⟩ := h2.out j hlt
      have hp := Lib.hid hp
      have hji : (j : Int) < 2 := by omega
      go_wp2_with (first
            | (go_at_call 22; refine (gh22 hp.out i).mono ?_; rintro e wj ⟨rfl, rfl⟩)
            | (go_at_call 25; refine (gh25 hp.out i).mono ?_; rintro e wj ⟨rfl, rfl⟩)
            | (go_at_call 46; refine (gh46 hp.out i).mono ?_; rintro e wj ⟨rfl, rfl⟩)
            | (go_at_call 47; refine (gh47 hp.out i).mono ?_; rintro e wj ⟨rfl, rfl⟩)
            | (go_at_call 48; refine (gh48 hp.out).mono ?_; rintro e wj ⟨rfl, rfl⟩)
            | (go_at_call 24; refine (gh24 hp.out).mono ?_; rintro e wj ⟨rfl, rfl⟩))
      go_roundw
      case rel => exact ⟨j + 1, by omega, by go_num, Lib.hid (show Same _ _ from rfl)⟩
      case measure => simp [intOf]; omega
    · obtain rfl : j = 2 := by omega
      rw [show (((2 : Nat)) : Int) = 2 from rfl]
      go_wp2_with fail
      rw [← hV'.out]
      go_loopw [59] (fun iv wr => ∃ j : Nat, j ≤ 2 ∧ iv = .int .i64 j ∧ Hid (Same V wr)) (fun iv _ => 2 - (intOf iv).toNat)
      case atStart => exact ⟨0, by omega, rfl, Lib.hid (show Same _ _ from rfl)⟩
      case round =>
        obtain ⟨j, hj, rfl, hw⟩ := hrel
        obtain rfl := hw.out
        by_cases hlt : j < 2
        · obtain ⟨p, hc, hp⟩ := h3.out j hlt
          have hp := Lib.hid hp
          have hji : (j : Int) < 2 := by omega
          go_wp2_with (first
            | (go_at_call 27; refine (gh27 hp.out i k).mono ?_; rintro e wj ⟨rfl, rfl⟩)
            | (go_at_call 29; refine (gh29 hp.out i).mono ?_; rintro e wj ⟨rfl, rfl⟩)
            | (go_at_call 31; refine (gh31 hp.out i).mono ?_; rintro e wj ⟨rfl, rfl⟩)
            | (go_at_call 37; refine (gh37 hp.out).mono ?_; rintro e wj ⟨rfl, rfl⟩)
            | (go_at_call 41; refine (gh41 hp.out i).mono ?_; rintro e wj ⟨rfl, rfl⟩)
            | (go_at_call 40; refine (gh40 hp.out i).mono ?_; rintro e wj ⟨rfl, rfl⟩)
            | (go_at_call 42; refine (gh42 hp.out i).mono ?_; rintro e wj ⟨rfl, rfl⟩)
            | (go_at_call 38; refine (gh38 hp.out).mono ?_; rintro e wj ⟨rfl, rfl⟩)
            | (go_at_call 33; refine (gh33 hp.out).mono ?_; rintro e wj ⟨rfl, rfl⟩))
          go_roundw
          case rel => exact ⟨j + 1, by omega, by go_num, Lib.hid (show Same _ _ from rfl)⟩
          case measure => simp [intOf]; omega
        · obtain rfl : j = 2 := by omega
          go_wp2_with (go_at_call 19; refine (lives19 V).mono ?_; rintro e wl ⟨rfl, hb⟩; have hb' := Lib.hid hb; clear hb)
          go_ret
          exact ⟨rfl, hbV.out.trans (hb'.out.mono hbV.out.size)⟩
end Go.Proofs.Ytbemlfppekpmjaa
