import Derived.Test.YtbemlfppekpmjaaV
namespace Go.Proofs.Ytbemlfppekpmjaa
open Go.RowKit Rng
theorem sendM {w : World} {B b : Nat} {fv : Value} {M : Mb} {pet : Bool} (k : MbAt w B pet b fv M) (hl : M.fl.length ≤ 100000) (hs : M.st ≤ 100000) (kd nm : Nat) :
    Calls Try.prog 108 #[.pointer (some ⟨b, 0, none⟩), .agg #[.int .i64 kd, .int .i64 nm]] w (MbEnd w B pet b fv (M.send ⟨kd, nm⟩) (.tuple #[])) := by
  refine (send108 k.wr hl hs ⟨kd, nm⟩).mono ?_
  rintro e w' ⟨rfl, fv1, ka, kc, fr⟩
  exact ⟨rfl, fv1, k.ofWr ka kc ⟨rfl, rfl, rfl⟩, fr⟩
theorem learnM {w W : World} {B b : Nat} {fv : Value} {M : Mb} {pet : Bool} (k : MbAt w B pet b fv M) (hl : M.fl.length ≤ 100000) (hs : M.st ≤ 100000) (v : Nat) (hb : Below w.heap.size w W) :
    Calls Try.prog 105 #[.pointer (some ⟨b, 0, none⟩), .int .i64 v] W (MbEnd W B pet b fv (M.learn v) (.tuple #[])) := by
  refine (learnAt k.wr hl hs v hb).mono ?_
  rintro e w' ⟨rfl, fv1, ka, kc, fr⟩
  exact ⟨rfl, fv1, (k.below hb).ofWr ka kc ⟨rfl, rfl, rfl⟩, fr⟩
theorem goOf (M : Mb) (x : Nt) : M.pGo x = if nextV M = 108 then M.send x else if nextV M = 109 then M.pSecond x else M.pFirst x := by
  unfold Mb.pGo nextV
  by_cases h : M.ps = true
  · simp [h]
  · by_cases h2 : 0 < M.nt <;> simp [h, h2]
set_option maxHeartbeats 2000000 in
set_option maxRecDepth 100000 in
theorem recv_t_L0 {w : World} {B b : Nat} {fv : Value} {M : Mb} (k : MbAt w B true b fv M) (hl : M.fl.length ≤ 90000) (hs : M.st ≤ 90000) (kd nm : Nat) (hbg : M.bg = true) (hkd : kd = 3) (hld : M.ld = 0) :
    Calls Try.prog 103 #[.pointer (some ⟨b, 0, none⟩), .agg #[.int .i64 kd, .int .i64 nm]] w (MbEnd w B true b fv (M.learn nm) (.tuple #[])) := by
  have hbA := Lib.hid (below_alloc1 w (.cells #[.int .i64 kd, .int .i64 nm] 108))
  have k1 := Lib.hid (k.below hbA.out)
  have hgA := heap_alloc_new w (.cells #[.int .i64 kd, .int .i64 nm] 108)
  have x0 := cell_of_row _ _ 0 _ _ _ hgA
  have x1 := cell_of_row _ _ 1 _ _ _ hgA
  have c0 := k1.out.wr.c0
  rw [hbg] at c0
  have hl' := Lib.hid hl
  have hs' := Lib.hid hs
  have hXP := Lib.hid (show ¬ WrP b fv w.heap.size from fun e => by have := (k.wr.pos _ e).2; omega)
  have frA := Lib.hid (Frm.of_below (P := WrP b fv) hbA.out)
  have hkn : ((kd : Int) == 3) = true := by rw [hkd]; rfl
  have hld' := Lib.hid hld
  have c1 := (show (w.alloc (.cells #[.int .i64 kd, .int .i64 nm] 108)).cell? ⟨b, 1, none⟩ = some (.int .i64 M.ld) from k1.out.wr.c1)
  rw [hld'.out] at c1
  obtain ⟨V, hV⟩ : ∃ V, V = (w.alloc (.cells #[.int .i64 kd, .int .i64 nm] 108)) := ⟨_, rfl⟩
  have v1 : V.cell? ⟨w.heap.size, 1, none⟩ = some (.int .i64 nm) := by rw [hV]; exact x1
  have kC := Lib.hid (show MbAt V B true b fv M by rw [hV]; exact k1.out)
  have frC := Lib.hid (show Frm (WrP b fv) (WrP b fv) w V by rw [hV]; exact frA.out)
  have hV' := Lib.hid hV
  clear k hgA hl hs hbg hld hkd hV
  go_enter Try.func103, Try.ntmps103
  go_wp2_with fail
  rw [← hV'.out]
  have hln := Lib.hid (learnM kC.out (Nat.le_trans hl'.out (by omega)) (Nat.le_trans hs'.out (by omega)) nm (Below.refl _ V).drew)
  clear x0 x1 c0 c1
  refine wp_region_still_tail 5 (by kernel_rfl) (by kernel_rfl) ?_
  simp only [List.take_succ_cons, List.take_zero, List.drop_succ_cons, List.drop_zero]
  iterate 5 still_step
  refine wpStill_nil ?_
  go_wp2_with (go_at_call 105; refine hln.out.mono ?_; rintro e wg ⟨rfl, fv2, kg, fg⟩; have kg' := Lib.hid kg; have fg' := Lib.hid fg; clear kg fg)
  refine bodyPost_ret (results_none rfl _ _ _) rfl ?_
  exact ⟨rfl, fv2, kg'.out, frC.out.drew.trans fg'.out⟩
set_option maxHeartbeats 2000000 in
set_option maxRecDepth 100000 in
theorem recv_t_L1 {w : World} {B b : Nat} {fv : Value} {M : Mb} (k : MbAt w B true b fv M) (hl : M.fl.length ≤ 90000) (hs : M.st ≤ 90000) (kd nm : Nat) (hbg : M.bg = true) (hkd : kd = 3) (hld : M.ld ≠ 0) :
    Calls Try.prog 103 #[.pointer (some ⟨b, 0, none⟩), .agg #[.int .i64 kd, .int .i64 nm]] w (MbEnd w B true b fv M (.tuple #[])) := by
  have hbA := Lib.hid (below_alloc1 w (.cells #[.int .i64 kd, .int .i64 nm] 108))
  have k1 := Lib.hid (k.below hbA.out)
  have hgA := heap_alloc_new w (.cells #[.int .i64 kd, .int .i64 nm] 108)
  have x0 := cell_of_row _ _ 0 _ _ _ hgA
  have x1 := cell_of_row _ _ 1 _ _ _ hgA
  have c0 := k1.out.wr.c0
  rw [hbg] at c0
  have hl' := Lib.hid hl
  have hs' := Lib.hid hs
  have hXP := Lib.hid (show ¬ WrP b fv w.heap.size from fun e => by have := (k.wr.pos _ e).2; omega)
  have frA := Lib.hid (Frm.of_below (P := WrP b fv) hbA.out)
  have hkn : ((kd : Int) == 3) = true := by rw [hkd]; rfl
  have hld' := Lib.hid (show ((M.ld : Int) == 0) = false by simp; omega)
  have c1 := (show (w.alloc (.cells #[.int .i64 kd, .int .i64 nm] 108)).cell? ⟨b, 1, none⟩ = some (.int .i64 M.ld) from k1.out.wr.c1)
  have hld2 := hld'.out
  clear k hgA hl hs hbg hld hkd
  go_enter Try.func103, Try.ntmps103
  go_wp2_with fail
  refine bodyPost_ret (results_none rfl _ _ _) rfl ?_
  exact ⟨rfl, _, k1.out, frA.out⟩
set_option maxHeartbeats 2000000 in
set_option maxRecDepth 100000 in
theorem recv_t_S {w : World} {B b : Nat} {fv : Value} {M : Mb} (k : MbAt w B true b fv M) (hl : M.fl.length ≤ 90000) (hs : M.st ≤ 90000) (kd nm : Nat) (hbg : M.bg = true) (hkd : kd ≠ 3) (hnx : nextV M = 108) :
    Calls Try.prog 103 #[.pointer (some ⟨b, 0, none⟩), .agg #[.int .i64 kd, .int .i64 nm]] w (MbEnd w B true b fv (M.send ⟨kd, nm⟩) (.tuple #[])) := by
  have hbA := Lib.hid (below_alloc1 w (.cells #[.int .i64 kd, .int .i64 nm] 108))
  have k1 := Lib.hid (k.below hbA.out)
  have hgA := heap_alloc_new w (.cells #[.int .i64 kd, .int .i64 nm] 108)
  have x0 := cell_of_row _ _ 0 _ _ _ hgA
  have x1 := cell_of_row _ _ 1 _ _ _ hgA
  have c0 := k1.out.wr.c0
  rw [hbg] at c0
  have hl' := Lib.hid hl
  have hs' := Lib.hid hs
  have hXP := Lib.hid (show ¬ WrP b fv w.heap.size from fun e => by have := (k.wr.pos _ e).2; omega)
  have frA := Lib.hid (Frm.of_below (P := WrP b fv) hbA.out)
  have hkn : ((kd : Int) == 3) = false := by simp; omega
  have hnx' := Lib.hid hnx
  have hn1 := Lib.hid (next106 k1.out (show nextV M = _ from hnx'.out))
  have hg1 := Lib.hid (sendM k1.out (by first | exact Nat.le_trans hl'.out (by omega) | (show (M.fl ++ [_]).length ≤ 100000; rw [List.length_append]; have := hl'.out; simp; omega)) (by first | exact Nat.le_trans hs'.out (by omega) | (show M.st + 1 ≤ 100000; have := hs'.out; omega)) kd nm)
  clear k hgA hl hs hbg hnx hkd
  go_enter Try.func103, Try.ntmps103
  go_wp2_with (first
    | (go_at_call 106; refine hn1.out.mono ?_; rintro e wn ⟨rfl, rfl⟩)
    | (go_at_call 108; refine hg1.out.mono ?_; rintro e wg ⟨rfl, fv2, kg, fg⟩; have kg' := Lib.hid kg; have fg' := Lib.hid fg; clear kg fg))
  refine bodyPost_ret (results_none rfl _ _ _) rfl ?_
  exact ⟨rfl, fv2, kg'.out, frA.out.trans fg'.out⟩
set_option maxHeartbeats 2000000 in
set_option maxRecDepth 100000 in
theorem recv_t_N {w : World} {B b : Nat} {fv : Value} {M : Mb} (k : MbAt w B true b fv M) (hl : M.fl.length ≤ 90000) (hs : M.st ≤ 90000) (kd nm : Nat) (hbg : M.bg = true) (hkd : kd ≠ 3) (hnx : nextV M = 109) :
    Calls Try.prog 103 #[.pointer (some ⟨b, 0, none⟩), .agg #[.int .i64 kd, .int .i64 nm]] w (MbEnd w B true b fv (M.pSecond ⟨kd, nm⟩) (.tuple #[])) := by
  have hbA := Lib.hid (below_alloc1 w (.cells #[.int .i64 kd, .int .i64 nm] 108))
  have k1 := Lib.hid (k.below hbA.out)
  have hgA := heap_alloc_new w (.cells #[.int .i64 kd, .int .i64 nm] 108)
  have x0 := cell_of_row _ _ 0 _ _ _ hgA
  have x1 := cell_of_row _ _ 1 _ _ _ hgA
  have c0 := k1.out.wr.c0
  rw [hbg] at c0
  have hl' := Lib.hid hl
  have hs' := Lib.hid hs
  have hXP := Lib.hid (show ¬ WrP b fv w.heap.size from fun e => by have := (k.wr.pos _ e).2; omega)
  have frA := Lib.hid (Frm.of_below (P := WrP b fv) hbA.out)
  have hkn : ((kd : Int) == 3) = false := by simp; omega
  have hnx' := Lib.hid hnx
  have hn1 := Lib.hid (next106 k1.out (show nextV M = _ from hnx'.out))
  have hg1 := Lib.hid (second109 k1.out (by first | exact Nat.le_trans hl'.out (by omega) | (show (M.fl ++ [_]).length ≤ 100000; rw [List.length_append]; have := hl'.out; simp; omega)) (by first | exact Nat.le_trans hs'.out (by omega) | (show M.st + 1 ≤ 100000; have := hs'.out; omega)) kd nm)
  clear k hgA hl hs hbg hnx hkd
  go_enter Try.func103, Try.ntmps103
  go_wp2_with (first
    | (go_at_call 106; refine hn1.out.mono ?_; rintro e wn ⟨rfl, rfl⟩)
    | (go_at_call 109; refine hg1.out.mono ?_; rintro e wg ⟨rfl, fv2, kg, fg⟩; have kg' := Lib.hid kg; have fg' := Lib.hid fg; clear kg fg))
  refine bodyPost_ret (results_none rfl _ _ _) rfl ?_
  exact ⟨rfl, fv2, kg'.out, frA.out.trans fg'.out⟩
set_option maxHeartbeats 2000000 in
set_option maxRecDepth 100000 in
theorem recv_t_F {w : World} {B b : Nat} {fv : Value} {M : Mb} (k : MbAt w B true b fv M) (hl : M.fl.length ≤ 90000) (hs : M.st ≤ 90000) (kd nm : Nat) (hbg : M.bg = true) (hkd : kd ≠ 3) (hnx : nextV M = 110) :
    Calls Try.prog 103 #[.pointer (some ⟨b, 0, none⟩), .agg #[.int .i64 kd, .int .i64 nm]] w (MbEnd w B true b fv (M.pFirst ⟨kd, nm⟩) (.tuple #[])) := by
  have hbA := Lib.hid (below_alloc1 w (.cells #[.int .i64 kd, .int .i64 nm] 108))
  have k1 := Lib.hid (k.below hbA.out)
  have hgA := heap_alloc_new w (.cells #[.int .i64 kd, .int .i64 nm] 108)
  have x0 := cell_of_row _ _ 0 _ _ _ hgA
  have x1 := cell_of_row _ _ 1 _ _ _ hgA
  have c0 := k1.out.wr.c0
  rw [hbg] at c0
  have hl' := Lib.hid hl
  have hs' := Lib.hid hs
  have hXP := Lib.hid (show ¬ WrP b fv w.heap.size from fun e => by have := (k.wr.pos _ e).2; omega)
  have frA := Lib.hid (Frm.of_below (P := WrP b fv) hbA.out)
  have hkn : ((kd : Int) == 3) = false := by simp; omega
  have hnx' := Lib.hid hnx
  have hn1 := Lib.hid (next106 k1.out (show nextV M = _ from hnx'.out))
  have hg1 := Lib.hid (first110 k1.out (by first | exact Nat.le_trans hl'.out (by omega) | (show (M.fl ++ [_]).length ≤ 100000; rw [List.length_append]; have := hl'.out; simp; omega)) (by first | exact Nat.le_trans hs'.out (by omega) | (show M.st + 1 ≤ 100000; have := hs'.out; omega)) kd nm)
  clear k hgA hl hs hbg hnx hkd
  go_enter Try.func103, Try.ntmps103
  go_wp2_with (first
    | (go_at_call 106; refine hn1.out.mono ?_; rintro e wn ⟨rfl, rfl⟩)
    | (go_at_call 110; refine hg1.out.mono ?_; rintro e wg ⟨rfl, fv2, kg, fg⟩; have kg' := Lib.hid kg; have fg' := Lib.hid fg; clear kg fg))
  refine bodyPost_ret (results_none rfl _ _ _) rfl ?_
  exact ⟨rfl, fv2, kg'.out, frA.out.trans fg'.out⟩
set_option maxHeartbeats 2000000 in
set_option maxRecDepth 100000 in
theorem recv_f_L0 {w : World} {B b : Nat} {fv : Value} {M : Mb} (k : MbAt w B true b fv M) (hl : M.fl.length ≤ 90000) (hs : M.st ≤ 90000) (kd nm : Nat) (hbg : M.bg = false) (hkd : kd = 3) (hld : M.ld = 0) :
    Calls Try.prog 103 #[.pointer (some ⟨b, 0, none⟩), .agg #[.int .i64 kd, .int .i64 nm]] w (MbEnd w B true b fv (M.start.learn nm) (.tuple #[])) := by
  have hbA := Lib.hid (below_alloc1 w (.cells #[.int .i64 kd, .int .i64 nm] 108))
  have k1 := Lib.hid (k.below hbA.out)
  have hgA := heap_alloc_new w (.cells #[.int .i64 kd, .int .i64 nm] 108)
  have x0 := cell_of_row _ _ 0 _ _ _ hgA
  have x1 := cell_of_row _ _ 1 _ _ _ hgA
  have c0 := k1.out.wr.c0
  rw [hbg] at c0
  have hl' := Lib.hid hl
  have hs' := Lib.hid hs
  have hXP := Lib.hid (show ¬ WrP b fv w.heap.size from fun e => by have := (k.wr.pos _ e).2; omega)
  have frA := Lib.hid (Frm.of_below (P := WrP b fv) hbA.out)
  have hkn : ((kd : Int) == 3) = true := by rw [hkd]; rfl
  have hld' := Lib.hid hld
  have hst := Lib.hid (start104 k1.out (Nat.le_trans hl (by omega)) (Nat.le_trans hs (by omega)))
  clear k hgA hl hs hbg hld hkd
  go_enter Try.func103, Try.ntmps103
  go_wp2_with (first
    | (go_at_call 104; refine hst.out.mono ?_; rintro e wj ⟨rfl, fv1, ka, fr⟩
       have y0 := (fr.cell (p := ⟨w.heap.size, 0, none⟩) (by simp) hXP.out).trans x0
       have y1 := (fr.cell (p := ⟨w.heap.size, 1, none⟩) (by simp) hXP.out).trans x1
       have kC := Lib.hid ka
       have frC := Lib.hid (frA.out.trans fr)
       have c1 := (show wj.cell? ⟨b, 1, none⟩ = some (.int .i64 M.ld) from kC.out.wr.c1)
       rw [hld'.out] at c1
       clear ka fr x0 x1 hst))
  have hln := Lib.hid (learnM kC.out (by show (M.fl ++ [_]).length ≤ 100000; rw [List.length_append]; have := hl'.out; simp; omega) (by show M.st + 1 ≤ 100000; have := hs'.out; omega) nm (Below.refl _ wj).drew)
  refine wp_region_still_tail 5 (by kernel_rfl) (by kernel_rfl) ?_
  simp only [List.take_succ_cons, List.take_zero, List.drop_succ_cons, List.drop_zero]
  iterate 5 still_step
  refine wpStill_nil ?_
  go_wp2_with (go_at_call 105; refine hln.out.mono ?_; rintro e wg ⟨rfl, fv2, kg, fg⟩; have kg' := Lib.hid kg; have fg' := Lib.hid fg; clear kg fg)
  refine bodyPost_ret (results_none rfl _ _ _) rfl ?_
  exact ⟨rfl, fv2, kg'.out, frC.out.drew.trans fg'.out⟩
set_option maxHeartbeats 2000000 in
set_option maxRecDepth 100000 in
theorem recv_f_L1 {w : World} {B b : Nat} {fv : Value} {M : Mb} (k : MbAt w B true b fv M) (hl : M.fl.length ≤ 90000) (hs : M.st ≤ 90000) (kd nm : Nat) (hbg : M.bg = false) (hkd : kd = 3) (hld : M.ld ≠ 0) :
    Calls Try.prog 103 #[.pointer (some ⟨b, 0, none⟩), .agg #[.int .i64 kd, .int .i64 nm]] w (MbEnd w B true b fv M.start (.tuple #[])) := by
  have hbA := Lib.hid (below_alloc1 w (.cells #[.int .i64 kd, .int .i64 nm] 108))
  have k1 := Lib.hid (k.below hbA.out)
  have hgA := heap_alloc_new w (.cells #[.int .i64 kd, .int .i64 nm] 108)
  have x0 := cell_of_row _ _ 0 _ _ _ hgA
  have x1 := cell_of_row _ _ 1 _ _ _ hgA
  have c0 := k1.out.wr.c0
  rw [hbg] at c0
  have hl' := Lib.hid hl
  have hs' := Lib.hid hs
  have hXP := Lib.hid (show ¬ WrP b fv w.heap.size from fun e => by have := (k.wr.pos _ e).2; omega)
  have frA := Lib.hid (Frm.of_below (P := WrP b fv) hbA.out)
  have hkn : ((kd : Int) == 3) = true := by rw [hkd]; rfl
  have hld' := Lib.hid (show ((M.ld : Int) == 0) = false by simp; omega)
  have hst := Lib.hid (start104 k1.out (Nat.le_trans hl (by omega)) (Nat.le_trans hs (by omega)))
  clear k hgA hl hs hbg hld hkd
  go_enter Try.func103, Try.ntmps103
  go_wp2_with (first
    | (go_at_call 104; refine hst.out.mono ?_; rintro e wj ⟨rfl, fv1, ka, fr⟩
       have y0 := (fr.cell (p := ⟨w.heap.size, 0, none⟩) (by simp) hXP.out).trans x0
       have y1 := (fr.cell (p := ⟨w.heap.size, 1, none⟩) (by simp) hXP.out).trans x1
       have kC := Lib.hid ka
       have frC := Lib.hid (frA.out.trans fr)
       have c1 := (show wj.cell? ⟨b, 1, none⟩ = some (.int .i64 M.ld) from kC.out.wr.c1)
       have hld2 := hld'.out
       clear ka fr x0 x1 hst))
  refine bodyPost_ret (results_none rfl _ _ _) rfl ?_
  exact ⟨rfl, _, kC.out, frC.out⟩
set_option maxHeartbeats 2000000 in
set_option maxRecDepth 100000 in
theorem recv_f_S {w : World} {B b : Nat} {fv : Value} {M : Mb} (k : MbAt w B true b fv M) (hl : M.fl.length ≤ 90000) (hs : M.st ≤ 90000) (kd nm : Nat) (hbg : M.bg = false) (hkd : kd ≠ 3) (hnx : nextV M = 108) :
    Calls Try.prog 103 #[.pointer (some ⟨b, 0, none⟩), .agg #[.int .i64 kd, .int .i64 nm]] w (MbEnd w B true b fv (M.start.send ⟨kd, nm⟩) (.tuple #[])) := by
  have hbA := Lib.hid (below_alloc1 w (.cells #[.int .i64 kd, .int .i64 nm] 108))
  have k1 := Lib.hid (k.below hbA.out)
  have hgA := heap_alloc_new w (.cells #[.int .i64 kd, .int .i64 nm] 108)
  have x0 := cell_of_row _ _ 0 _ _ _ hgA
  have x1 := cell_of_row _ _ 1 _ _ _ hgA
  have c0 := k1.out.wr.c0
  rw [hbg] at c0
  have hl' := Lib.hid hl
  have hs' := Lib.hid hs
  have hXP := Lib.hid (show ¬ WrP b fv w.heap.size from fun e => by have := (k.wr.pos _ e).2; omega)
  have frA := Lib.hid (Frm.of_below (P := WrP b fv) hbA.out)
  have hkn : ((kd : Int) == 3) = false := by simp; omega
  have hnx' := Lib.hid hnx
  have hst := Lib.hid (start104 k1.out (Nat.le_trans hl (by omega)) (Nat.le_trans hs (by omega)))
  clear k hgA hl hs hbg hnx hkd
  go_enter Try.func103, Try.ntmps103
  go_wp2_with (first
    | (go_at_call 104; refine hst.out.mono ?_; rintro e wj ⟨rfl, fv1, ka, fr⟩
       have y0 := (fr.cell (p := ⟨w.heap.size, 0, none⟩) (by simp) hXP.out).trans x0
       have y1 := (fr.cell (p := ⟨w.heap.size, 1, none⟩) (by simp) hXP.out).trans x1
       have kC := Lib.hid ka
       have frC := Lib.hid (frA.out.trans fr)
       have hn1 := Lib.hid (next106 kC.out (show nextV M.start = _ from hnx'.out))
       have hg1 := Lib.hid (sendM kC.out (by first | exact Nat.le_trans hl'.out (by omega) | (show (M.fl ++ [_]).length ≤ 100000; rw [List.length_append]; have := hl'.out; simp; omega)) (by first | exact Nat.le_trans hs'.out (by omega) | (show M.st + 1 ≤ 100000; have := hs'.out; omega)) kd nm)
       clear ka fr x0 x1 hst)
    | (go_at_call 106; refine hn1.out.mono ?_; rintro e wn ⟨rfl, rfl⟩)
    | (go_at_call 108; refine hg1.out.mono ?_; rintro e wg ⟨rfl, fv2, kg, fg⟩; have kg' := Lib.hid kg; have fg' := Lib.hid fg; clear kg fg))
  refine bodyPost_ret (results_none rfl _ _ _) rfl ?_
  exact ⟨rfl, fv2, kg'.out, frC.out.trans fg'.out⟩
set_option maxHeartbeats 2000000 in
set_option maxRecDepth 100000 in
theorem recv_f_N {w : World} {B b : Nat} {fv : Value} {M : Mb} (k : MbAt w B true b fv M) (hl : M.fl.length ≤ 90000) (hs : M.st ≤ 90000) (kd nm : Nat) (hbg : M.bg = false) (hkd : kd ≠ 3) (hnx : nextV M = 109) :
    Calls Try.prog 103 #[.pointer (some ⟨b, 0, none⟩), .agg #[.int .i64 kd, .int .i64 nm]] w (MbEnd w B true b fv (M.start.pSecond ⟨kd, nm⟩) (.tuple #[])) := by
  have hbA := Lib.hid (below_alloc1 w (.cells #[.int .i64 kd, .int .i64 nm] 108))
  have k1 := Lib.hid (k.below hbA.out)
  have hgA := heap_alloc_new w (.cells #[.int .i64 kd, .int .i64 nm] 108)
  have x0 := cell_of_row _ _ 0 _ _ _ hgA
  have x1 := cell_of_row _ _ 1 _ _ _ hgA
  have c0 := k1.out.wr.c0
  rw [hbg] at c0
  have hl' := Lib.hid hl
  have hs' := Lib.hid hs
  have hXP := Lib.hid (show ¬ WrP b fv w.heap.size from fun e => by have := (k.wr.pos _ e).2; omega)
  have frA := Lib.hid (Frm.of_below (P := WrP b fv) hbA.out)
  have hkn : ((kd : Int) == 3) = false := by simp; omega
  have hnx' := Lib.hid hnx
  have hst := Lib.hid (start104 k1.out (Nat.le_trans hl (by omega)) (Nat.le_trans hs (by omega)))
  clear k hgA hl hs hbg hnx hkd
  go_enter Try.func103, Try.ntmps103
  go_wp2_with (first
    | (go_at_call 104; refine hst.out.mono ?_; rintro e wj ⟨rfl, fv1, ka, fr⟩
       have y0 := (fr.cell (p := ⟨w.heap.size, 0, none⟩) (by simp) hXP.out).trans x0
       have y1 := (fr.cell (p := ⟨w.heap.size, 1, none⟩) (by simp) hXP.out).trans x1
       have kC := Lib.hid ka
       have frC := Lib.hid (frA.out.trans fr)
       have hn1 := Lib.hid (next106 kC.out (show nextV M.start = _ from hnx'.out))
       have hg1 := Lib.hid (second109 kC.out (by first | exact Nat.le_trans hl'.out (by omega) | (show (M.fl ++ [_]).length ≤ 100000; rw [List.length_append]; have := hl'.out; simp; omega)) (by first | exact Nat.le_trans hs'.out (by omega) | (show M.st + 1 ≤ 100000; have := hs'.out; omega)) kd nm)
       clear ka fr x0 x1 hst)
    | (go_at_call 106; refine hn1.out.mono ?_; rintro e wn ⟨rfl, rfl⟩)
    | (go_at_call 109; refine hg1.out.mono ?_; rintro e wg ⟨rfl, fv2, kg, fg⟩; have kg' := Lib.hid kg; have fg' := Lib.hid fg; clear kg fg))
  refine bodyPost_ret (results_none rfl _ _ _) rfl ?_
  exact ⟨rfl, fv2, kg'.out, frC.out.trans fg'.out⟩
set_option maxHeartbeats 2000000 in
set_option maxRecDepth 100000 in
theorem recv_f_F {w : World} {B b : Nat} {fv : Value} {M : Mb} (k : MbAt w B true b fv M) (hl : M.fl.length ≤ 90000) (hs : M.st ≤ 90000) (kd nm : Nat) (hbg : M.bg = false) (hkd : kd ≠ 3) (hnx : nextV M = 110) :
    Calls Try.prog 103 #[.pointer (some ⟨b, 0, none⟩), .agg #[.int .i64 kd, .int .i64 nm]] w (MbEnd w B true b fv (M.start.pFirst ⟨kd, nm⟩) (.tuple #[])) := by
  have hbA := Lib.hid (below_alloc1 w (.cells #[.int .i64 kd, .int .i64 nm] 108))
  have k1 := Lib.hid (k.below hbA.out)
  have hgA := heap_alloc_new w (.cells #[.int .i64 kd, .int .i64 nm] 108)
  have x0 := cell_of_row _ _ 0 _ _ _ hgA
  have x1 := cell_of_row _ _ 1 _ _ _ hgA
  have c0 := k1.out.wr.c0
  rw [hbg] at c0
  have hl' := Lib.hid hl
  have hs' := Lib.hid hs
  have hXP := Lib.hid (show ¬ WrP b fv w.heap.size from fun e => by have := (k.wr.pos _ e).2; omega)
  have frA := Lib.hid (Frm.of_below (P := WrP b fv) hbA.out)
  have hkn : ((kd : Int) == 3) = false := by simp; omega
  have hnx' := Lib.hid hnx
  have hst := Lib.hid (start104 k1.out (Nat.le_trans hl (by omega)) (Nat.le_trans hs (by omega)))
  clear k hgA hl hs hbg hnx hkd
  go_enter Try.func103, Try.ntmps103
  go_wp2_with (first
    | (go_at_call 104; refine hst.out.mono ?_; rintro e wj ⟨rfl, fv1, ka, fr⟩
       have y0 := (fr.cell (p := ⟨w.heap.size, 0, none⟩) (by simp) hXP.out).trans x0
       have y1 := (fr.cell (p := ⟨w.heap.size, 1, none⟩) (by simp) hXP.out).trans x1
       have kC := Lib.hid ka
       have frC := Lib.hid (frA.out.trans fr)
       have hn1 := Lib.hid (next106 kC.out (show nextV M.start = _ from hnx'.out))
       have hg1 := Lib.hid (first110 kC.out (by first | exact Nat.le_trans hl'.out (by omega) | (show (M.fl ++ [_]).length ≤ 100000; rw [List.length_append]; have := hl'.out; simp; omega)) (by first | exact Nat.le_trans hs'.out (by omega) | (show M.st + 1 ≤ 100000; have := hs'.out; omega)) kd nm)
       clear ka fr x0 x1 hst)
    | (go_at_call 106; refine hn1.out.mono ?_; rintro e wn ⟨rfl, rfl⟩)
    | (go_at_call 110; refine hg1.out.mono ?_; rintro e wg ⟨rfl, fv2, kg, fg⟩; have kg' := Lib.hid kg; have fg' := Lib.hid fg; clear kg fg))
  refine bodyPost_ret (results_none rfl _ _ _) rfl ?_
  exact ⟨rfl, fv2, kg'.out, frC.out.trans fg'.out⟩
theorem recv103 {w : World} {B b : Nat} {fv : Value} {M : Mb} (k : MbAt w B true b fv M) (hl : M.fl.length ≤ 90000) (hs : M.st ≤ 90000) (kd nm : Nat) :
    Calls Try.prog 103 #[.pointer (some ⟨b, 0, none⟩), .agg #[.int .i64 kd, .int .i64 nm]] w (MbEnd w B true b fv (M.pRecv ⟨kd, nm⟩) (.tuple #[])) := by
  have e : M.pRecv ⟨kd, nm⟩ = if kd = 3 then (if M.woken.ld = 0 then M.woken.learn nm else M.woken) else M.woken.pGo ⟨kd, nm⟩ := rfl
  rw [e]
  have hwo : M.woken = (if M.bg = true then M else M.start) := rfl
  have hn3 : nextV M = 108 ∨ nextV M = 109 ∨ nextV M = 110 := by
    unfold nextV; split
    · exact .inl rfl
    · split
      · exact .inr (.inl rfl)
      · exact .inr (.inr rfl)
  have hns : nextV M.start = nextV M := rfl
  have hlds : M.start.ld = M.ld := rfl
  cases hbg : M.bg with
  | true =>
    have hw2 : M.woken = M := by rw [hwo, hbg]; rfl
    rw [hw2]
    by_cases hk : kd = 3
    · rw [if_pos hk]
      by_cases h0 : M.ld = 0
      · rw [if_pos h0]; exact recv_t_L0 k hl hs kd nm hbg hk h0
      · rw [if_neg h0]; exact recv_t_L1 k hl hs kd nm hbg hk h0
    · rw [if_neg hk, goOf]
      rcases hn3 with h | h | h
      · rw [if_pos h]; exact recv_t_S k hl hs kd nm hbg hk h
      · rw [if_neg (by omega), if_pos h]; exact recv_t_N k hl hs kd nm hbg hk h
      · rw [if_neg (by omega), if_neg (by omega)]; exact recv_t_F k hl hs kd nm hbg hk h
  | false =>
    have hw2 : M.woken = M.start := by rw [hwo, hbg]; rfl
    rw [hw2]
    by_cases hk : kd = 3
    · rw [if_pos hk, hlds]
      by_cases h0 : M.ld = 0
      · rw [if_pos h0]; exact recv_f_L0 k hl hs kd nm hbg hk h0
      · rw [if_neg h0]; exact recv_f_L1 k hl hs kd nm hbg hk h0
    · rw [if_neg hk, goOf, hns]
      rcases hn3 with h | h | h
      · rw [if_pos h]; exact recv_f_S k hl hs kd nm hbg hk h
      · rw [if_neg (by omega), if_pos h]; exact recv_f_N k hl hs kd nm hbg hk h
      · rw [if_neg (by omega), if_neg (by omega)]; exact recv_f_F k hl hs kd nm hbg hk h
end Go.Proofs.Ytbemlfppekpmjaa
