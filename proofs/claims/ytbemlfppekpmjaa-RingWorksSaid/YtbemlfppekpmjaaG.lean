import Derived.Test.YtbemlfppekpmjaaF
namespace Go.Proofs.Ytbemlfppekpmjaa
open Go.RowKit Rng
theorem WkAt.lt_h {w : World} {B b h c : Nat} {fv : Value} {S : WS} (k : WkAt w B b h c fv S) : h < w.heap.size := (k.pos h (.inr (.inl rfl))).2
theorem new_not {w : World} {B b h c : Nat} {fv : Value} {S : WS} (k : WkAt w B b h c fv S) : ¬ WkP b h fv w.heap.size := fun e => by have := (k.pos _ e).2; omega
set_option maxHeartbeats 4000000 in
set_option maxRecDepth 100000 in
theorem take70 {w : World} {B b h c : Nat} {fv : Value} {S : WS} (k : WkAt w B b h c fv S) (hl : S.fl.length ≤ 1000) {f t : Nat} (ht : t < S.n) :
    Calls Try.prog 70 #[.pointer (some ⟨b, 0, none⟩), .agg #[.int .i64 f, .int .i64 t, .bool false]] w (WkEnd w B b h c fv (S.take ⟨f, t, false⟩) (.tuple #[])) := by
  have hb1 := Lib.hid (below_alloc1 w (.cells #[.int .i64 f, .int .i64 t, .bool false] 69))
  have k1 := Lib.hid (k.below hb1.out)
  have fr1 := Lib.hid (Frm.of_below (P := WkP b h fv) hb1.out)
  have hg := heap_alloc_new w (.cells #[.int .i64 f, .int .i64 t, .bool false] 69)
  have x0 := cell_of_row _ _ 0 _ _ _ hg
  have x1 := cell_of_row _ _ 1 _ _ _ hg
  have hnew := Lib.hid (new_not k)
  have heng := eng81 k1.out (i := t) ht
  have hhX := Lib.hid (Nat.ne_of_lt k.lt_h)
  have hbX := Lib.hid (Nat.ne_of_lt k.bw)
  have hnc := k.nc
  obtain ⟨n, hn⟩ : ∃ n, n = S.n := ⟨_, rfl⟩
  have hn' := Lib.hid hn
  have hin : (t : Int) < (n : Int) := by omega
  have htn : t < n := by omega
  rw [← hn] at hnc
  have hbh := Lib.hid k.bh
  by_cases he : S.eng t = true
  · rw [he] at heng
    have hS : S.take ⟨f, t, false⟩ = (S.put ⟨t, f, true⟩).set t ⟨true, (S.hd t).par, (S.hd t).owed⟩ := by unfold WS.take; rw [if_pos he]; rfl
    rw [hS]
    have heng' := Lib.hid heng
    have hak := Lib.hid (ack80 k1.out hl t f)
    have ht' := Lib.hid ht
    clear hS he hg heng k hl hn ht
    go_enter Try.func70, Try.ntmps70
    go_wp2_with (first
      | (go_at_call 81; refine heng'.out.mono ?_; rintro e wj ⟨rfl, rfl⟩)
      | (go_at_call 80; refine hak.out.mono ?_; rintro e wj ⟨rfl, fv1, ka, fr⟩
         have ka' := Lib.hid ka
         have fr' := Lib.hid fr
         have y1 := (fr.cell (p := ⟨w.heap.size, 1, none⟩) (by simp) hnew.out).trans x1
         have z1 := ka.c1
         obtain ⟨y2, -, -, yf⟩ := ka.hand (i := t) ht'.out
         have yf0 := yf (t * 3)
         rw [n_put, ← hn'.out] at z1
         clear ka fr yf hak x0 x1))
    refine wp_region_still_tail 8 (by kernel_rfl) (by kernel_rfl) ?_
    simp only [List.take_succ_cons, List.take_zero, List.drop_succ_cons, List.drop_zero]
    iterate 8 still_step
    refine wpStill_nil ?_
    go_wp2_with fail
    refine bodyPost_ret (results_none rfl _ _ _) rfl ?_
    refine ⟨rfl, fv1, ?_, (fr1.out.trans fr'.out).set (.inr (.inl rfl)) |>.drew⟩
    exact (ka'.out.setH (i := t) (f := 0) (u := .bool true) (by simpa using ht'.out) (by omega) rfl).drew
  · rw [show S.eng t = false by simpa using he] at heng
    have hS : S.take ⟨f, t, false⟩ = (S.set t ⟨(S.hd t).wk, f + 1, (S.hd t).owed⟩).set t ⟨true, f + 1, (S.hd t).owed⟩ := by
      unfold WS.take; rw [if_neg he]
      unfold WS.set; simp
    rw [hS]
    have heng' := Lib.hid heng
    have ht' := Lib.hid ht
    have z1 := k1.out.c1
    rw [← hn] at z1
    obtain ⟨-, y1, -, yf⟩ := k1.out.hand (i := t) ht
    have yf1 := yf (t * 3 + 1)
    have k2 := Lib.hid (show WkAt ((w.alloc (.cells #[.int .i64 f, .int .i64 t, .bool false] 69)).setCell ⟨h, t * 3 + 1, none⟩ (.int .i64 f)).drew B b h c fv (S.set t ⟨(S.hd t).wk, f + 1, (S.hd t).owed⟩) from
      (k1.out.setH (i := t) (f := 1) (u := .int .i64 f) ht (by omega) (by
        show [Value.bool (S.hd t).wk, Value.int .i64 (((f + 1 : Nat) : Int) - 1), Value.int .i64 (S.hd t).owed] = _
        rw [show (((f + 1 : Nat) : Int) - 1) = (f : Int) by omega]; rfl)).drew)
    have fr2 := Lib.hid (show Frm (WkP b h fv) (WkP b h fv) w ((w.alloc (.cells #[.int .i64 f, .int .i64 t, .bool false] 69)).setCell ⟨h, t * 3 + 1, none⟩ (.int .i64 f)).drew from (fr1.out.set (.inr (.inl rfl))).drew)
    have x2 : ((w.alloc (.cells #[.int .i64 f, .int .i64 t, .bool false] 69)).setCell ⟨h, t * 3 + 1, none⟩ (.int .i64 f)).drew.cell? ⟨w.heap.size, 1, none⟩ = some (.int .i64 t) := (World.cell?_setCell_other _ _ _ _ (by have := hhX.out; simp <;> omega)).trans x1
    have z2 := k2.out.c1
    obtain ⟨y2, -, -, yf2⟩ := k2.out.hand (i := t) (by simpa using ht)
    have yf0 := yf2 (t * 3)
    rw [n_set, ← hn] at z2
    clear hS he hg heng k hl hn ht yf yf2
    go_enter Try.func70, Try.ntmps70
    go_wp2_with (go_at_call 81; refine heng'.out.mono ?_; rintro e wj ⟨rfl, hw⟩
                 rw [hw] at z1 y1 yf1 k2 fr2 x2 z2 y2 yf0 x0 x1
                 clear hw heng' k1 fr1 hb1)
    refine wp_region_still_tail 10 (by kernel_rfl) (by kernel_rfl) ?_
    simp only [List.take_succ_cons, List.take_zero, List.drop_succ_cons, List.drop_zero]
    iterate 10 still_step
    refine wpStill_nil ?_
    go_wp2_with fail
    obtain ⟨W, hW⟩ : ∃ W, W = (wj.setCell ⟨h, t * 3 + 1, none⟩ (.int .i64 f)).drew := ⟨_, rfl⟩
    rw [← hW] at k2 fr2 x2 z2 y2 yf0 ⊢
    clear hW x0 x1 z1 y1 yf1
    refine wp_region_still_tail 8 (by kernel_rfl) (by kernel_rfl) ?_
    simp only [List.take_succ_cons, List.take_zero, List.drop_succ_cons, List.drop_zero]
    iterate 8 still_step
    refine wpStill_nil ?_
    go_wp2_with fail
    refine bodyPost_ret (results_none rfl _ _ _) rfl ?_
    refine ⟨rfl, fv, ?_, (fr2.out.set (.inr (.inl rfl))).drew⟩
    refine (k2.out.setH (i := t) (f := 0) (u := .bool true) (by simpa using ht'.out) (by omega) ?_).drew
    rw [hd_set _ _ _ _ ht'.out, if_pos rfl]; rfl
end Go.Proofs.Ytbemlfppekpmjaa
