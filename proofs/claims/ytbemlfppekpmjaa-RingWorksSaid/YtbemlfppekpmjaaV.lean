import Derived.Test.YtbemlfppekpmjaaU
namespace Go.Proofs.Ytbemlfppekpmjaa
open Go.RowKit Rng
set_option maxHeartbeats 2000000 in
set_option maxRecDepth 100000 in
theorem second109 {w : World} {B b : Nat} {fv : Value} {M : Mb} (k : MbAt w B true b fv M) (hl : M.fl.length ≤ 100000) (hs : M.st ≤ 100000) (kd nm : Nat) :
    Calls Try.prog 109 #[.pointer (some ⟨b, 0, none⟩), .agg #[.int .i64 kd, .int .i64 nm]] w (MbEnd w B true b fv (M.pSecond ⟨kd, nm⟩) (.tuple #[])) := by
  obtain ⟨V, hV⟩ : ∃ V, V = w.alloc (.cells #[.int .i64 kd, .int .i64 nm] 108) := ⟨_, rfl⟩
  have hbA := Lib.hid (show Below w.heap.size w V by rw [hV]; exact below_alloc1 _ _)
  have k1 := Lib.hid (k.below hbA.out)
  have hgA := heap_alloc_new w (.cells #[.int .i64 kd, .int .i64 nm] 108)
  have x1 : V.cell? ⟨w.heap.size, 1, none⟩ = some (.int .i64 nm) := by rw [hV]; exact cell_of_row _ _ 1 _ _ _ hgA
  have c4 := k1.out.c4
  have c5 := k1.out.c5 rfl
  have c6 := k1.out.c6 rfl
  have fz4 := k1.out.wr.fz 4
  have fz5 := k1.out.wr.fz 5
  have fz6 := k1.out.wr.fz 6
  have hbX := Nat.ne_of_lt k.wr.bw
  have k0 := Lib.hid k
  have hV' := Lib.hid hV
  have hps := Lib.hid (fun (W : World) (hb : Below V.heap.size V W) => (show MbAt (W.setCell ⟨b, 6, none⟩ (.bool true)) B true b fv ⟨M.bg, M.ld, M.st, M.fl, M.vl, M.nt, true⟩ from (k1.out.below hb).setX (by decide) rfl rfl rfl ⟨rfl, rfl, rfl, rfl⟩))
  have hset := Lib.hid (fun (W : World) (hb : Below V.heap.size V W) => (show MbAt ((W.setCell ⟨b, 4, none⟩ (.int .i64 M.nt)).setCell ⟨b, 5, none⟩ (.int .i64 0)) B true b fv ⟨M.bg, M.ld, M.st, M.fl, M.nt, 0, M.ps⟩ from
    (show MbAt (W.setCell ⟨b, 4, none⟩ (.int .i64 M.nt)) B true b fv ⟨M.bg, M.ld, M.st, M.fl, M.nt, M.nt, M.ps⟩ from (k1.out.below hb).setX (by decide) rfl rfl rfl ⟨rfl, rfl, rfl, rfl⟩).setX (by decide) rfl rfl rfl ⟨rfl, rfl, rfl, rfl⟩))
  have hsd := Lib.hid (fun (W W' : World) (hb : Below V.heap.size V W) (hb2 : Below ((W.setCell ⟨b, 4, none⟩ (.int .i64 M.nt)).setCell ⟨b, 5, none⟩ (.int .i64 0)).heap.size ((W.setCell ⟨b, 4, none⟩ (.int .i64 M.nt)).setCell ⟨b, 5, none⟩ (.int .i64 0)) W') => sendAt (hset.out W hb).wr hl hs ⟨1, M.nt⟩ hb2)
  have hS := Lib.hid (show M.pSecond ⟨kd, nm⟩ = if M.nt ≤ M.vl ∨ M.nt ≤ nm then ⟨M.bg, M.ld, M.st, M.fl, M.vl, M.nt, true⟩ else (⟨M.bg, M.ld, M.st, M.fl, M.nt, 0, M.ps⟩ : Mb).send ⟨1, M.nt⟩ from rfl)
  obtain ⟨vl, hv⟩ : ∃ v, v = M.vl := ⟨_, rfl⟩
  obtain ⟨nt, hn⟩ : ∃ v, v = M.nt := ⟨_, rfl⟩
  rw [← hv] at c4 hS
  rw [← hn] at c5 hset hsd hS
  have hv' := Lib.hid hv
  have hn' := Lib.hid hn
  clear k hV hgA hl hs hv hn
  by_cases h1 : nt ≤ vl
  · rw [hS.out, if_pos (.inl h1)]
    rw [← hn'.out] at hps
    go_enter Try.func109, Try.ntmps109
    go_wp2_with fail
    rw [← hV'.out]
    go_quiet (fail)
    go_wp2_with fail
    refine bodyPost_ret (results_none rfl _ _ _) rfl ?_
    refine ⟨rfl, fv, ?_, ?_⟩
    · rw [hv'.out]; exact hps.out _ (below_drewN (Below.refl _ _) _)
    · exact (Frm.of_below (below_drewN hbA.out _)).set (.inl rfl)
  · have h1' : decide (nt ≤ vl) = false := by simpa using h1
    by_cases h2 : nt ≤ nm
    · rw [hS.out, if_pos (.inr h2)]
      rw [← hn'.out] at hps
      go_enter Try.func109, Try.ntmps109
      go_wp2_with fail
      rw [← hV'.out]
      go_quiet (fail)
      go_wp2_with fail
      refine bodyPost_ret (results_none rfl _ _ _) rfl ?_
      refine ⟨rfl, fv, ?_, ?_⟩
      · rw [hv'.out]; exact hps.out _ (below_drewN (Below.refl _ _) _)
      · exact (Frm.of_below (below_drewN hbA.out _)).set (.inl rfl)
    · rw [hS.out, if_neg (by omega)]
      clear hS hps
      go_enter Try.func109, Try.ntmps109
      go_wp2_with fail
      rw [← hV'.out]
      go_quiet (fail)
      go_wp2_with fail
      generalize hV2 : V.drewN _ = V2
      have hb2 := Lib.hid (show Below V.heap.size V V2 by rw [← hV2]; exact below_drewN (Below.refl _ _) _)
      clear hV2 x1
      have hk3 := Lib.hid (hset.out _ hb2.out)
      have hsd2 := Lib.hid (hsd.out V2 _ hb2.out (Below.refl _ _).drew)
      have hf3 := Lib.hid (((Frm.of_below (P := WrP b fv) (hbA.out.trans (hb2.out.mono hbA.out.size))).set (g := b) (k := 4) (u := .int .i64 nt) (.inl rfl)).set (g := b) (k := 5) (u := .int .i64 0) (.inl rfl))
      obtain ⟨V3, hV3⟩ : ∃ V3, V3 = (V2.setCell ⟨b, 4, none⟩ (.int .i64 nt)).setCell ⟨b, 5, none⟩ (.int .i64 0) := ⟨_, rfl⟩
      rw [← hV3] at hk3 hsd2 hf3 ⊢
      have d4 := hk3.out.c4
      clear hV3 hset hsd
      refine wp_region_still_tail 8 (by kernel_rfl) (by kernel_rfl) ?_
      simp only [List.take_succ_cons, List.take_zero, List.drop_succ_cons, List.drop_zero]
      iterate 8 still_step
      refine wpStill_nil ?_
      go_wp2_with (go_at_call 108; refine hsd2.out.mono ?_; rintro e wj ⟨rfl, fv1, ka, kc, fr⟩; have ka' := Lib.hid ka; have kc' := Lib.hid kc; have fr' := Lib.hid fr; clear ka kc fr)
      go_end0
      exact ⟨rfl, fv1, hk3.out.drew.ofWr ka'.out kc'.out ⟨rfl, rfl, rfl⟩, hf3.out.drew.trans fr'.out⟩
/-- What the worker does next. -/
def nextV (M : Mb) : Nat := if M.ps = true then 108 else if 0 < M.nt then 109 else 110
set_option maxHeartbeats 2000000 in
set_option maxRecDepth 100000 in
theorem next106 {w : World} {B b : Nat} {fv : Value} {M : Mb} (k : MbAt w B true b fv M) {f : Nat} (hf : nextV M = f) : Calls Try.prog 106 #[.pointer (some ⟨b, 0, none⟩)] w (fun e w' => e = .returned (.func (Fn.func f) #[.pointer (some ⟨b, 0, none⟩)] #[]) ∧ w = w') := by
  have c5 := k.c5 rfl
  have c6 := k.c6 rfl
  subst hf
  unfold nextV
  obtain ⟨ps, hp⟩ : ∃ v, v = M.ps := ⟨_, rfl⟩
  obtain ⟨nt, hn⟩ : ∃ v, v = M.nt := ⟨_, rfl⟩
  rw [← hp] at c6 ⊢
  rw [← hn] at c5 ⊢
  clear k hp hn
  cases ps
  · rw [if_neg (by simp)]
    by_cases h : 0 < nt
    · rw [if_pos h]
      go_enter Try.func106, Try.ntmps106
      go_wp2
      go_ret
      exact ⟨rfl, rfl⟩
    · rw [if_neg h]
      obtain rfl : nt = 0 := by omega
      clear h
      go_enter Try.func106, Try.ntmps106
      go_wp2
      go_ret
      exact ⟨rfl, rfl⟩
  · rw [if_pos rfl]
    go_enter Try.func106, Try.ntmps106
    go_wp2
    go_ret
    exact ⟨rfl, rfl⟩
end Go.Proofs.Ytbemlfppekpmjaa
