import Derived.Test.YtbemlfppekpmjaaT
import Derived.BigQuiet
namespace Go.Proofs.Ytbemlfppekpmjaa
open Go.RowKit Rng
theorem learnAt {w W : World} {B b : Nat} {fv : Value} {M : Mb} (k : WrAt w B b fv M) (hl : M.fl.length ≤ 100000) (hs : M.st ≤ 100000) (v : Nat) (hb : Below w.heap.size w W) :
    Calls Try.prog 105 #[.pointer (some ⟨b, 0, none⟩), .int .i64 v] W (WrEnd W B b fv (M.learn v) (.tuple #[])) := learn105 (k.below hb) hl hs v
theorem sendAt {w W : World} {B b : Nat} {fv : Value} {M : Mb} (k : WrAt w B b fv M) (hl : M.fl.length ≤ 100000) (hs : M.st ≤ 100000) (x : Nt) (hb : Below w.heap.size w W) :
    Calls Try.prog 108 #[.pointer (some ⟨b, 0, none⟩), .agg #[.int .i64 x.kd, .int .i64 x.nm]] W (WrEnd W B b fv (M.send x) (.tuple #[])) := send108 (k.below hb) hl hs x
set_option maxHeartbeats 2000000 in
set_option maxRecDepth 100000 in
theorem first110 {w : World} {B b : Nat} {fv : Value} {M : Mb} (k : MbAt w B true b fv M) (hl : M.fl.length ≤ 100000) (hs : M.st ≤ 100000) (kd nm : Nat) :
    Calls Try.prog 110 #[.pointer (some ⟨b, 0, none⟩), .agg #[.int .i64 kd, .int .i64 nm]] w (MbEnd w B true b fv (M.pFirst ⟨kd, nm⟩) (.tuple #[])) := by
  obtain ⟨V, hV⟩ : ∃ V, V = w.alloc (.cells #[.int .i64 kd, .int .i64 nm] 108) := ⟨_, rfl⟩
  have hbA := Lib.hid (show Below w.heap.size w V by rw [hV]; exact below_alloc1 _ _)
  have k1 := Lib.hid (k.below hbA.out)
  have hgA := heap_alloc_new w (.cells #[.int .i64 kd, .int .i64 nm] 108)
  have x1 : V.cell? ⟨w.heap.size, 1, none⟩ = some (.int .i64 nm) := by rw [hV]; exact cell_of_row _ _ 1 _ _ _ hgA
  have c4 := k1.out.c4
  have c5 := k1.out.c5 rfl
  have fz5 := k1.out.wr.fz 5
  have hbX := Nat.ne_of_lt k.wr.bw
  have k0 := Lib.hid k
  obtain ⟨vl, hv⟩ : ∃ v, v = M.vl := ⟨_, rfl⟩
  have hv' := Lib.hid hv
  have hV' := Lib.hid hV
  by_cases e : nm = vl
  · have hS : M.pFirst ⟨kd, nm⟩ = M.learn nm := by unfold Mb.pFirst; rw [if_pos (by rw [← hv]; exact e)]
    rw [hS]
    rw [← hv] at c4
    subst e
    have hln := Lib.hid (fun (W : World) (hb : Below V.heap.size V W) => learnAt k1.out.wr hl hs nm hb)
    clear k hV hgA hl hs hS hv
    go_enter Try.func110, Try.ntmps110
    go_wp2_with fail
    rw [← hV'.out]
    go_quiet (fail)
    go_wp2_with fail
    generalize hV2 : V.drewN _ = V2
    have x1' : V2.cell? ⟨w.heap.size, 1, none⟩ = some (.int .i64 nm) := by rw [← hV2]; exact x1
    have hb2 := Lib.hid (show Below V.heap.size V V2 by rw [← hV2]; exact below_drewN (Below.refl _ _) _)
    clear hV2 x1
    refine wp_region_still_tail 5 (by kernel_rfl) (by kernel_rfl) ?_
    simp only [List.take_succ_cons, List.take_zero, List.drop_succ_cons, List.drop_zero]
    iterate 5 still_step
    refine wpStill_nil ?_
    go_wp2_with (go_at_call 105; refine (hln.out _ hb2.out.drew).mono ?_; rintro e wj ⟨rfl, fv1, ka, kc, fr⟩; have ka' := Lib.hid ka; have kc' := Lib.hid kc; have fr' := Lib.hid fr; clear ka kc fr)
    have hb3 := (hbA.out.trans (hb2.out.mono hbA.out.size)).drew
    refine bodyPost_ret (results_none rfl _ _ _) rfl ?_
    exact ⟨rfl, fv1, (k0.out.below hb3).ofWr ka'.out kc'.out ⟨rfl, rfl, rfl⟩, (Frm.of_below hb3).trans fr'.out⟩
  · have hS : M.pFirst ⟨kd, nm⟩ = (⟨M.bg, M.ld, M.st, M.fl, M.vl, nm, M.ps⟩ : Mb).send ⟨2, nm⟩ := by unfold Mb.pFirst; rw [if_neg (by rw [← hv]; exact e)]
    rw [hS]
    rw [← hv] at c4
    have hne : ((nm : Int) == (vl : Int)) = false := by simp; omega
    have hset := Lib.hid (fun (W : World) (hb : Below V.heap.size V W) => (show MbAt (W.setCell ⟨b, 5, none⟩ (.int .i64 nm)) B true b fv ⟨M.bg, M.ld, M.st, M.fl, M.vl, nm, M.ps⟩ from (k1.out.below hb).setX (by decide) rfl rfl rfl ⟨rfl, rfl, rfl, rfl⟩))
    have hsd := Lib.hid (fun (W W' : World) (hb : Below V.heap.size V W) (hb2 : Below (W.setCell ⟨b, 5, none⟩ (.int .i64 nm)).heap.size (W.setCell ⟨b, 5, none⟩ (.int .i64 nm)) W') => sendAt (hset.out W hb).wr hl hs ⟨2, nm⟩ hb2)
    have e' := Lib.hid e
    clear k hV hgA hl hs hS hv e
    go_enter Try.func110, Try.ntmps110
    go_wp2_with fail
    rw [← hV'.out]
    go_quiet (fail)
    go_wp2_with fail
    generalize hV2 : V.drewN _ = V2
    have x1' : (V2.setCell ⟨b, 5, none⟩ (.int .i64 nm)).cell? ⟨w.heap.size, 1, none⟩ = some (.int .i64 nm) := by rw [← hV2, World.cell?_setCell_other _ _ _ _ (by simp <;> omega)]; exact x1
    have hb2 := Lib.hid (show Below V.heap.size V V2 by rw [← hV2]; exact below_drewN (Below.refl _ _) _)
    clear hV2 x1
    obtain ⟨V3, hV3⟩ : ∃ V3, V3 = V2.setCell ⟨b, 5, none⟩ (.int .i64 nm) := ⟨_, rfl⟩
    have hsd2 := Lib.hid (hsd.out V2 _ hb2.out (Below.refl _ _).drew)
    have hV3' := Lib.hid hV3
    rw [← hV3] at x1' hsd2 ⊢
    clear hV3
    refine wp_region_still_tail 6 (by kernel_rfl) (by kernel_rfl) ?_
    simp only [List.take_succ_cons, List.take_zero, List.drop_succ_cons, List.drop_zero]
    iterate 6 still_step
    refine wpStill_nil ?_
    go_wp2_with (go_at_call 108; refine hsd2.out.mono ?_; rintro e wj ⟨rfl, fv1, ka, kc, fr⟩; have ka' := Lib.hid ka; have kc' := Lib.hid kc; have fr' := Lib.hid fr; clear ka kc fr)
    go_end0
    have hb3 := hbA.out.trans (hb2.out.mono hbA.out.size)
    have hk3 := hset.out _ hb2.out
    have hf3 := (Frm.of_below (P := WrP b fv) hb3).set (g := b) (k := 5) (u := .int .i64 nm) (.inl rfl)
    rw [← hV3'.out] at hk3 hf3
    exact ⟨rfl, fv1, hk3.drew.ofWr ka'.out kc'.out ⟨rfl, rfl, rfl⟩, hf3.drew.trans fr'.out⟩
end Go.Proofs.Ytbemlfppekpmjaa
