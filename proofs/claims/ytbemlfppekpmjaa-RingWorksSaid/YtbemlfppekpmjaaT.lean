import Derived.Test.YtbemlfppekpmjaaS
namespace Go.Proofs.Ytbemlfppekpmjaa
open Go.RowKit Rng
set_option maxHeartbeats 2000000 in
set_option maxRecDepth 100000 in
theorem begin107 {w : World} {B b : Nat} {fv : Value} {M : Mb} (k : WrAt w B b fv M) (hl : M.fl.length ≤ 100000) (hs : M.st ≤ 100000) (v : Nat) :
    Calls Try.prog 107 #[.pointer (some ⟨b, 0, none⟩), .int .i64 v] w (WrEnd w B b fv (M.begin v) (.tuple #[])) := by
  have k1 : WrAt (w.setCell ⟨b, 0, none⟩ (.bool true)) B b fv ⟨true, M.ld, M.st, M.fl, M.vl, M.nt, M.ps⟩ := k.setC (by decide) rfl rfl rfl rfl
  have hsd := Lib.hid (send108 k1 hl hs ⟨1, v⟩)
  have hfr := Lib.hid ((Frm.refl (WrP b fv) w).set (g := b) (k := 0) (u := .bool true) (.inl rfl))
  have c0 := k.c0
  have fz := k.fz 0
  have k' := Lib.hid k
  clear k k1 hl hs
  go_enter Try.func107, Try.ntmps107
  go_wp2_with (go_at_call 108; refine hsd.out.mono ?_; rintro e wj ⟨rfl, fv1, ka, kc, fr⟩; have ka' := Lib.hid ka; have kc' := Lib.hid kc; have fr' := Lib.hid fr; clear ka kc fr)
  go_end0
  exact ⟨rfl, fv1, ka'.out, fun j hj => (kc'.out j hj).trans (World.cell?_setCell_other _ _ _ _ (by simp <;> omega)), hfr.out.trans fr'.out⟩
set_option maxHeartbeats 2000000 in
set_option maxRecDepth 100000 in
theorem learn105 {w : World} {B b : Nat} {fv : Value} {M : Mb} (k : WrAt w B b fv M) (hl : M.fl.length ≤ 100000) (hs : M.st ≤ 100000) (v : Nat) :
    Calls Try.prog 105 #[.pointer (some ⟨b, 0, none⟩), .int .i64 v] w (WrEnd w B b fv (M.learn v) (.tuple #[])) := by
  have k1 : WrAt (w.setCell ⟨b, 1, none⟩ (.int .i64 v)) B b fv ⟨M.bg, v, M.st, M.fl, M.vl, M.nt, M.ps⟩ := k.setC (by decide) rfl rfl rfl rfl
  have hsd := Lib.hid (send108 k1 hl hs ⟨3, v⟩)
  have hfr := Lib.hid ((Frm.refl (WrP b fv) w).set (g := b) (k := 1) (u := .int .i64 v) (.inl rfl))
  have c1 := k.c1
  have fz := k.fz 1
  have k' := Lib.hid k
  clear k k1 hl hs
  go_enter Try.func105, Try.ntmps105
  go_wp2_with (go_at_call 108; refine hsd.out.mono ?_; rintro e wj ⟨rfl, fv1, ka, kc, fr⟩; have ka' := Lib.hid ka; have kc' := Lib.hid kc; have fr' := Lib.hid fr; clear ka kc fr)
  go_end0
  exact ⟨rfl, fv1, ka'.out, fun j hj => (kc'.out j hj).trans (World.cell?_setCell_other _ _ _ _ (by simp <;> omega)), hfr.out.trans fr'.out⟩
/-- A worker by one of the rules. -/
structure MbAt (w : World) (B : Nat) (pet : Bool) (b : Nat) (fv : Value) (M : Mb) : Prop where
  wr : WrAt w B b fv M
  c4 : w.cell? ⟨b, 4, none⟩ = some (.int .i64 M.vl)
  c5 : pet = true → w.cell? ⟨b, 5, none⟩ = some (.int .i64 M.nt)
  c6 : pet = true → w.cell? ⟨b, 6, none⟩ = some (.bool M.ps)
def MbEnd (w : World) (B : Nat) (pet : Bool) (b : Nat) (fv : Value) (M : Mb) (ev : Value) (e : Ending) (w' : World) : Prop := e = .returned ev ∧ ∃ fv', MbAt w' B pet b fv' M ∧ Frm (WrP b fv) (WrP b fv') w w'
theorem MbAt.keep {w w' : World} {B b : Nat} {pet : Bool} {fv : Value} {M : Mb} (k : MbAt w B pet b fv M) (hs : w.heap.size ≤ w'.heap.size) (hb : ∀ i, WrP b fv i → w'.heap[i]? = w.heap[i]?) : MbAt w' B pet b fv M :=
  ⟨k.wr.keep hs hb, (cell_block (hb b (.inl rfl))).trans k.c4, fun h => (cell_block (hb b (.inl rfl))).trans (k.c5 h), fun h => (cell_block (hb b (.inl rfl))).trans (k.c6 h)⟩
theorem MbAt.below {w w' : World} {B b : Nat} {pet : Bool} {fv : Value} {M : Mb} (k : MbAt w B pet b fv M) (hb : Below w.heap.size w w') : MbAt w' B pet b fv M :=
  k.keep hb.size (fun i hi => hb.block i (k.wr.pos i hi).2)
theorem MbAt.drew {w : World} {B b : Nat} {pet : Bool} {fv : Value} {M : Mb} (k : MbAt w B pet b fv M) : MbAt w.drew B pet b fv M := ⟨k.wr.drew, k.c4, k.c5, k.c6⟩
/-- What a worker's part does, the worker does. -/
theorem MbAt.ofWr {w w' : World} {B b : Nat} {pet : Bool} {fv fv' : Value} {M M' : Mb} (k : MbAt w B pet b fv M) (ka : WrAt w' B b fv' M') (kc : ∀ j, 4 ≤ j → w'.cell? ⟨b, j, none⟩ = w.cell? ⟨b, j, none⟩) (e : M'.vl = M.vl ∧ M'.nt = M.nt ∧ M'.ps = M.ps) : MbAt w' B pet b fv' M' :=
  ⟨ka, by rw [kc 4 (by omega), e.1]; exact k.c4, fun h => by rw [kc 5 (by omega), e.2.1]; exact k.c5 h, fun h => by rw [kc 6 (by omega), e.2.2]; exact k.c6 h⟩
/-- A number of the rule is laid. -/
theorem MbAt.setX {w : World} {B b : Nat} {pet : Bool} {fv u : Value} {M M' : Mb} {j : Nat} (k : MbAt w B pet b fv M) (hj : 4 ≤ j) (h4 : (if j = 4 then u else .int .i64 M.vl) = .int .i64 M'.vl) (h5 : (if j = 5 then u else .int .i64 M.nt) = .int .i64 M'.nt) (h6 : (if j = 6 then u else .bool M.ps) = .bool M'.ps)
    (e : M'.bg = M.bg ∧ M'.ld = M.ld ∧ M'.st = M.st ∧ M'.fl = M.fl) : MbAt (w.setCell ⟨b, j, none⟩ u) B pet b fv M' := by
  have hc : ∀ i v, w.cell? ⟨b, i, none⟩ = some v → (w.setCell ⟨b, j, none⟩ u).cell? ⟨b, i, none⟩ = some (if j = i then u else v) := fun i v hv => by
    by_cases e : j = i
    · subst e; rw [if_pos rfl, World.cell?_setCell_same' _ _ _ (by rw [hv]; rfl)]
    · rw [if_neg e, World.cell?_setCell_other _ _ _ _ (by simp <;> omega), hv]
  refine ⟨⟨k.wr.Bb, by simpa using k.wr.bw, ?_, ?_, ?_, ?_, fun i => by rw [World.frozen?_setCell]; exact k.wr.fz i, ?_, k.wr.bf⟩, ?_, fun h => ?_, fun h => ?_⟩
  · rw [hc 0 _ k.wr.c0, if_neg (by omega), e.1]
  · rw [hc 1 _ k.wr.c1, if_neg (by omega), e.2.1]
  · rw [hc 2 _ k.wr.c2, if_neg (by omega), e.2.2.1]
  · rw [hc 3 _ k.wr.c3, if_neg (by omega)]
  · rw [e.2.2.2]; exact ownsRow_setCell_other k.wr.fl k.wr.bf _
  · rw [hc 4 _ k.c4, h4]
  · rw [hc 5 _ (k.c5 h), h5]
  · rw [hc 6 _ (k.c6 h), h6]
set_option maxHeartbeats 2000000 in
set_option maxRecDepth 100000 in
theorem start104 {w : World} {B b : Nat} {fv : Value} {M : Mb} (k : MbAt w B true b fv M) (hl : M.fl.length ≤ 100000) (hs : M.st ≤ 100000) :
    Calls Try.prog 104 #[.pointer (some ⟨b, 0, none⟩)] w (MbEnd w B true b fv M.start (.tuple #[])) := by
  have hbg := Lib.hid (begin107 k.wr.drew hl hs M.vl)
  have c4 := k.c4
  have k' := Lib.hid k
  obtain ⟨vl, hv⟩ : ∃ v, v = M.vl := ⟨_, rfl⟩
  rw [← hv] at hbg c4
  have hv' := Lib.hid hv
  clear k hl hs hv
  go_enter Try.func104, Try.ntmps104
  refine wp_region_still_tail 7 (by kernel_rfl) (by kernel_rfl) ?_
  simp only [List.take_succ_cons, List.take_zero, List.drop_succ_cons, List.drop_zero]
  iterate 7 still_step
  refine wpStill_nil ?_
  go_wp2_with (go_at_call 107; refine hbg.out.mono ?_; rintro e wj ⟨rfl, fv1, ka, kc, fr⟩; have ka' := Lib.hid ka; have kc' := Lib.hid kc; have fr' := Lib.hid fr; clear ka kc fr)
  go_end0
  refine ⟨rfl, fv1, k'.out.ofWr ?_ kc'.out ⟨rfl, rfl, rfl⟩, ((Frm.refl _ w).drew).trans fr'.out⟩
  have := ka'.out
  rw [hv'.out] at this
  exact this
end Go.Proofs.Ytbemlfppekpmjaa
