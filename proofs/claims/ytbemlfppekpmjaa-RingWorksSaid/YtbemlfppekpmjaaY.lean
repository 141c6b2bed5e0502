import Derived.Test.YtbemlfppekpmjaaX
import Derived.Deep.MidRow
namespace Go.Proofs.Ytbemlfppekpmjaa
open Go.RowKit Rng
theorem results_cell_tmp {fn : Func} {p t : Tmp} {ty : TypeId} (h : fn.results = #[.cell p ty, .tmp t]) (tmps : Array Value) (w : World) (g : Nat) (cs : List Value) (d : TypeDesc) (hp : tmps.getD p undef = .pointer (some ⟨g, 0, none⟩)) (hc : w.rangeAt g 0 cs)
    (hu : Try.prog.underlying ty = some d) (hd : d.isRow = true) (hi : (Try.prog.info? ty).map (·.size) = some cs.length) : (results fn tmps).run Try.prog w = .ok (.tuple #[.agg cs.toArray, tmps.getD t undef]) w := by
  have hl := run_loadVar_mid (P := Try.prog) w g 0 ty cs d hc hu hd hi
  have hp' : tmps[p]?.getD undef = .pointer (some ⟨g, 0, none⟩) := by simpa using hp
  simp [results, h, hp', asAddr, hl]
theorem WrAt.other {w : World} {B b : Nat} {fv : Value} {M : Mb} (k : WrAt w B b fv M) {p j : Nat} {u : Value} (hp : ¬ WrP b fv p) : WrAt (w.setCell ⟨p, j, none⟩ u) B b fv M :=
  k.keep (by simp) (fun i hi => Below.heap_setCell w ⟨p, j, none⟩ u i (fun e => hp (by subst e; exact hi)))
theorem Frm.setNew {P P' : Nat → Prop} {w w' : World} (h : Frm P P' w w') {g k : Nat} {u : Value} (hg : w.heap.size ≤ g) : Frm P P' w (w'.setCell ⟨g, k, none⟩ u) := by
  have hs := (Below.refl 0 w').setCell (p := ⟨g, k, none⟩) (Nat.zero_le _) u
  refine ⟨hs.os.trans h.os, hs.tape.trans h.tape, hs.output.trans h.output, Nat.le_trans h.size hs.size, fun i hi h1 => ?_, h.fresh⟩
  rw [Below.heap_setCell w' ⟨g, k, none⟩ u i (fun e => by subst e; show False; exact absurd hi (by simpa using hg))]
  exact h.block i hi h1
def Mb.pop (M : Mb) : Mb := ⟨M.bg, M.ld, M.st, M.fl.tail, M.vl, M.nt, M.ps⟩
theorem range2 {W : World} {g : Nat} {a b : Value} (h0 : W.cell? ⟨g, 0, none⟩ = some a) (h1 : W.cell? ⟨g, 1, none⟩ = some b) : W.rangeAt g 0 [a, b] := fun j v hv => by
  match j, hv with
  | 0, hv => simp at hv; subst hv; simpa using h0
  | 1, hv => simp at hv; subst hv; simpa using h1
set_option maxHeartbeats 2000000 in
set_option maxRecDepth 100000 in
theorem oldest58n {w : World} {B b : Nat} {fv : Value} {M : Mb} (k : WrAt w B b fv M) (he : M.fl = []) :
    Calls Try.prog 58 #[.pointer (some ⟨b, 0, none⟩)] w (fun e w' => e = .returned (.tuple #[.agg #[.int .i64 0, .int .i64 0], .bool false]) ∧ Below w.heap.size w w') := by
  have hbA := Lib.hid (below_alloc1 w (.cells #[.int .i64 0, .int .i64 0] 108))
  obtain ⟨ao, fc, rfl, -⟩ := k.flv
  have c3 := (k.below hbA.out).c3
  rw [he] at c3
  have hg := heap_alloc_new w (.cells #[.int .i64 0, .int .i64 0] 108)
  have hr := Lib.hid (range2 (cell_of_row _ _ 0 _ _ _ hg) (cell_of_row _ _ 1 _ _ _ hg))
  clear k he hg
  go_enter Try.func58, Try.ntmps58
  go_wp2
  refine bodyPost_ret (results_cell_tmp rfl _ _ w.heap.size [.int .i64 0, .int .i64 0] _ rfl hr.out Try.underlying108 rfl (by kernel_rfl)) rfl ?_
  exact ⟨rfl, hbA.out⟩
set_option maxHeartbeats 2000000 in
set_option maxRecDepth 100000 in
theorem oldest58 {w : World} {B b : Nat} {fv : Value} {M : Mb} (k : WrAt w B b fv M) (hl : M.fl.length ≤ 1000) {kd nm : Nat} {tl : List Nt} (he : M.fl = ⟨kd, nm⟩ :: tl) :
    Calls Try.prog 58 #[.pointer (some ⟨b, 0, none⟩)] w (WrEnd w B b fv (Mb.pop M) (.tuple #[.agg #[.int .i64 kd, .int .i64 nm], .bool true])) := by
  have hbA := Lib.hid (below_alloc1 w (.cells #[.int .i64 0, .int .i64 0] 108))
  have hbB := Lib.hid (below_alloc1 (w.alloc (.cells #[.int .i64 0, .int .i64 0] 108)) (.cells #[.int .i64 kd, .int .i64 nm] 108))
  have hbw := Lib.hid k.bw
  have k1 := Lib.hid (k.below hbA.out)
  have k2 := Lib.hid (k1.out.below hbB.out)
  obtain ⟨ao, fc, rfl, hmc⟩ := k.flv
  have c3 := k1.out.c3
  have d3 := k2.out.c3
  have hO := k2.out.fl
  obtain ⟨g, rfl, hgw⟩ : ∃ g, ao = some ⟨g, 0, none⟩ ∧ g < w.heap.size := by
    obtain ⟨_, _, e, _, h⟩ := own_cells k.fl
    obtain ⟨g, e2, _, hg, _⟩ := h (by rw [he]; simp)
    injection e with e _ _
    exact ⟨g, by rw [e, e2], hg⟩
  have hcl : ∀ j u, (flat encN M.fl)[j]? = some u → (w.alloc (.cells #[.int .i64 0, .int .i64 0] 108)).cell? ⟨g, j, none⟩ = some u := fun j u hu => by
    obtain ⟨_, _, e, _, h⟩ := own_cells k1.out.fl
    obtain ⟨g', e2, _, _, hc⟩ := h (by rw [he]; simp)
    injection e with e _ _
    rw [← e] at e2
    obtain rfl : g = g' := by injection e2 with e2; injection e2
    exact hc j u hu
  have n0 := hcl 0 (.int .i64 kd) (by rw [he]; rfl)
  have n1 := hcl 1 (.int .i64 nm) (by rw [he]; rfl)
  obtain ⟨m, hm⟩ : ∃ m, m = M.fl.length := ⟨_, rfl⟩
  have hm1 : 1 ≤ m := by rw [hm, he]; simp
  rw [← hm] at c3 d3 hmc hl k1 k2 ⊢
  have hm' := Lib.hid hm
  obtain ⟨W, hW⟩ : ∃ W, W = (w.alloc (.cells #[.int .i64 0, .int .i64 0] 108)).alloc (.cells #[.int .i64 kd, .int .i64 nm] 108) := ⟨_, rfl⟩
  have hdf : DelFacts W B 108 2 g m fc 0 (flat encN M.fl) [.int .i64 0, .int .i64 0] :=
    ⟨by rw [hW]; unfold OwnN at hO; rw [← hm] at hO; exact hO, one_flatN _, by omega, rfl⟩
  have hdel := Lib.hid (show Calls Try.prog 78 #[.slice (some ⟨g, 0, none⟩) m fc, .int .i64 0, .int .i64 1] W (DelEnd W B 108 2 g m fc 0 (flat encN M.fl)) from del78 hdf hl)
  have hz := heap_alloc_new (w.alloc (.cells #[.int .i64 0, .int .i64 0] 108)) (.cells #[.int .i64 kd, .int .i64 nm] 108)
  rw [← hW, World.size_alloc] at hz
  have p0 := cell_of_row _ _ 0 _ _ _ hz
  have p1 := cell_of_row _ _ 1 _ _ _ hz
  have hy := heap_alloc_new w (.cells #[.int .i64 0, .int .i64 0] 108)
  have hyW : W.heap[w.heap.size]? = some (.cells #[.int .i64 0, .int .i64 0] 108) := by rw [hW]; exact (hbB.out.block _ (by rw [World.size_alloc]; exact Nat.lt_succ_self _)).trans hy
  have q0 := cell_of_row _ _ 0 _ _ _ hyW
  have q1 := cell_of_row _ _ 1 _ _ _ hyW
  have qf : ∀ j, W.frozen? ⟨w.heap.size, j, none⟩ = false := fun j => frozen_of_row _ _ j _ _ hyW
  have hbW := Lib.hid (show Below w.heap.size w W by rw [hW]; exact hbA.out.trans (hbB.out.mono hbA.out.size))
  have kW := Lib.hid (show WrAt W B b (.slice (some ⟨g, 0, none⟩) m fc) M by rw [hW]; exact k2.out)
  have hbf := Lib.hid k.bf
  have hsW := Lib.hid (show W.heap.size = w.heap.size + 2 by rw [hW]; simp)
  have he' := Lib.hid he
  have step : Hid (∀ w2, w2.ownsRow B 108 2 (.slice (some ⟨g, 0, none⟩) (m - 1) fc) (m - 1) ((flat encN M.fl).take (0 * 2) ++ (flat encN M.fl).drop ((0 + 1) * 2)) → Frm (· = g) (· = g) W w2 →
      WrAt (w2.setCell ⟨b, 3, none⟩ (.slice (some ⟨g, 0, none⟩) (m - 1) fc)) B b (.slice (some ⟨g, 0, none⟩) (m - 1) fc) (Mb.pop M) ∧ Frm (WrP b (.slice (some ⟨g, 0, none⟩) m fc)) (WrP b (.slice (some ⟨g, 0, none⟩) (m - 1) fc)) w (w2.setCell ⟨b, 3, none⟩ (.slice (some ⟨g, 0, none⟩) (m - 1) fc)) ∧
      (∀ p j, p ≠ g → p < W.heap.size → w2.cell? ⟨p, j, none⟩ = W.cell? ⟨p, j, none⟩ ∧ w2.frozen? ⟨p, j, none⟩ = W.frozen? ⟨p, j, none⟩)) := Lib.hid fun w2 hown fr => by
    refine ⟨?_, ?_, fun p j hp hpw => ⟨cell_block (fr.block p hpw hp), frozen_block (fr.block p hpw hp)⟩⟩
    · refine kW.out.setF fr.size (fun j hj hne => fr.block j hj (fun e => hne (by rw [e]; rfl))) ?_ (fun j e => .inl e)
      unfold OwnN
      have e1 : M.fl.tail.length = m - 1 := by rw [List.length_tail, hm'.out]
      have e2 : flat encN M.fl.tail = (flat encN M.fl).take (0 * 2) ++ (flat encN M.fl).drop ((0 + 1) * 2) := by rw [he'.out]; rfl
      rw [e1, e2]
      exact hown
    · refine Frm.trans (Frm.of_below hbW.out) ((Frm.wide fr (fun j e => .inr (by rw [e]; rfl)) (fun j e => .inr ?_)).set (.inl rfl))
      rcases e with e | e
      · exact .inl e
      · exact .inr e
  have hW' := Lib.hid hW
  have hgb := Lib.hid (show b ≠ g from fun e => hbf.out (by rw [e]; rfl))
  have hgx := Lib.hid (show w.heap.size ≠ g ∧ w.heap.size + 1 ≠ g by omega)
  have k' := Lib.hid k
  clear k hO hm hW hdf hz hy hyW he hcl hgw hl
  go_enter Try.func58, Try.ntmps58
  have hbX := Lib.hid (show b ≠ w.heap.size ∧ b ≠ w.heap.size + 1 by have := hbw.out; omega)
  go_wp2_with (go_at_call 78; rw [← hW'.out]; refine hdel.out.mono ?_; rintro e w2 ⟨rfl, hown, fr⟩
               obtain ⟨kd2, frd, hx⟩ := step.out w2 hown fr
               have u3 := (hx b 3 hgb.out (by rw [hsW.out]; have := hbw.out; omega)).1.trans kW.out.c3
               have uf := (hx b 3 hgb.out (by rw [hsW.out]; have := hbw.out; omega)).2.trans (kW.out.fz 3)
               have v0 := (hx w.heap.size 0 hgx.out.1 (by rw [hsW.out]; omega)).1.trans q0
               have v1 := (hx w.heap.size 1 hgx.out.1 (by rw [hsW.out]; omega)).1.trans q1
               have vf0 := (hx w.heap.size 0 hgx.out.1 (by rw [hsW.out]; omega)).2.trans (qf 0)
               have vf1 := (hx w.heap.size 1 hgx.out.1 (by rw [hsW.out]; omega)).2.trans (qf 1)
               have r0 := (hx (w.heap.size + 1) 0 hgx.out.2 (by rw [hsW.out]; omega)).1.trans p0
               have r1 := (hx (w.heap.size + 1) 1 hgx.out.2 (by rw [hsW.out]; omega)).1.trans p1
               have hbx1 := hbX.out.1
               have hbx2 := hbX.out.2
               have hxb := Lib.hid (fun j => (hx b j hgb.out (by rw [hsW.out]; have := hbw.out; omega)).1)
               have hkd2 := Lib.hid kd2
               have hfrd := Lib.hid frd
               clear hown fr kd2 frd hx p0 p1 q0 q1 qf n0 n1 c3 d3 hdel step)
  have hr : (((w2.setCell ⟨b, 3, none⟩ (.slice (some ⟨g, 0, none⟩) (m - 1) fc)).setCell ⟨w.heap.size, 0, none⟩ (.int .i64 kd)).setCell ⟨w.heap.size, 1, none⟩ (.int .i64 nm)).rangeAt w.heap.size 0 [.int .i64 kd, .int .i64 nm] := by
    have t0 : (w2.setCell ⟨b, 3, none⟩ (.slice (some ⟨g, 0, none⟩) (m - 1) fc)).cell? ⟨w.heap.size, 0, none⟩ = some (.int .i64 0) := by rw [World.cell?_setCell_other _ _ _ _ (by simp <;> omega)]; exact v0
    have t1 : (w2.setCell ⟨b, 3, none⟩ (.slice (some ⟨g, 0, none⟩) (m - 1) fc)).cell? ⟨w.heap.size, 1, none⟩ = some (.int .i64 0) := by rw [World.cell?_setCell_other _ _ _ _ (by simp <;> omega)]; exact v1
    refine range2 ?_ ?_
    · rw [World.cell?_setCell_other _ _ _ _ (by simp), World.cell?_setCell_same' _ _ _ (by rw [t0]; rfl)]
    · rw [World.cell?_setCell_same' _ _ _ (by rw [World.cell?_setCell_other _ _ _ _ (by simp), t1]; rfl)]
  refine bodyPost_ret (results_cell_tmp rfl _ _ w.heap.size [.int .i64 kd, .int .i64 nm] _ rfl hr Try.underlying108 rfl (by kernel_rfl)) rfl ?_
  have hnew : ¬ WrP b (.slice (some ⟨g, 0, none⟩) (m - 1) fc) w.heap.size := by
    rintro (e | e)
    · exact hbX.out.1 e.symm
    · injection e with e; exact hgx.out.1 e.symm
  refine ⟨rfl, .slice (some ⟨g, 0, none⟩) (m - 1) fc, (hkd2.out.other hnew).other hnew, fun j hj => ?_, (hfrd.out.setNew (Nat.le_refl _)).setNew (Nat.le_refl _)⟩
  rw [World.cell?_setCell_other _ _ _ _ (by simp <;> omega), World.cell?_setCell_other _ _ _ _ (by simp <;> omega), World.cell?_setCell_other _ _ _ _ (by simp <;> omega), hxb.out j]
  exact hbW.out.cell (p := ⟨b, j, none⟩) hbw.out
end Go.Proofs.Ytbemlfppekpmjaa
