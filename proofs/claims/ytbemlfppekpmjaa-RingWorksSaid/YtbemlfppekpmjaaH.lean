import Derived.Test.YtbemlfppekpmjaaG
namespace Go.Proofs.Ytbemlfppekpmjaa
open Go.RowKit Rng
def dlvE (S : WS) (k : Int) : Int × WS := if inB k S.fl.length = false then (1, S) else (0, S.dlv k.toNat)
theorem flat_erase {α : Type} {enc : α → List Value} {z : Nat} (hz : ∀ a, (enc a).length = z) (xs : List α) (k : Nat) : flat enc (xs.eraseIdx k) = (flat enc xs).take (k * z) ++ (flat enc xs).drop ((k + 1) * z) := by
  rw [List.eraseIdx_eq_take_drop_succ, flat_app, flat_take hz, flat_drop hz]
theorem WkAt.letter {w : World} {B b h c m fc : Nat} {ao : Option Addr} {S : WS} (k : WkAt w B b h c (.slice ao m fc) S) {i : Nat} (hi : i < S.fl.length) : ∃ g, ao = some ⟨g, 0, none⟩ ∧ m = S.fl.length ∧ m ≤ fc ∧ g < w.heap.size ∧
    w.cell? ⟨g, i * 3, none⟩ = some (.int .i64 (S.fl.getD i L0).fr) ∧ w.cell? ⟨g, i * 3 + 1, none⟩ = some (.int .i64 (S.fl.getD i L0).to) ∧ w.cell? ⟨g, i * 3 + 2, none⟩ = some (.bool (S.fl.getD i L0).ack) := by
  obtain ⟨ao', c', e, hc', hc⟩ := own_cells k.fl
  obtain ⟨g, e1, _, hg, hcl⟩ := hc (by omega)
  obtain ⟨rfl, rfl, rfl⟩ : ao = ao' ∧ m = S.fl.length ∧ fc = c' := by injection e with a b c; exact ⟨a, b, c⟩
  obtain ⟨a1, a2, a3⟩ := fl_at hi
  exact ⟨g, e1, rfl, hc', hg, hcl _ _ a1, hcl _ _ a2, hcl _ _ a3⟩
theorem agg3 (a b c : Value) : (Value.agg #[a, b, c]) = .agg #[a, b, c] := rfl
set_option maxHeartbeats 4000000 in
set_option maxRecDepth 100000 in
theorem dlvBad {w : World} {B b h c : Nat} {fv : Value} {S : WS} (k : WkAt w B b h c fv S) (x : Int) (hx : inB x S.fl.length = false) :
    Calls Try.prog 31 #[.pointer (some ⟨b, 0, none⟩), .int .i64 x] w (WkEnd w B b h c fv S (.int .i64 1)) := by
  have k' := Lib.hid k
  have c0 := k.c0
  have c2 := k.c2
  have ht := Lib.hid (there61 c0)
  obtain ⟨ao, fc, rfl, -⟩ := k.flv
  obtain ⟨m, hm⟩ : ∃ m, m = S.fl.length := ⟨_, rfl⟩
  rw [← hm] at c2 k' hx ⊢
  clear k hm
  by_cases h0 : x < 0
  · clear hx
    go_enter Try.func31, Try.ntmps31
    go_wp2_with (go_at_call 61; refine ht.out.mono ?_; rintro e wj ⟨rfl, rfl⟩)
    go_ret
    exact ⟨rfl, _, k'.out, Frm.refl _ _⟩
  · have h1 : ¬ (x < (m : Int)) := by intro e; simp [inB] at hx; omega
    have h2 : decide (x < 0) = false := by simpa using h0
    clear hx
    go_enter Try.func31, Try.ntmps31
    go_wp2_with (go_at_call 61; refine ht.out.mono ?_; rintro e wj ⟨rfl, rfl⟩)
    go_ret
    exact ⟨rfl, _, k'.out, Frm.refl _ _⟩
set_option maxHeartbeats 4000000 in
set_option maxRecDepth 100000 in
theorem dlv31 {w : World} {B b h c : Nat} {fv : Value} {S : WS} (k : WkAt w B b h c fv S) (hv : Inv S) {i : Nat} (hi : i < S.fl.length) :
    Calls Try.prog 31 #[.pointer (some ⟨b, 0, none⟩), .int .i64 i] w (WkEnd w B b h c fv (S.dlv i) (.int .i64 0)) := by
  have k' := Lib.hid k
  have c0 := k.c0
  have c2 := k.c2
  have hro := hv.room
  have ht := Lib.hid (there61 c0)
  obtain ⟨ao, fc, rfl, -⟩ := k.flv
  obtain ⟨m, hm⟩ : ∃ m, m = S.fl.length := ⟨_, rfl⟩
  rw [← hm] at c2 k' hro ⊢
  obtain ⟨g, rfl, -, hmc, hgw, l0, l1, l2⟩ := k'.out.letter hi
  obtain ⟨hfr, hto⟩ := ends_get hv.ends hi
  have hak := ak_drop S i (S.fl.getD i L0).to hi
  have hdue := hv.due _ hto
  have hheld := hv.held _ hto
  obtain ⟨⟨f, t, a⟩, hlq⟩ : ∃ l, l = S.fl.getD i L0 := ⟨_, rfl⟩
  have hS : S.dlv i = if a = true then (S.drop i).acked t else (S.drop i).take ⟨f, t, a⟩ := by unfold WS.dlv; rw [← hlq]
  rw [← hlq] at l0 l1 l2 hfr hto hak hdue hheld
  simp only at l0 l1 l2 hfr hto hak hdue hheld
  have him : (i : Int) < (m : Int) := by omega
  have him2 : i < m := by omega
  have hm' := Lib.hid hm
  have hX := Lib.hid (Nat.le_refl w.heap.size)
  have hb1 := Lib.hid (below_alloc1 w (.cells #[.int .i64 f, .int .i64 t, .bool a] 69))
  have k1 := Lib.hid (k'.out.below hb1.out)
  have fr1 := Lib.hid (Frm.of_below (P := WkP b h (.slice (some ⟨g, 0, none⟩) m fc)) hb1.out)
  have hgA := heap_alloc_new w (.cells #[.int .i64 f, .int .i64 t, .bool a] 69)
  have x0 := cell_of_row _ _ 0 _ _ _ hgA
  have x1 := cell_of_row _ _ 1 _ _ _ hgA
  have x2 := cell_of_row _ _ 2 _ _ _ hgA
  have hnew := Lib.hid (new_not k'.out)
  have hdf : DelFacts (w.alloc (.cells #[.int .i64 f, .int .i64 t, .bool a] 69)) B 69 3 g m fc i (flat encL S.fl) [.int .i64 0, .int .i64 0, .bool false] :=
    ⟨by have := k1.out.fl; unfold OwnL at this; rw [← hm'.out] at this; exact this, one_flatL _, him2, rfl⟩
  have hdel := Lib.hid (del69 hdf (by omega))
  have hgb := Lib.hid k'.out.bf
  have hgh := Lib.hid k'.out.hf
  have hS' := Lib.hid hS
  have hnX := Lib.hid (show g ≠ w.heap.size by omega)
  have hbX := Lib.hid (Nat.ne_of_lt k'.out.bw)
  have hhX := Lib.hid (Nat.ne_of_lt k'.out.lt_h)
  have hto' := Lib.hid hto
  have hbw := Lib.hid (Nat.le_of_lt k'.out.bw)
  have hroom := Lib.hid (show (S.drop i).fl.length ≤ 1000 by have := fl_drop_len (S := S) (k := i) (by omega); omega)
  have hn0 : ¬ ((i : Int) < 0) := by omega
  obtain ⟨n, hn⟩ : ∃ n, n = S.n := ⟨_, rfl⟩
  have hn' := Lib.hid hn
  have htn : t < n := by omega
  have htI : (t : Int) < (n : Int) := by omega
  have hnc := k.nc
  rw [← hn] at hnc
  have hole0 := Lib.hid (owed_le hv hto)
  obtain ⟨o, ho⟩ : ∃ o, o = (S.hd t).owed := ⟨_, rfl⟩
  have ho' := Lib.hid ho
  rw [← ho] at hdue hheld
  have c2' := Lib.hid c2
  have hbh := Lib.hid k'.out.bh
  have hheld' := Lib.hid hheld
  have hgX := Lib.hid hgw
  -- the shorter row is laid
  have step : Hid (∀ w2, w2.ownsRow B 69 3 (.slice (some ⟨g, 0, none⟩) (m - 1) fc) (m - 1) ((flat encL S.fl).take (i * 3) ++ (flat encL S.fl).drop ((i + 1) * 3)) → Frm (· = g) (· = g) (w.alloc (.cells #[.int .i64 f, .int .i64 t, .bool a] 69)) w2 →
      WkAt (w2.setCell ⟨b, 2, none⟩ (.slice (some ⟨g, 0, none⟩) (m - 1) fc)) B b h c (.slice (some ⟨g, 0, none⟩) (m - 1) fc) (S.drop i) ∧ Frm (WkP b h (.slice (some ⟨g, 0, none⟩) m fc)) (WkP b h (.slice (some ⟨g, 0, none⟩) (m - 1) fc)) w (w2.setCell ⟨b, 2, none⟩ (.slice (some ⟨g, 0, none⟩) (m - 1) fc)) ∧
      (∀ j, w2.cell? ⟨w.heap.size, j, none⟩ = (w.alloc (.cells #[.int .i64 f, .int .i64 t, .bool a] 69)).cell? ⟨w.heap.size, j, none⟩) ∧ w2.cell? ⟨b, 2, none⟩ = some (.slice (some ⟨g, 0, none⟩) m fc) ∧ w2.frozen? ⟨b, 2, none⟩ = false) := Lib.hid fun w2 hown fr => by
    have hb2 := fr.block b k1.out.bw (fun e => k'.out.bf (by rw [e]; rfl))
    have hk : WkAt (w2.setCell ⟨b, 2, none⟩ (.slice (some ⟨g, 0, none⟩) (m - 1) fc)) B b h c (.slice (some ⟨g, 0, none⟩) (m - 1) fc) ⟨S.hs, S.fl.eraseIdx i⟩ := by
      refine k1.out.setF fr.size (fun j hj hne => fr.block j hj (fun e => hne (by rw [e]; rfl))) ?_ (fun j e => .inl e)
      unfold OwnL
      rw [List.length_eraseIdx, if_pos (by omega), ← hm'.out, flat_erase encL_len]
      exact hown
    refine ⟨hk, ?_, fun j => ?_, ?_, ?_⟩
    · refine Frm.trans fr1.out ((Frm.wide fr (fun j e => .inr (.inr (by rw [e]; rfl))) (fun j e => .inr ?_)).set (.inl rfl))
      rcases e with e | e | e
      · exact .inl e
      · exact .inr (.inl e)
      · exact .inr (.inr e)
    · exact cell_block (fr.block _ (by simp) (fun e => hnX.out e.symm))
    · exact (cell_block hb2).trans k1.out.c2
    · exact (frozen_block hb2).trans (k1.out.fz 2)
  clear hm k ho hlq hdue hheld hS hgA hdf hn hX hi hfr hgw
  cases a with
  | true =>
    simp only [if_true, true_and] at hS' hak
    rw [hS'.out]
    have c2A := k1.out.c2
    have ho1 := Lib.hid (show 1 ≤ o by have := hv.due t hto; rw [ho'.out]; omega)
    clear hak hv hto
    go_enter Try.func31, Try.ntmps31
    go_wp2_with (first
      | (go_at_call 61; refine ht.out.mono ?_; rintro e wj ⟨rfl, rfl⟩)
      | (go_at_call 69; refine hdel.out.mono ?_; rintro e w2 ⟨rfl, hown, fr⟩
         obtain ⟨kd, frd, xe, yb, yf⟩ := step.out w2 hown fr
         have x1' := (xe 1).trans x1
         have x2' := (xe 2).trans x2
         have kd' := Lib.hid kd
         have frd' := Lib.hid frd
         have q1 := hbX.out
         clear hown fr kd frd xe x0 x1 x2 hdel step c2A))
    obtain ⟨W, hW⟩ : ∃ W, W = w2.setCell ⟨b, 2, none⟩ (.slice (some ⟨g, 0, none⟩) (m - 1) fc) := ⟨_, rfl⟩
    have ex1 : W.cell? ⟨w.heap.size, 1, none⟩ = some (.int .i64 t) := by rw [hW, World.cell?_setCell_other _ _ _ _ (by have := hbX.out; simp <;> omega)]; exact x1'
    rw [← hW] at kd' frd' ⊢
    have e1 := kd'.out.c1
    rw [n_drop, ← hn'.out] at e1
    obtain ⟨-, -, eo, ef⟩ := kd'.out.hand (i := t) hto'.out
    have ef2 := ef (t * 3 + 2)
    rw [hd_drop, ← ho'.out] at eo
    have kA := Lib.hid (show WkAt (W.setCell ⟨h, t * 3 + 2, none⟩ (.int .i64 ((o : Int) - 1))).drew B b h c (.slice (some ⟨g, 0, none⟩) (m - 1) fc) ((S.drop i).set t ⟨((S.drop i).hd t).wk, ((S.drop i).hd t).par, ((S.drop i).hd t).owed - 1⟩) from
      (kd'.out.setH (i := t) (f := 2) hto'.out (by omega) (by
        rw [hd_drop, ← ho'.out]
        show [_, _, Value.int .i64 ((o - 1 : Nat) : Int)] = _
        rw [show ((o - 1 : Nat) : Int) = (o : Int) - 1 by have := ho1.out; omega]; rfl)).drew)
    have frA := Lib.hid ((frd'.out.set (g := h) (k := t * 3 + 2) (u := .int .i64 ((o : Int) - 1)) (.inr (.inl rfl))).drew)
    have hrel := Lib.hid (rel66 kA.out (by simpa using hroom.out) (i := t) (by simpa using hto'.out) (by rw [hd_set _ _ _ _ (show t < (S.drop i).n from hto'.out), if_pos rfl]; exact hheld'.out (by have := ho1.out; omega)))
    have ey1 : (W.setCell ⟨h, t * 3 + 2, none⟩ (.int .i64 ((o : Int) - 1))).drew.cell? ⟨w.heap.size, 1, none⟩ = some (.int .i64 t) := (World.cell?_setCell_other _ _ _ _ (by have := hhX.out; simp <;> omega)).trans ex1
    have hole := Lib.hid (show o ≤ 100000 from by rw [ho'.out]; have := hole0.out; omega)
    clear hW x1' x2' yb yf ef c2 l0 l1 l2
    refine wp_region_still_tail 12 (by kernel_rfl) (by kernel_rfl) ?_
    simp only [List.take_succ_cons, List.take_zero, List.drop_succ_cons, List.drop_zero]
    have hole2 := hole.out
    have ho2 := ho1.out
    iterate 12 still_step
    refine wpStill_nil ?_
    go_wp2_with (go_at_call 66; refine hrel.out.mono ?_; rintro e wj ⟨rfl, fv1, ka, fr⟩; have ka' := Lib.hid ka; have fr' := Lib.hid fr; clear ka fr)
    go_ret
    refine ⟨rfl, fv1, ?_, frA.out.trans fr'.out⟩
    exact ka'.out
  | false =>
    simp only [Bool.false_eq_true, if_false] at hS'
    rw [hS'.out]
    have c2A := k1.out.c2
    clear hak hv hto
    go_enter Try.func31, Try.ntmps31
    go_wp2_with (first
      | (go_at_call 61; refine ht.out.mono ?_; rintro e wj ⟨rfl, rfl⟩)
      | (go_at_call 70; refine htk.out.mono ?_; rintro e wj ⟨rfl, fv1, ka, fr⟩; have ka' := Lib.hid ka; have fr' := Lib.hid fr; clear ka fr)
      | (go_at_call 69; refine hdel.out.mono ?_; rintro e w2 ⟨rfl, hown, fr⟩
         obtain ⟨kd, frd, xe, yb, yf⟩ := step.out w2 hown fr
         have x0' := (xe 0).trans x0
         have x1' := (xe 1).trans x1
         have x2' := (xe 2).trans x2
         have htk := Lib.hid (take70 kd hroom.out (f := f) (t := t) hto'.out)
         have frd' := Lib.hid frd
         have q1 := hbX.out
         clear hown fr kd frd xe x0 x1 x2 hdel step c2A))
    go_ret
    exact ⟨rfl, fv1, ka'.out, frd'.out.trans fr'.out⟩
end Go.Proofs.Ytbemlfppekpmjaa
