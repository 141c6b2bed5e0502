import Derived.Test.YtbemlfppekpmjaaQe
import Derived.BigRegion
import Derived.Deep.Cut
import Derived.Deep.CutRange
namespace Go.Proofs.Ytbemlfppekpmjaa
open Go.RowKit Rng
theorem TkRow.letter {w : World} {B b h c n m fc : Nat} {ao : Option Addr} {ts : List (Bool × Hd)} {ls : List Lt} (k : TkRow w B b h c (.slice ao m fc) n ts ls) {i : Nat} (hi : i < ls.length) : ∃ g, ao = some ⟨g, 0, none⟩ ∧ m = ls.length ∧ m ≤ fc ∧ g < w.heap.size ∧
    w.cell? ⟨g, i * 3, none⟩ = some (.int .i64 (ls.getD i L0).fr) ∧ w.cell? ⟨g, i * 3 + 1, none⟩ = some (.int .i64 (ls.getD i L0).to) ∧ w.cell? ⟨g, i * 3 + 2, none⟩ = some (.bool (ls.getD i L0).ack) := by
  obtain ⟨ao', c', e, hc', hc⟩ := own_cells k.fl
  obtain ⟨g, e1, _, hg, hcl⟩ := hc (by omega)
  obtain ⟨rfl, rfl, rfl⟩ : ao = ao' ∧ m = ls.length ∧ fc = c' := by injection e with a b c; exact ⟨a, b, c⟩
  obtain ⟨a1, a2, a3⟩ := fl_at hi
  exact ⟨g, e1, rfl, hc', hg, hcl _ _ a1, hcl _ _ a2, hcl _ _ a3⟩
set_option maxHeartbeats 2000000 in
set_option maxRecDepth 100000 in
theorem rdlvBad {w : World} {B b h c : Nat} {fv : Value} {S : WS} (k : TkAt w B b h c fv S) (x : Int) (hx : inB x S.fl.length = false) (hl : S.fl.length ≤ 1000) :
    Calls Try.prog 32 #[.pointer (some ⟨b, 0, none⟩), .int .i64 x] w (TkEnd w B b h c fv S (.int .i64 1)) := by
  have k' := Lib.hid k
  have c1 := k.c1
  have hi := Lib.hid (in53' (w := w) x S.fl.length hx)
  obtain ⟨ao, fc, rfl, -⟩ := k.flv
  obtain ⟨m, hm⟩ : ∃ m, m = S.fl.length := ⟨_, rfl⟩
  rw [← hm] at c1 k' hi hl ⊢
  clear k hm hx
  go_enter Try.func32, Try.ntmps32
  go_wp2_with (go_at_call 53; refine hi.out.mono ?_; rintro e wj ⟨rfl, rfl⟩)
  go_ret
  exact ⟨rfl, _, k'.out, Frm.refl _ _⟩
/-- Behind the shorter row. -/
def DCut (w : World) (B b h c : Nat) (fv : Value) (S : WS) (f t : Nat) (a : Bool) (w4 : World) : Prop := ∃ fv', TkAt w4 B b h c fv' S ∧ Frm (WkP b h fv) (WkP b h fv') w w4 ∧ w4.cell? ⟨w.heap.size, 0, none⟩ = some (.int .i64 f) ∧ w4.cell? ⟨w.heap.size, 1, none⟩ = some (.int .i64 t) ∧ w4.cell? ⟨w.heap.size, 2, none⟩ = some (.bool a)
set_option maxHeartbeats 2000000 in
set_option maxRecDepth 100000 in
theorem rdlvAck {w : World} {B b h c : Nat} {fv : Value} {S : WS} (k : TkAt w B b h c fv S) (hv : Inv S) {i : Nat} (hi : i < S.fl.length) {f t : Nat} {a : Bool} (hlq : (⟨f, t, a⟩ : Lt) = S.fl.getD i L0) (ha : a = true) :
    Calls Try.prog 32 #[.pointer (some ⟨b, 0, none⟩), .int .i64 i] w (TkEnd w B b h c fv ((S.drop i).acked t) (.int .i64 0)) := by
  obtain ⟨i0, hi0, hz0, hz1, hz2⟩ := info_parts info69
  have hro := hv.room
  have hn10 := hv.n10
  obtain ⟨hfr, hto⟩ := ends_get hv.ends hi
  rw [← hlq] at hfr hto
  simp only at hfr hto
  have hE := Lib.hid (show a = true → 1 ≤ (S.hd t).owed ∧ (t = 0 ∨ (S.hd t).par ≠ 0) from fun ha => by
    have hak := ak_drop S i t hi
    rw [← hlq, if_pos ⟨ha, rfl⟩] at hak
    have hdue := hv.due t hto
    exact ⟨by omega, hv.held t hto (by omega)⟩)
  have hdl := Lib.hid (show (S.drop i).fl.length ≤ 1000 by have := fl_drop_len hi; omega)
  have hole := Lib.hid (owed_le hv hto)
  have hx := Lib.hid (in53' (w := w) (i : Int) S.fl.length (d := true) (by simp [inB]; omega))
  obtain ⟨ao, fc, rfl, -⟩ := k.flv
  obtain ⟨g, rfl, -, hmc, hgw, l0, l1, l2⟩ := k.row.letter hi
  rw [← hlq] at l0 l1 l2
  simp only at l0 l1 l2
  obtain ⟨m, hm⟩ : ∃ m, m = S.fl.length := ⟨_, rfl⟩
  have k' := Lib.hid k
  have c1 := k.c1
  rw [← hm] at c1 hro hmc k' hx ⊢
  have hm' := Lib.hid hm
  have him : i < m := by omega
  have himI : (i : Int) < (m : Int) := by omega
  obtain ⟨V, hV⟩ : ∃ V, V = w.alloc (.cells #[.int .i64 f, .int .i64 t, .bool a] 69) := ⟨_, rfl⟩
  have hbV := Lib.hid (show Below w.heap.size w V by rw [hV]; exact below_alloc1 _ _)
  have hsV := Lib.hid (show V.heap.size = w.heap.size + 1 by rw [hV]; exact World.size_alloc _ _)
  have hgA := heap_alloc_new w (.cells #[.int .i64 f, .int .i64 t, .bool a] 69)
  rw [← hV] at hgA
  have hX := Lib.hid (show ∀ W, Below V.heap.size V W → W.cell? ⟨w.heap.size, 0, none⟩ = some (.int .i64 f) ∧ W.cell? ⟨w.heap.size, 1, none⟩ = some (.int .i64 t) ∧ W.cell? ⟨w.heap.size, 2, none⟩ = some (.bool a) from fun W hb =>
    ⟨(hb.cell (p := ⟨w.heap.size, 0, none⟩) (by rw [hsV.out]; exact Nat.lt_succ_self _)).trans (cell_of_row _ _ 0 _ _ _ hgA), (hb.cell (p := ⟨w.heap.size, 1, none⟩) (by rw [hsV.out]; exact Nat.lt_succ_self _)).trans (cell_of_row _ _ 1 _ _ _ hgA), (hb.cell (p := ⟨w.heap.size, 2, none⟩) (by rw [hsV.out]; exact Nat.lt_succ_self _)).trans (cell_of_row _ _ 2 _ _ _ hgA)⟩)
  have kV := Lib.hid (show TkAt V B b h c (.slice (some ⟨g, 0, none⟩) m fc) S from k'.out.below hbV.out)
  have hbw := Lib.hid (show b < V.heap.size from kV.out.bw)
  have hC := Lib.hid (show ∀ W, Below V.heap.size V W → W.cell? ⟨b, 1, none⟩ = some (.slice (some ⟨g, 0, none⟩) m fc) ∧ W.frozen? ⟨b, 1, none⟩ = false from fun W hb =>
    ⟨(hb.cell (p := ⟨b, 1, none⟩) hbw.out).trans kV.out.c1, (hb.frozen (p := ⟨b, 1, none⟩) hbw.out).trans (kV.out.fz 1)⟩)
  have hcl : ∀ W, Below V.heap.size V W → ∀ j u, (flat encL S.fl)[j]? = some u → W.cell? ⟨g, j, none⟩ = some u := fun W hb j u hu => by
    obtain ⟨_, _, e, _, hc⟩ := own_cells kV.out.fl
    obtain ⟨g', e1, _, hg', hcl⟩ := hc (by omega)
    injection e with e _ _
    rw [← e] at e1
    obtain rfl : g = g' := by injection e1 with e1; injection e1
    exact (hb.cell (p := ⟨g, j, none⟩) hg').trans (hcl j u hu)
  have hF1 := Lib.hid (show ∀ W, Below V.heap.size V W → FlatR W 3 (.slice (some ⟨g, 0, none⟩) i fc) i ((flat encL S.fl).take (i * 3)) from fun W hb => by
    refine ⟨by rw [List.length_take, flat_len encL_len]; omega, some ⟨g, 0, none⟩, fc, rfl, by omega, (fun h => by cases h), fun _ => ⟨g, 0, rfl, Nat.lt_of_lt_of_le hgw (Nat.le_trans hbV.out.size hb.size), fun j u hj => ?_⟩⟩
    rw [Nat.zero_add]
    refine hcl W hb j u ?_
    rw [List.getElem?_take] at hj
    split at hj
    · exact hj
    · cases hj)
  obtain ⟨q, hq⟩ : ∃ q, q = i + 1 := ⟨_, rfl⟩
  obtain ⟨A, hA, hF2⟩ : ∃ A : Addr, (if fc = q then some (⟨g, 0, none⟩ : Addr) else some ⟨g, q * 3, none⟩) = some A ∧ Hid (∀ W, Below V.heap.size V W → FlatR W 3 (.slice (some A) (m - q) (fc - q)) (m - q) ((flat encL S.fl).drop (q * 3))) := by
    have hlen : ((flat encL S.fl).drop (q * 3)).length = (m - q) * 3 := by rw [List.length_drop, flat_len encL_len]; omega
    by_cases e : fc = q
    · refine ⟨⟨g, 0, none⟩, by simp [e], fun W hb => ⟨hlen, _, _, rfl, by omega, (fun h => by cases h), fun h => by omega⟩⟩
    · refine ⟨⟨g, q * 3, none⟩, by simp [e], fun W hb => ⟨hlen, _, _, rfl, by omega, (fun h => by cases h), fun _ => ⟨g, q * 3, rfl, Nat.lt_of_lt_of_le hgw (Nat.le_trans hbV.out.size hb.size), fun j u hj => hcl W hb _ u (by rw [List.getElem?_drop] at hj; exact hj)⟩⟩⟩
  have hq1 : ((i : Int) + 1) = (q : Int) := by omega
  have hwq : IntKind.i64.wrap ((i : Int) + 1) = (q : Int) := by rw [IntWalk.i64_in _ (by omega)]; exact hq1
  have hqm : q ≤ m := by omega
  have hqc : q ≤ fc := by omega
  have hic : i ≤ fc := by omega
  have bA := Lib.hid (below_alloc1 V (.cells #[] 69))
  have oA := Lib.hid (lit_own V V.heap.size V.heap.size 3 69 (Nat.le_refl _) rfl)
  obtain ⟨x0, x1, x2⟩ := hX.out V (Below.refl _ _)
  have y1 := (hC.out V (Below.refl _ _)).1
  have y2 := (hC.out _ bA.out).1
  have hq' := Lib.hid hq
  have hqI := Lib.hid hq1
  have hV' := Lib.hid hV
  have hto' := Lib.hid hto
  have hn := Lib.hid (rfl : S.n = S.n)
  have fin : Hid (∀ w2 v2, w2.ownsRow V.heap.size 69 3 v2 (i + (m - q)) ((flat encL S.fl).take (i * 3) ++ (flat encL S.fl).drop (q * 3)) → Below V.heap.size V w2 → DCut w B b h c (.slice (some ⟨g, 0, none⟩) m fc) (S.drop i) f t a (w2.setCell ⟨b, 1, none⟩ v2)) := Lib.hid fun w2 v2 ho hb => by
    have ho' : OwnL w2 V.heap.size v2 (S.drop i).fl := by
      unfold OwnL
      have e1 : (S.drop i).fl.length = i + (m - q) := by have := fl_drop_len hi; have := hm'.out; omega
      rw [e1]
      show w2.ownsRow V.heap.size 69 3 v2 _ (flat encL (S.fl.eraseIdx i))
      rw [flat_erase encL_len, ← hq'.out]; exact ho
    have hk := kV.out.row.setF hb ho'
    have hb3 : Below w.heap.size w w2 := hbV.out.trans (hb.mono hbV.out.size)
    obtain ⟨z0, z1, z2⟩ := hX.out w2 hb
    have hbX : b ≠ w.heap.size := by have := k'.out.bw; omega
    refine ⟨v2, hk.at rfl (tl_congr rfl fun _ _ => rfl) rfl, ?_, (World.cell?_setCell_other _ _ _ _ (by simp <;> omega)).trans z0, (World.cell?_setCell_other _ _ _ _ (by simp <;> omega)).trans z1, (World.cell?_setCell_other _ _ _ _ (by simp <;> omega)).trans z2⟩
    refine Frm.set ⟨hb3.os, hb3.tape, hb3.output, hb3.size, fun k hk _ => hb3.block k hk, fun k hk => ?_⟩ (.inl rfl)
    rcases hk with e | e | e
    · exact .inl (.inl e)
    · exact .inl (.inr (.inl e))
    · right
      have := (World.ownsRow.lt ho _ e).1
      have := hbV.out.size
      omega
  clear k hgA hcl hm hV hq hv hi hlq hto hn hgw hq1
  subst ha
  go_enter Try.func32, Try.ntmps32
  go_wp2_with (go_at_call 53; refine hx.out.mono ?_; rintro e wj ⟨rfl, rfl⟩)
  go_cut [39] from 23 to 41 (fun _ wx => ∃ w4 : World, w4 = wx ∧ DCut w B b h c (.slice (some ⟨g, 0, none⟩) m fc) (S.drop i) f t true w4)
  · rw [← hV'.out]
    go_region_law (first
      | (refine step_flat (B := V.heap.size) (n := 0) (m := i) (w := (V.alloc (.cells #[] 69)).drew) Try.underlying60 hi0 hz0 hz1 hz2 rfl (by decide) (by decide) rfl (.tmp 24) (.tmp 30) rfl oA.out (by simp [Act.eval, Act.put]) (by simp [Act.eval, Act.put]) (hF1.out _ bA.out.drew) (fun u hu => one_flatL S.fl u (List.mem_of_mem_take hu)) (by omega) (Nat.le_trans bA.out.size (Nat.le_refl _)) ?_; intro v1 w1 hO1 hb1 _
         rw [Nat.zero_add, List.nil_append] at hO1
         have bW := bA.out.drew.trans hb1
         have y6 := (hC.out w1 bW).1
         have bW' := Lib.hid bW
         have hO1' := Lib.hid hO1
         clear hO1 hb1 bW)
      | (refine step_flat (B := V.heap.size) (n := i) (m := m - q) (w := w1) Try.underlying60 hi0 hz0 hz1 hz2 rfl (by decide) (by decide) rfl (.tmp 31) (.tmp 38) rfl hO1'.out (by simp [Act.eval, Act.put]) (by simp [Act.eval, Act.put]) (hF2.out _ bW'.out) (fun u hu => one_flatL S.fl u (List.mem_of_mem_drop hu)) (by omega) bW'.out.size ?_; intro v2 w2 hO2 hb2 _
         have bF := Lib.hid (bW'.out.trans hb2)
         have hOF := Lib.hid hO2
         obtain ⟨y7, yf7⟩ := hC.out w2 bF.out
         obtain ⟨oa2, k2, c2, rfl⟩ : ∃ a n c, v2 = .slice a n c := by obtain ⟨a, c, e, _⟩ := own_cells hO2; exact ⟨a, _, c, e⟩
         clear hO2 hb2))
    all_goals (go_wp2_with fail; go_meet; exact ⟨_, rfl, fin.out _ _ hOF.out bF.out⟩)
  · obtain ⟨w4, rfl, fv1, kd, frd, z0, z1, z2⟩ := hcut
    have d0 := kd.c0
    have dnc := kd.nc
    obtain ⟨e0, e1, e2, e3, ef⟩ := kd.hand (i := t) hto'.out
    have hti : (t : Int) < (S.n : Int) := by have := hto'.out; omega
    have kd' := Lib.hid kd
    have frd' := Lib.hid frd
    rw [show (S.drop i).n = S.n from rfl] at d0 dnc
    clear fin hF1 hF2 hC hX x0 x1 x2 y1 y2 kd frd oA bA hA
    obtain ⟨hE1, hE2⟩ : 1 ≤ (S.hd t).owed ∧ (t = 0 ∨ (S.hd t).par ≠ 0) := by first | exact hE.out rfl | exact hE.out trivial | exact hE.out | simpa using hE.out
    obtain ⟨o, ho⟩ : ∃ o, o = (S.hd t).owed := ⟨_, rfl⟩
    have hole2 : o ≤ 410 := by rw [ho]; exact hole.out
    rw [hd_drop, ← ho] at e3
    have ho' := Lib.hid ho
    have hE1' := Lib.hid hE1
    have hE2' := Lib.hid hE2
    have ef3 := ef (t * 4 + 3)
    clear hE1 hE2 ho ef
    go_wp2_with fail
    go_quiet (fail)
    generalize hW : w4.drewN _ = W
    have hbW := Lib.hid (show Below w4.heap.size w4 W by rw [← hW]; exact below_drewN (Below.refl _ _) _)
    have kW := Lib.hid (kd'.out.below hbW.out)
    have fW := Lib.hid (frd'.out.trans (Frm.of_below (P := WkP b h fv1) hbW.out))
    have g0 : W.cell? ⟨w.heap.size, 1, none⟩ = some (.int .i64 t) := by rw [← hW]; exact z1
    have g2 : W.cell? ⟨w.heap.size, 2, none⟩ = some (.bool true) := by rw [← hW]; exact z2
    have g3 : W.cell? ⟨h, t * 4 + 3, none⟩ = some (.int .i64 o) := by rw [← hW]; exact e3
    have gf : W.frozen? ⟨h, t * 4 + 3, none⟩ = false := by rw [← hW]; exact ef3
    have hXh : ¬ h = w.heap.size := by have := k'.out.lt_h; omega
    have kA := Lib.hid (show TkAt (W.setCell ⟨h, t * 4 + 3, none⟩ (.int .i64 ((o : Int) - 1))) B b h c fv1 ((S.drop i).set t ⟨((S.drop i).hd t).wk, ((S.drop i).hd t).par, ((S.drop i).hd t).owed - 1⟩) from
      (kW.out.row.setT (i := t) (f := 3) (x := ((S.drop i).eng t, (S.drop i).hd t)) (a := ((S.drop i).eng t, ⟨((S.drop i).hd t).wk, ((S.drop i).hd t).par, ((S.drop i).hd t).owed - 1⟩)) (u := .int .i64 ((o : Int) - 1)) (tl_get hto'.out) (by omega) (by
        rw [hd_drop]
        show [_, _, _, Value.int .i64 (((S.hd t).owed - 1 : Nat) : Int)] = _
        rw [show (((S.hd t).owed - 1 : Nat) : Int) = (o : Int) - 1 by have := ho'.out; have := hE1'.out; omega]; rfl)).at (by simp) (by rw [tl_set _ _ (show t < (S.drop i).n from hto'.out)]; rfl) rfl)
    have fA := Lib.hid (fW.out.set (g := h) (k := t * 4 + 3) (u := .int .i64 ((o : Int) - 1)) (.inr (.inl rfl)))
    have hlv := Lib.hid (leave68 kA.out (by simpa using hdl.out) (i := t) (by simpa using hto'.out) (by rw [hd_set _ _ _ _ (show t < (S.drop i).n from hto'.out), if_pos rfl]; exact hE2'.out))
    clear hW z0 z1 z2 e0 e1 e2 e3 ef3 d0 dnc
    go_wp2_with (go_at_call 68; refine hlv.out.mono ?_; rintro e wl ⟨rfl, fv2, ka, fr⟩; have ka' := Lib.hid ka; have fr' := Lib.hid fr; clear ka fr)
    go_ret
    exact ⟨rfl, fv2, ka'.out, fA.out.trans fr'.out⟩
set_option maxHeartbeats 2000000 in
set_option maxRecDepth 100000 in
theorem rdlvEng {w : World} {B b h c : Nat} {fv : Value} {S : WS} (k : TkAt w B b h c fv S) (hv : Inv S) {i : Nat} (hi : i < S.fl.length) {f t : Nat} {a : Bool} (hlq : (⟨f, t, a⟩ : Lt) = S.fl.getD i L0) (ha : a = false) (he : S.eng t = true) :
    Calls Try.prog 32 #[.pointer (some ⟨b, 0, none⟩), .int .i64 i] w (TkEnd w B b h c fv (((S.drop i).set t ⟨true, ((S.drop i).hd t).par, ((S.drop i).hd t).owed⟩).put ⟨t, f, true⟩) (.int .i64 0)) := by
  obtain ⟨i0, hi0, hz0, hz1, hz2⟩ := info_parts info69
  have hro := hv.room
  have hn10 := hv.n10
  obtain ⟨hfr, hto⟩ := ends_get hv.ends hi
  rw [← hlq] at hfr hto
  simp only at hfr hto
  have hE := Lib.hid (show a = true → 1 ≤ (S.hd t).owed ∧ (t = 0 ∨ (S.hd t).par ≠ 0) from fun ha => by
    have hak := ak_drop S i t hi
    rw [← hlq, if_pos ⟨ha, rfl⟩] at hak
    have hdue := hv.due t hto
    exact ⟨by omega, hv.held t hto (by omega)⟩)
  have hdl := Lib.hid (show (S.drop i).fl.length ≤ 1000 by have := fl_drop_len hi; omega)
  have hole := Lib.hid (owed_le hv hto)
  have hx := Lib.hid (in53' (w := w) (i : Int) S.fl.length (d := true) (by simp [inB]; omega))
  obtain ⟨ao, fc, rfl, -⟩ := k.flv
  obtain ⟨g, rfl, -, hmc, hgw, l0, l1, l2⟩ := k.row.letter hi
  rw [← hlq] at l0 l1 l2
  simp only at l0 l1 l2
  obtain ⟨m, hm⟩ : ∃ m, m = S.fl.length := ⟨_, rfl⟩
  have k' := Lib.hid k
  have c1 := k.c1
  rw [← hm] at c1 hro hmc k' hx ⊢
  have hm' := Lib.hid hm
  have him : i < m := by omega
  have himI : (i : Int) < (m : Int) := by omega
  obtain ⟨V, hV⟩ : ∃ V, V = w.alloc (.cells #[.int .i64 f, .int .i64 t, .bool a] 69) := ⟨_, rfl⟩
  have hbV := Lib.hid (show Below w.heap.size w V by rw [hV]; exact below_alloc1 _ _)
  have hsV := Lib.hid (show V.heap.size = w.heap.size + 1 by rw [hV]; exact World.size_alloc _ _)
  have hgA := heap_alloc_new w (.cells #[.int .i64 f, .int .i64 t, .bool a] 69)
  rw [← hV] at hgA
  have hX := Lib.hid (show ∀ W, Below V.heap.size V W → W.cell? ⟨w.heap.size, 0, none⟩ = some (.int .i64 f) ∧ W.cell? ⟨w.heap.size, 1, none⟩ = some (.int .i64 t) ∧ W.cell? ⟨w.heap.size, 2, none⟩ = some (.bool a) from fun W hb =>
    ⟨(hb.cell (p := ⟨w.heap.size, 0, none⟩) (by rw [hsV.out]; exact Nat.lt_succ_self _)).trans (cell_of_row _ _ 0 _ _ _ hgA), (hb.cell (p := ⟨w.heap.size, 1, none⟩) (by rw [hsV.out]; exact Nat.lt_succ_self _)).trans (cell_of_row _ _ 1 _ _ _ hgA), (hb.cell (p := ⟨w.heap.size, 2, none⟩) (by rw [hsV.out]; exact Nat.lt_succ_self _)).trans (cell_of_row _ _ 2 _ _ _ hgA)⟩)
  have kV := Lib.hid (show TkAt V B b h c (.slice (some ⟨g, 0, none⟩) m fc) S from k'.out.below hbV.out)
  have hbw := Lib.hid (show b < V.heap.size from kV.out.bw)
  have hC := Lib.hid (show ∀ W, Below V.heap.size V W → W.cell? ⟨b, 1, none⟩ = some (.slice (some ⟨g, 0, none⟩) m fc) ∧ W.frozen? ⟨b, 1, none⟩ = false from fun W hb =>
    ⟨(hb.cell (p := ⟨b, 1, none⟩) hbw.out).trans kV.out.c1, (hb.frozen (p := ⟨b, 1, none⟩) hbw.out).trans (kV.out.fz 1)⟩)
  have hcl : ∀ W, Below V.heap.size V W → ∀ j u, (flat encL S.fl)[j]? = some u → W.cell? ⟨g, j, none⟩ = some u := fun W hb j u hu => by
    obtain ⟨_, _, e, _, hc⟩ := own_cells kV.out.fl
    obtain ⟨g', e1, _, hg', hcl⟩ := hc (by omega)
    injection e with e _ _
    rw [← e] at e1
    obtain rfl : g = g' := by injection e1 with e1; injection e1
    exact (hb.cell (p := ⟨g, j, none⟩) hg').trans (hcl j u hu)
  have hF1 := Lib.hid (show ∀ W, Below V.heap.size V W → FlatR W 3 (.slice (some ⟨g, 0, none⟩) i fc) i ((flat encL S.fl).take (i * 3)) from fun W hb => by
    refine ⟨by rw [List.length_take, flat_len encL_len]; omega, some ⟨g, 0, none⟩, fc, rfl, by omega, (fun h => by cases h), fun _ => ⟨g, 0, rfl, Nat.lt_of_lt_of_le hgw (Nat.le_trans hbV.out.size hb.size), fun j u hj => ?_⟩⟩
    rw [Nat.zero_add]
    refine hcl W hb j u ?_
    rw [List.getElem?_take] at hj
    split at hj
    · exact hj
    · cases hj)
  obtain ⟨q, hq⟩ : ∃ q, q = i + 1 := ⟨_, rfl⟩
  obtain ⟨A, hA, hF2⟩ : ∃ A : Addr, (if fc = q then some (⟨g, 0, none⟩ : Addr) else some ⟨g, q * 3, none⟩) = some A ∧ Hid (∀ W, Below V.heap.size V W → FlatR W 3 (.slice (some A) (m - q) (fc - q)) (m - q) ((flat encL S.fl).drop (q * 3))) := by
    have hlen : ((flat encL S.fl).drop (q * 3)).length = (m - q) * 3 := by rw [List.length_drop, flat_len encL_len]; omega
    by_cases e : fc = q
    · refine ⟨⟨g, 0, none⟩, by simp [e], fun W hb => ⟨hlen, _, _, rfl, by omega, (fun h => by cases h), fun h => by omega⟩⟩
    · refine ⟨⟨g, q * 3, none⟩, by simp [e], fun W hb => ⟨hlen, _, _, rfl, by omega, (fun h => by cases h), fun _ => ⟨g, q * 3, rfl, Nat.lt_of_lt_of_le hgw (Nat.le_trans hbV.out.size hb.size), fun j u hj => hcl W hb _ u (by rw [List.getElem?_drop] at hj; exact hj)⟩⟩⟩
  have hq1 : ((i : Int) + 1) = (q : Int) := by omega
  have hwq : IntKind.i64.wrap ((i : Int) + 1) = (q : Int) := by rw [IntWalk.i64_in _ (by omega)]; exact hq1
  have hqm : q ≤ m := by omega
  have hqc : q ≤ fc := by omega
  have hic : i ≤ fc := by omega
  have bA := Lib.hid (below_alloc1 V (.cells #[] 69))
  have oA := Lib.hid (lit_own V V.heap.size V.heap.size 3 69 (Nat.le_refl _) rfl)
  obtain ⟨x0, x1, x2⟩ := hX.out V (Below.refl _ _)
  have y1 := (hC.out V (Below.refl _ _)).1
  have y2 := (hC.out _ bA.out).1
  have hq' := Lib.hid hq
  have hqI := Lib.hid hq1
  have hV' := Lib.hid hV
  have hto' := Lib.hid hto
  have hn := Lib.hid (rfl : S.n = S.n)
  have fin : Hid (∀ w2 v2, w2.ownsRow V.heap.size 69 3 v2 (i + (m - q)) ((flat encL S.fl).take (i * 3) ++ (flat encL S.fl).drop (q * 3)) → Below V.heap.size V w2 → DCut w B b h c (.slice (some ⟨g, 0, none⟩) m fc) (S.drop i) f t a (w2.setCell ⟨b, 1, none⟩ v2)) := Lib.hid fun w2 v2 ho hb => by
    have ho' : OwnL w2 V.heap.size v2 (S.drop i).fl := by
      unfold OwnL
      have e1 : (S.drop i).fl.length = i + (m - q) := by have := fl_drop_len hi; have := hm'.out; omega
      rw [e1]
      show w2.ownsRow V.heap.size 69 3 v2 _ (flat encL (S.fl.eraseIdx i))
      rw [flat_erase encL_len, ← hq'.out]; exact ho
    have hk := kV.out.row.setF hb ho'
    have hb3 : Below w.heap.size w w2 := hbV.out.trans (hb.mono hbV.out.size)
    obtain ⟨z0, z1, z2⟩ := hX.out w2 hb
    have hbX : b ≠ w.heap.size := by have := k'.out.bw; omega
    refine ⟨v2, hk.at rfl (tl_congr rfl fun _ _ => rfl) rfl, ?_, (World.cell?_setCell_other _ _ _ _ (by simp <;> omega)).trans z0, (World.cell?_setCell_other _ _ _ _ (by simp <;> omega)).trans z1, (World.cell?_setCell_other _ _ _ _ (by simp <;> omega)).trans z2⟩
    refine Frm.set ⟨hb3.os, hb3.tape, hb3.output, hb3.size, fun k hk _ => hb3.block k hk, fun k hk => ?_⟩ (.inl rfl)
    rcases hk with e | e | e
    · exact .inl (.inl e)
    · exact .inl (.inr (.inl e))
    · right
      have := (World.ownsRow.lt ho _ e).1
      have := hbV.out.size
      omega
  clear k hgA hcl hm hV hq hv hi hlq hto hn hgw hq1
  subst ha
  have he' := Lib.hid he
  clear he
  go_enter Try.func32, Try.ntmps32
  go_wp2_with (go_at_call 53; refine hx.out.mono ?_; rintro e wj ⟨rfl, rfl⟩)
  go_cut [39] from 23 to 41 (fun _ wx => ∃ w4 : World, w4 = wx ∧ DCut w B b h c (.slice (some ⟨g, 0, none⟩) m fc) (S.drop i) f t false w4)
  · rw [← hV'.out]
    go_region_law (first
      | (refine step_flat (B := V.heap.size) (n := 0) (m := i) (w := (V.alloc (.cells #[] 69)).drew) Try.underlying60 hi0 hz0 hz1 hz2 rfl (by decide) (by decide) rfl (.tmp 24) (.tmp 30) rfl oA.out (by simp [Act.eval, Act.put]) (by simp [Act.eval, Act.put]) (hF1.out _ bA.out.drew) (fun u hu => one_flatL S.fl u (List.mem_of_mem_take hu)) (by omega) (Nat.le_trans bA.out.size (Nat.le_refl _)) ?_; intro v1 w1 hO1 hb1 _
         rw [Nat.zero_add, List.nil_append] at hO1
         have bW := bA.out.drew.trans hb1
         have y6 := (hC.out w1 bW).1
         have bW' := Lib.hid bW
         have hO1' := Lib.hid hO1
         clear hO1 hb1 bW)
      | (refine step_flat (B := V.heap.size) (n := i) (m := m - q) (w := w1) Try.underlying60 hi0 hz0 hz1 hz2 rfl (by decide) (by decide) rfl (.tmp 31) (.tmp 38) rfl hO1'.out (by simp [Act.eval, Act.put]) (by simp [Act.eval, Act.put]) (hF2.out _ bW'.out) (fun u hu => one_flatL S.fl u (List.mem_of_mem_drop hu)) (by omega) bW'.out.size ?_; intro v2 w2 hO2 hb2 _
         have bF := Lib.hid (bW'.out.trans hb2)
         have hOF := Lib.hid hO2
         obtain ⟨y7, yf7⟩ := hC.out w2 bF.out
         obtain ⟨oa2, k2, c2, rfl⟩ : ∃ a n c, v2 = .slice a n c := by obtain ⟨a, c, e, _⟩ := own_cells hO2; exact ⟨a, _, c, e⟩
         clear hO2 hb2))
    all_goals (go_wp2_with fail; go_meet; exact ⟨_, rfl, fin.out _ _ hOF.out bF.out⟩)
  · obtain ⟨w4, rfl, fv1, kd, frd, z0, z1, z2⟩ := hcut
    have d0 := kd.c0
    have dnc := kd.nc
    obtain ⟨e0, e1, e2, e3, ef⟩ := kd.hand (i := t) hto'.out
    have hti : (t : Int) < (S.n : Int) := by have := hto'.out; omega
    have kd' := Lib.hid kd
    have frd' := Lib.hid frd
    rw [show (S.drop i).n = S.n from rfl] at d0 dnc
    clear fin hF1 hF2 hC hX x0 x1 x2 y1 y2 kd frd oA bA hA
    have he2 : (S.drop i).eng t = true := he'.out
    rw [he2] at e1
    have ef0 := ef (t * 4)
    clear ef he2
    go_wp2_with fail
    go_quiet (fail)
    generalize hW : w4.drewN _ = W
    have hbW := Lib.hid (show Below w4.heap.size w4 W by rw [← hW]; exact below_drewN (Below.refl _ _) _)
    have kW := Lib.hid (kd'.out.below hbW.out)
    have fW := Lib.hid (frd'.out.trans (Frm.of_below (P := WkP b h fv1) hbW.out))
    have g0 : W.cell? ⟨w.heap.size, 0, none⟩ = some (.int .i64 f) := by rw [← hW]; exact z0
    have g1 : W.cell? ⟨w.heap.size, 1, none⟩ = some (.int .i64 t) := by rw [← hW]; exact z1
    have g2 : W.cell? ⟨w.heap.size, 2, none⟩ = some (.bool false) := by rw [← hW]; exact z2
    have g3 : W.cell? ⟨h, t * 4 + 1, none⟩ = some (.bool true) := by rw [← hW]; exact e1
    have g4 : W.cell? ⟨h, t * 4, none⟩ = some (.bool ((S.drop i).hd t).wk) := by rw [← hW]; exact e0
    have gf : W.frozen? ⟨h, t * 4, none⟩ = false := by rw [← hW]; exact ef0
    have hXh : ¬ h = w.heap.size := by have := k'.out.lt_h; omega
    have kA := Lib.hid (kW.out.row.setT (i := t) (f := 0) (x := ((S.drop i).eng t, (S.drop i).hd t)) (a := ((S.drop i).eng t, ⟨true, ((S.drop i).hd t).par, ((S.drop i).hd t).owed⟩)) (u := .bool true) (tl_get hto'.out) (by omega) rfl)
    have fA := Lib.hid (fW.out.set (g := h) (k := t * 4) (u := .bool true) (.inr (.inl rfl)))
    have hpu := Lib.hid (put65 kA.out hdl.out ⟨t, f, true⟩)
    clear hW z0 z1 z2 e0 e1 e2 e3 ef0 d0 dnc
    go_wp2_with (go_at_call 65; refine hpu.out.mono ?_; rintro e wl ⟨rfl, fv2, ka, fr⟩; have ka' := Lib.hid ka; have fr' := Lib.hid fr; clear ka fr)
    go_ret
    refine ⟨rfl, fv2, ?_, fA.out.trans fr'.out⟩
    refine ka'.out.at (by simp) ?_ rfl
    have e1 : tl (((S.drop i).set t ⟨true, ((S.drop i).hd t).par, ((S.drop i).hd t).owed⟩).put ⟨t, f, true⟩) = tl ((S.drop i).set t ⟨true, ((S.drop i).hd t).par, ((S.drop i).hd t).owed⟩) := tl_congr rfl fun _ _ => rfl
    rw [e1, tl_set _ _ (show t < (S.drop i).n from hto'.out)]; rfl
set_option maxHeartbeats 2000000 in
set_option maxRecDepth 100000 in
theorem rdlvNew {w : World} {B b h c : Nat} {fv : Value} {S : WS} (k : TkAt w B b h c fv S) (hv : Inv S) {i : Nat} (hi : i < S.fl.length) {f t : Nat} {a : Bool} (hlq : (⟨f, t, a⟩ : Lt) = S.fl.getD i L0) (ha : a = false) (he : S.eng t = false) :
    Calls Try.prog 32 #[.pointer (some ⟨b, 0, none⟩), .int .i64 i] w (TkEnd w B b h c fv ((S.drop i).set t ⟨true, f + 1, ((S.drop i).hd t).owed⟩) (.int .i64 0)) := by
  obtain ⟨i0, hi0, hz0, hz1, hz2⟩ := info_parts info69
  have hro := hv.room
  have hn10 := hv.n10
  obtain ⟨hfr, hto⟩ := ends_get hv.ends hi
  rw [← hlq] at hfr hto
  simp only at hfr hto
  have hE := Lib.hid (show a = true → 1 ≤ (S.hd t).owed ∧ (t = 0 ∨ (S.hd t).par ≠ 0) from fun ha => by
    have hak := ak_drop S i t hi
    rw [← hlq, if_pos ⟨ha, rfl⟩] at hak
    have hdue := hv.due t hto
    exact ⟨by omega, hv.held t hto (by omega)⟩)
  have hdl := Lib.hid (show (S.drop i).fl.length ≤ 1000 by have := fl_drop_len hi; omega)
  have hole := Lib.hid (owed_le hv hto)
  have hx := Lib.hid (in53' (w := w) (i : Int) S.fl.length (d := true) (by simp [inB]; omega))
  obtain ⟨ao, fc, rfl, -⟩ := k.flv
  obtain ⟨g, rfl, -, hmc, hgw, l0, l1, l2⟩ := k.row.letter hi
  rw [← hlq] at l0 l1 l2
  simp only at l0 l1 l2
  obtain ⟨m, hm⟩ : ∃ m, m = S.fl.length := ⟨_, rfl⟩
  have k' := Lib.hid k
  have c1 := k.c1
  rw [← hm] at c1 hro hmc k' hx ⊢
  have hm' := Lib.hid hm
  have him : i < m := by omega
  have himI : (i : Int) < (m : Int) := by omega
  obtain ⟨V, hV⟩ : ∃ V, V = w.alloc (.cells #[.int .i64 f, .int .i64 t, .bool a] 69) := ⟨_, rfl⟩
  have hbV := Lib.hid (show Below w.heap.size w V by rw [hV]; exact below_alloc1 _ _)
  have hsV := Lib.hid (show V.heap.size = w.heap.size + 1 by rw [hV]; exact World.size_alloc _ _)
  have hgA := heap_alloc_new w (.cells #[.int .i64 f, .int .i64 t, .bool a] 69)
  rw [← hV] at hgA
  have hX := Lib.hid (show ∀ W, Below V.heap.size V W → W.cell? ⟨w.heap.size, 0, none⟩ = some (.int .i64 f) ∧ W.cell? ⟨w.heap.size, 1, none⟩ = some (.int .i64 t) ∧ W.cell? ⟨w.heap.size, 2, none⟩ = some (.bool a) from fun W hb =>
    ⟨(hb.cell (p := ⟨w.heap.size, 0, none⟩) (by rw [hsV.out]; exact Nat.lt_succ_self _)).trans (cell_of_row _ _ 0 _ _ _ hgA), (hb.cell (p := ⟨w.heap.size, 1, none⟩) (by rw [hsV.out]; exact Nat.lt_succ_self _)).trans (cell_of_row _ _ 1 _ _ _ hgA), (hb.cell (p := ⟨w.heap.size, 2, none⟩) (by rw [hsV.out]; exact Nat.lt_succ_self _)).trans (cell_of_row _ _ 2 _ _ _ hgA)⟩)
  have kV := Lib.hid (show TkAt V B b h c (.slice (some ⟨g, 0, none⟩) m fc) S from k'.out.below hbV.out)
  have hbw := Lib.hid (show b < V.heap.size from kV.out.bw)
  have hC := Lib.hid (show ∀ W, Below V.heap.size V W → W.cell? ⟨b, 1, none⟩ = some (.slice (some ⟨g, 0, none⟩) m fc) ∧ W.frozen? ⟨b, 1, none⟩ = false from fun W hb =>
    ⟨(hb.cell (p := ⟨b, 1, none⟩) hbw.out).trans kV.out.c1, (hb.frozen (p := ⟨b, 1, none⟩) hbw.out).trans (kV.out.fz 1)⟩)
  have hcl : ∀ W, Below V.heap.size V W → ∀ j u, (flat encL S.fl)[j]? = some u → W.cell? ⟨g, j, none⟩ = some u := fun W hb j u hu => by
    obtain ⟨_, _, e, _, hc⟩ := own_cells kV.out.fl
    obtain ⟨g', e1, _, hg', hcl⟩ := hc (by omega)
    injection e with e _ _
    rw [← e] at e1
    obtain rfl : g = g' := by injection e1 with e1; injection e1
    exact (hb.cell (p := ⟨g, j, none⟩) hg').trans (hcl j u hu)
  have hF1 := Lib.hid (show ∀ W, Below V.heap.size V W → FlatR W 3 (.slice (some ⟨g, 0, none⟩) i fc) i ((flat encL S.fl).take (i * 3)) from fun W hb => by
    refine ⟨by rw [List.length_take, flat_len encL_len]; omega, some ⟨g, 0, none⟩, fc, rfl, by omega, (fun h => by cases h), fun _ => ⟨g, 0, rfl, Nat.lt_of_lt_of_le hgw (Nat.le_trans hbV.out.size hb.size), fun j u hj => ?_⟩⟩
    rw [Nat.zero_add]
    refine hcl W hb j u ?_
    rw [List.getElem?_take] at hj
    split at hj
    · exact hj
    · cases hj)
  obtain ⟨q, hq⟩ : ∃ q, q = i + 1 := ⟨_, rfl⟩
  obtain ⟨A, hA, hF2⟩ : ∃ A : Addr, (if fc = q then some (⟨g, 0, none⟩ : Addr) else some ⟨g, q * 3, none⟩) = some A ∧ Hid (∀ W, Below V.heap.size V W → FlatR W 3 (.slice (some A) (m - q) (fc - q)) (m - q) ((flat encL S.fl).drop (q * 3))) := by
    have hlen : ((flat encL S.fl).drop (q * 3)).length = (m - q) * 3 := by rw [List.length_drop, flat_len encL_len]; omega
    by_cases e : fc = q
    · refine ⟨⟨g, 0, none⟩, by simp [e], fun W hb => ⟨hlen, _, _, rfl, by omega, (fun h => by cases h), fun h => by omega⟩⟩
    · refine ⟨⟨g, q * 3, none⟩, by simp [e], fun W hb => ⟨hlen, _, _, rfl, by omega, (fun h => by cases h), fun _ => ⟨g, q * 3, rfl, Nat.lt_of_lt_of_le hgw (Nat.le_trans hbV.out.size hb.size), fun j u hj => hcl W hb _ u (by rw [List.getElem?_drop] at hj; exact hj)⟩⟩⟩
  have hq1 : ((i : Int) + 1) = (q : Int) := by omega
  have hwq : IntKind.i64.wrap ((i : Int) + 1) = (q : Int) := by rw [IntWalk.i64_in _ (by omega)]; exact hq1
  have hqm : q ≤ m := by omega
  have hqc : q ≤ fc := by omega
  have hic : i ≤ fc := by omega
  have bA := Lib.hid (below_alloc1 V (.cells #[] 69))
  have oA := Lib.hid (lit_own V V.heap.size V.heap.size 3 69 (Nat.le_refl _) rfl)
  obtain ⟨x0, x1, x2⟩ := hX.out V (Below.refl _ _)
  have y1 := (hC.out V (Below.refl _ _)).1
  have y2 := (hC.out _ bA.out).1
  have hq' := Lib.hid hq
  have hqI := Lib.hid hq1
  have hV' := Lib.hid hV
  have hto' := Lib.hid hto
  have hn := Lib.hid (rfl : S.n = S.n)
  have fin : Hid (∀ w2 v2, w2.ownsRow V.heap.size 69 3 v2 (i + (m - q)) ((flat encL S.fl).take (i * 3) ++ (flat encL S.fl).drop (q * 3)) → Below V.heap.size V w2 → DCut w B b h c (.slice (some ⟨g, 0, none⟩) m fc) (S.drop i) f t a (w2.setCell ⟨b, 1, none⟩ v2)) := Lib.hid fun w2 v2 ho hb => by
    have ho' : OwnL w2 V.heap.size v2 (S.drop i).fl := by
      unfold OwnL
      have e1 : (S.drop i).fl.length = i + (m - q) := by have := fl_drop_len hi; have := hm'.out; omega
      rw [e1]
      show w2.ownsRow V.heap.size 69 3 v2 _ (flat encL (S.fl.eraseIdx i))
      rw [flat_erase encL_len, ← hq'.out]; exact ho
    have hk := kV.out.row.setF hb ho'
    have hb3 : Below w.heap.size w w2 := hbV.out.trans (hb.mono hbV.out.size)
    obtain ⟨z0, z1, z2⟩ := hX.out w2 hb
    have hbX : b ≠ w.heap.size := by have := k'.out.bw; omega
    refine ⟨v2, hk.at rfl (tl_congr rfl fun _ _ => rfl) rfl, ?_, (World.cell?_setCell_other _ _ _ _ (by simp <;> omega)).trans z0, (World.cell?_setCell_other _ _ _ _ (by simp <;> omega)).trans z1, (World.cell?_setCell_other _ _ _ _ (by simp <;> omega)).trans z2⟩
    refine Frm.set ⟨hb3.os, hb3.tape, hb3.output, hb3.size, fun k hk _ => hb3.block k hk, fun k hk => ?_⟩ (.inl rfl)
    rcases hk with e | e | e
    · exact .inl (.inl e)
    · exact .inl (.inr (.inl e))
    · right
      have := (World.ownsRow.lt ho _ e).1
      have := hbV.out.size
      omega
  clear k hgA hcl hm hV hq hv hi hlq hto hn hgw hq1
  subst ha
  have he' := Lib.hid he
  clear he
  go_enter Try.func32, Try.ntmps32
  go_wp2_with (go_at_call 53; refine hx.out.mono ?_; rintro e wj ⟨rfl, rfl⟩)
  go_cut [39] from 23 to 41 (fun _ wx => ∃ w4 : World, w4 = wx ∧ DCut w B b h c (.slice (some ⟨g, 0, none⟩) m fc) (S.drop i) f t false w4)
  · rw [← hV'.out]
    go_region_law (first
      | (refine step_flat (B := V.heap.size) (n := 0) (m := i) (w := (V.alloc (.cells #[] 69)).drew) Try.underlying60 hi0 hz0 hz1 hz2 rfl (by decide) (by decide) rfl (.tmp 24) (.tmp 30) rfl oA.out (by simp [Act.eval, Act.put]) (by simp [Act.eval, Act.put]) (hF1.out _ bA.out.drew) (fun u hu => one_flatL S.fl u (List.mem_of_mem_take hu)) (by omega) (Nat.le_trans bA.out.size (Nat.le_refl _)) ?_; intro v1 w1 hO1 hb1 _
         rw [Nat.zero_add, List.nil_append] at hO1
         have bW := bA.out.drew.trans hb1
         have y6 := (hC.out w1 bW).1
         have bW' := Lib.hid bW
         have hO1' := Lib.hid hO1
         clear hO1 hb1 bW)
      | (refine step_flat (B := V.heap.size) (n := i) (m := m - q) (w := w1) Try.underlying60 hi0 hz0 hz1 hz2 rfl (by decide) (by decide) rfl (.tmp 31) (.tmp 38) rfl hO1'.out (by simp [Act.eval, Act.put]) (by simp [Act.eval, Act.put]) (hF2.out _ bW'.out) (fun u hu => one_flatL S.fl u (List.mem_of_mem_drop hu)) (by omega) bW'.out.size ?_; intro v2 w2 hO2 hb2 _
         have bF := Lib.hid (bW'.out.trans hb2)
         have hOF := Lib.hid hO2
         obtain ⟨y7, yf7⟩ := hC.out w2 bF.out
         obtain ⟨oa2, k2, c2, rfl⟩ : ∃ a n c, v2 = .slice a n c := by obtain ⟨a, c, e, _⟩ := own_cells hO2; exact ⟨a, _, c, e⟩
         clear hO2 hb2))
    all_goals (go_wp2_with fail; go_meet; exact ⟨_, rfl, fin.out _ _ hOF.out bF.out⟩)
  · obtain ⟨w4, rfl, fv1, kd, frd, z0, z1, z2⟩ := hcut
    have d0 := kd.c0
    have dnc := kd.nc
    obtain ⟨e0, e1, e2, e3, ef⟩ := kd.hand (i := t) hto'.out
    have hti : (t : Int) < (S.n : Int) := by have := hto'.out; omega
    have kd' := Lib.hid kd
    have frd' := Lib.hid frd
    rw [show (S.drop i).n = S.n from rfl] at d0 dnc
    clear fin hF1 hF2 hC hX x0 x1 x2 y1 y2 kd frd oA bA hA
    have he2 : (S.drop i).eng t = false := he'.out
    rw [he2] at e1
    have ef0 := ef (t * 4)
    have ef1 := ef (t * 4 + 1)
    have ef2 := ef (t * 4 + 2)
    clear ef he2
    go_wp2_with fail
    go_quiet (fail)
    generalize hW : w4.drewN _ = W
    have hbW := Lib.hid (show Below w4.heap.size w4 W by rw [← hW]; exact below_drewN (Below.refl _ _) _)
    have kW := Lib.hid (kd'.out.below hbW.out)
    have fW := Lib.hid (frd'.out.trans (Frm.of_below (P := WkP b h fv1) hbW.out))
    have g0 : W.cell? ⟨w.heap.size, 0, none⟩ = some (.int .i64 f) := by rw [← hW]; exact z0
    have g2 : W.cell? ⟨w.heap.size, 2, none⟩ = some (.bool false) := by rw [← hW]; exact z2
    have g3 : W.cell? ⟨h, t * 4 + 1, none⟩ = some (.bool false) := by rw [← hW]; exact e1
    have g4 : W.cell? ⟨h, t * 4, none⟩ = some (.bool ((S.drop i).hd t).wk) := by rw [← hW]; exact e0
    have g5 : W.cell? ⟨h, t * 4 + 2, none⟩ = some (.int .i64 ((((S.drop i).hd t).par : Int) - 1)) := by rw [← hW]; exact e2
    have gf0 : W.frozen? ⟨h, t * 4, none⟩ = false := by rw [← hW]; exact ef0
    have gf1 : W.frozen? ⟨h, t * 4 + 1, none⟩ = false := by rw [← hW]; exact ef1
    have gf2 : W.frozen? ⟨h, t * 4 + 2, none⟩ = false := by rw [← hW]; exact ef2
    have hXh : ¬ h = w.heap.size := by have := k'.out.lt_h; omega
    clear hW z0 z1 z2 e0 e1 e2 e3 ef0 ef1 ef2 d0 dnc
    go_wp2_with fail
    go_region
    all_goals
      go_wp2_with fail
      go_ret
      have q1 := kW.out.drew.row.setT (i := t) (f := 0) (x := ((S.drop i).eng t, (S.drop i).hd t)) (a := ((S.drop i).eng t, ⟨true, ((S.drop i).hd t).par, ((S.drop i).hd t).owed⟩)) (u := .bool true) (tl_get hto'.out) (by omega) rfl
      have hlen : t < (tl (S.drop i)).length := by rw [tl_len]; exact hto'.out
      have q2 := q1.setT (i := t) (f := 1) (x := ((S.drop i).eng t, ⟨true, ((S.drop i).hd t).par, ((S.drop i).hd t).owed⟩)) (a := (true, ⟨true, ((S.drop i).hd t).par, ((S.drop i).hd t).owed⟩)) (u := .bool true) (by rw [List.getElem?_set_self hlen]) (by omega) rfl
      have q3 := q2.setT (i := t) (f := 2) (x := (true, ⟨true, ((S.drop i).hd t).par, ((S.drop i).hd t).owed⟩)) (a := (true, ⟨true, f + 1, ((S.drop i).hd t).owed⟩)) (u := .int .i64 f) (by rw [List.getElem?_set_self (by rw [List.length_set]; exact hlen)]) (by omega) (by
        show [_, _, Value.int .i64 (((f + 1 : Nat) : Int) - 1), _] = _
        rw [show (((f + 1 : Nat) : Int) - 1) = (f : Int) by omega]; rfl)
      refine ⟨rfl, fv1, q3.at (by simp) ?_ rfl, ((fW.out.drew.set (.inr (.inl rfl))).set (.inr (.inl rfl))).set (.inr (.inl rfl))⟩
      rw [List.set_set, List.set_set, tl_set _ _ (show t < (S.drop i).n from hto'.out)]
      simp
theorem deliver32 {w : World} {B b h c : Nat} {fv : Value} {S : WS} (k : TkAt w B b h c fv S) (hv : Inv S) (x : Int) :
    Calls Try.prog 32 #[.pointer (some ⟨b, 0, none⟩), .int .i64 x] w (TkEnd w B b h c fv (dlvE S x).2 (.int .i64 (dlvE S x).1)) := by
  unfold dlvE
  by_cases h1 : inB x S.fl.length = false
  · rw [if_pos h1]; exact rdlvBad k x h1 (by have := hv.room; omega)
  · rw [if_neg h1]
    obtain ⟨i, rfl, hi⟩ := inB_nat (by simpa using h1)
    simp only [Int.toNat_natCast]
    obtain ⟨⟨f, t, a⟩, hlq⟩ : ∃ l, l = S.fl.getD i L0 := ⟨_, rfl⟩
    have hS : S.dlv i = if a = true then (S.drop i).acked t else (S.drop i).take ⟨f, t, a⟩ := by unfold WS.dlv; rw [← hlq]
    rw [hS]
    cases ha : a with
    | true => rw [if_pos rfl]; subst ha; exact rdlvAck k hv hi hlq rfl
    | false =>
      rw [if_neg (by simp)]
      subst ha
      unfold WS.take
      cases he : S.eng t with
      | true => rw [if_pos (show (S.drop i).eng t = true from he)]; exact rdlvEng k hv hi hlq rfl he
      | false => rw [if_neg (show ¬ (S.drop i).eng t = true by rw [show (S.drop i).eng t = S.eng t from rfl, he]; simp)]; exact rdlvNew k hv hi hlq rfl he
end Go.Proofs.Ytbemlfppekpmjaa
