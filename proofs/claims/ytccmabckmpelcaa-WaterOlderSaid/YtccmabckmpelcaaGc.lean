import Derived.Test.YtccmabckmpelcaaHb
import Derived.Test.YtccmabckmpelcaaSa
import Derived.StillTailTactics
namespace Go.Proofs.Ytccmabckmpelcaa
open Go.RowKit

/-- A row of slices of one's own that is written to. -/
def RowV (w : World) (B g n : Nat) (vs : List Value) : Prop := w.ownsRow B 22 1 (.slice (some ⟨g, 0, none⟩) n n) n vs ∧ vs.length = n
theorem RowV.below {w w' : World} {B g n : Nat} {vs : List Value} (h : RowV w B g n vs) (hb : Below w.heap.size w w') : RowV w' B g n vs := ⟨own_below h.1 hb, h.2⟩
theorem RowV.cell {w : World} {B g n : Nat} {vs : List Value} (h : RowV w B g n vs) {j : Nat} (hj : j < n) : w.cell? ⟨g, j, none⟩ = some (vs.getD j undef) := by
  rw [h.1.cellAt j (by omega)]
  have := h.2
  simp [List.getD_eq_getElem?_getD, show j < vs.length by omega]
theorem RowV.frozen {w : World} {B g n : Nat} {vs : List Value} (h : RowV w B g n vs) (j : Nat) : w.frozen? ⟨g, j, none⟩ = false := h.1.frozenAt j
theorem RowV.set {w : World} {B g n : Nat} {vs : List Value} (h : RowV w B g n vs) (j : Nat) (y : Value) : RowV (w.setCell ⟨g, j, none⟩ y) B g n (vs.set j y) :=
  ⟨(h.1.stored j _).1, by rw [List.length_set]; exact h.2⟩
theorem RowV.lt {w : World} {B g n : Nat} {vs : List Value} (h : RowV w B g n vs) : B ≤ g ∧ g < w.heap.size := by
  rcases h.1.2 with ⟨h', _⟩ | ⟨g', cap', cur, h', hB, hg, _⟩
  · simp at h'
  · simp only [Value.slice.injEq, Option.some.injEq, Addr.mk.injEq, and_true, true_and] at h'
    obtain ⟨rfl, rfl⟩ := h'
    exact ⟨hB, (Array.getElem?_eq_some_iff.1 hg).1⟩
theorem make_rowv {ops : Array Oper} {rest : List Oper} {o : Oper} {a : Act} {Q : Exit → Act → World → Prop} {w : World} {B : Nat}
    (n : Nat) (hC : n ≤ 1000000) (hB : B ≤ w.heap.size) (hg : o.guard = none) (l c : Operand) (hop : o.op = Op.makeSlice 23 l c)
    (hl : a.eval l = .int .i64 (n : Int)) (hc : a.eval c = .int .i64 (n : Int))
    (hK : ∀ w', RowV w' B w.heap.size n (List.replicate n (.slice none 0 0)) → Below B w w' → wpList Try.prog ops Q rest (a.put o.dst (.slice (some ⟨w.heap.size, 0, none⟩) n n)) w') :
    wpList Try.prog ops Q (o :: rest) a w := by
  obtain ⟨i0, hi, hz0, hz1, hz2⟩ := info_parts info22
  refine wpList_plain hg fun K hK' => ?_
  have hr := run_make (P := Try.prog) w 23 22 i0 (.slice none 0 0) Try.underlying23 hi hz0 .i64 .i64 (n : Int) (n : Int) (by omega) (by omega) (by rw [hz2]; omega) (by omega)
  simp only [Int.toNat_natCast, hz1, Nat.mul_one] at hr
  unfold Oper.wp
  simp [execOp, hop, hl, hc, hr, Result.andThen]
  refine hK' _ _ (hK _ ⟨⟨by simp, .inr ⟨w.heap.size, n, _, rfl, hB, heap_alloc_new w _, Nat.le_refl _, by unfold maxLen; omega, by simp [size_madeCells], ?_⟩⟩, by simp⟩ ((Below.refl _ _).alloc hB _))
  show (madeCells #[Value.slice none 0 0] n).toList.take (n * 1) = _
  rw [toList_madeCells_one, Nat.mul_one, List.take_replicate, Nat.min_self]

/-- Slices that read as the gains of a group. -/
def ReadsV (w : World) (vs : List Value) (gs : List (List Int)) (M : Nat → Bool) : Prop := ∀ j, j < gs.length → Reads w (vs.getD j undef) (if M j then gs.getD j [] else [])
theorem RowV.reads {w : World} {B g n : Nat} {vs : List Value} {gs : List (List Int)} {M : Nat → Bool} (h : RowV w B g n vs) (hn : n = gs.length) (hr : ReadsV w vs gs M) : ReadsG w (.slice (some ⟨g, 0, none⟩) n n) (maskG gs M) := by
  refine ⟨_, n, by rw [maskG_len, ← hn], by rw [maskG_len, ← hn]; exact Nat.le_refl _, fun _ => ⟨g, 0, rfl, ?_, fun j hj => ?_⟩⟩
  · rcases h.1.2 with ⟨h', _⟩ | ⟨g', cap', cur, h', _, hg, _⟩
    · simp at h'
    · simp only [Value.slice.injEq, Option.some.injEq, Addr.mk.injEq, and_true, true_and] at h'
      obtain ⟨rfl, rfl⟩ := h'
      exact (Array.getElem?_eq_some_iff.1 hg).1
  · rw [maskG_len] at hj
    exact ⟨_, by rw [show 0 + j = j by omega]; exact h.cell (by omega), by rw [maskG_at]; exact hr j hj⟩
theorem reads_nil (w : World) : Reads w (.slice none 0 0) [] := ⟨none, 0, rfl, Nat.le_refl _, fun h => absurd rfl h⟩
theorem inG_take_snoc {ps : List Int} {k p : Nat} (hk : k < ps.length) (hp : ps.getD k 0 = (p : Int)) (j : Nat) : inG (ps.take (k + 1)) j = (inG (ps.take k) j || decide (j = p)) := by
  unfold inG
  have ht : ps.take (k + 1) = ps.take k ++ [(p : Int)] := by rw [List.take_succ_eq_append_getElem hk, ← hp]; simp [List.getD_eq_getElem?_getD, hk]
  rw [ht, Bool.eq_iff_iff]
  have e : ((j : Nat) : Int) = (p : Int) ↔ j = p := by omega
  simp [e]

set_option maxHeartbeats 4000000 in
set_option maxRecDepth 100000 in
theorem aspires26 {w : World} {u v z : Value} {fs ps : List Int} {gs : List (List Int)} (h : Riv w u v fs gs) (hr : rivB fs gs = true) (hz : Reads w z ps) (hg : grpFrom fs.length 0 ps = true) (hpl : ps.length ≤ fs.length) (he : gErr fs gs ps = 0) :
    Calls Try.prog 26 #[u, v, z] w fun e w' => e = .returned (.tuple #[.int .i64 (asp fs gs (inG ps)), .int .i64 0]) ∧ Below w.heap.size w w' := by
  obtain ⟨_, h8, hfl, hfo, hok, _⟩ := rivB_facts hr
  have h' := Lib.hid h
  have hz' := Lib.hid hz
  obtain ⟨fo, fc, rfl, _, _⟩ := h.1
  obtain ⟨go, gc, rfl, _, _⟩ := h.2.1
  obtain ⟨zo, zc, rfl, _, _⟩ := hz
  obtain ⟨n, hn⟩ : ∃ n, n = fs.length := ⟨_, rfl⟩
  obtain ⟨m, hm⟩ : ∃ m, m = ps.length := ⟨_, rfl⟩
  rw [← hn] at h' h8 hg hpl ⊢
  rw [← hfl, ← hn] at h' ⊢
  rw [← hm] at hz' hpl ⊢
  clear h
  have hfo' := Lib.hid hfo
  have hok' := Lib.hid hok
  have hfl' := Lib.hid hfl
  have hn' := Lib.hid hn
  have hm' := Lib.hid hm
  have hg' := Lib.hid hg
  clear hfo hok hfl hn hm hg
  go_enter Try.func26, Try.ntmps26
  go_wp2_with fail
  refine (group46 h'.out hz'.out (by rw [← hm'.out]; omega)).mono ?_
  rw [show grpRes (gErr fs gs ps) (.slice fo n fc) (.slice go n gc) = .returned (.tuple #[.agg #[.slice fo n fc, .slice go n gc], .int .i64 0]) by unfold grpRes; rw [if_pos he]]
  rintro e w1 ⟨rfl, hb1⟩
  obtain ⟨w2, hw2⟩ : ∃ w2, w2 = w1.alloc (.cells #[.slice fo n fc, .slice go n gc] 57) := ⟨_, rfl⟩
  have hb2 : Below w.heap.size w w2 := by rw [hw2]; exact hb1.alloc hb1.size _
  obtain ⟨b, hbeq⟩ : ∃ b, b = w1.heap.size := ⟨_, rfl⟩
  have cb : w2.cell? ⟨b, 1, none⟩ = some (.slice go n gc) := by rw [hw2, World.cell?_alloc_at (hn := hbeq)]; rfl
  have hlt0 : b < w2.heap.size := by rw [hw2]; simp; omega
  go_wp2_with (first | (at_make; refine make_rowv n (by omega) (Nat.le_refl _) rfl _ _ rfl rfl rfl ?_; intro w3 hr3 hb3))
  rw [← hw2] at hr3 hb3
  obtain ⟨g, hgq⟩ : ∃ g, g = w1.heap.size + 1 := ⟨_, rfl⟩
  have hg2 : w2.heap.size = g := by rw [hgq, hw2]; simp
  rw [← hgq, ← hbeq]
  rw [hg2] at hr3 hb3 hlt0
  have hs3 := hr3.lt
  obtain ⟨b2, hb2q⟩ : ∃ b2, b2 = w3.heap.size := ⟨_, rfl⟩
  obtain ⟨w4, hw4⟩ : ∃ w4, w4 = w3.alloc (.cells #[.slice fo n fc, .slice (some ⟨g, 0, none⟩) n n] 57) := ⟨_, rfl⟩
  have hbox : w4.heap[b2]? = some (.cells #[.slice fo n fc, .slice (some ⟨g, 0, none⟩) n n] 57) := by rw [hw4, hb2q]; exact heap_alloc_new w3 _
  have hgb2 : g < b2 := by omega
  have hs1 := hb1.size
  have hgw := Lib.hid (show w.heap.size ≤ g by omega)
  have hr4 := hr3.below (by rw [hw4]; exact below_alloc1 w3 _ : Below w3.heap.size w3 w4)
  have hb4 : Below g w2 w4 := by rw [hw4]; exact hb3.alloc (by omega) _
  rw [← hb2q, ← hw4]
  have hg2' := Lib.hid hg2
  clear hw4 hgq hw2 hbeq hb2q hr3 hb3 hg2 hs1
  go_loopw [32] (fun i wr => ∃ (k : Nat) (vs : List Value), k ≤ m ∧ i = .int .i64 k ∧ RowV wr g g n vs ∧ Hid (ReadsV w2 vs gs (inG (ps.take k))) ∧ wr.heap[b2]? = some (.cells #[.slice fo n fc, .slice (some ⟨g, 0, none⟩) n n] 57) ∧ Below g w2 wr) (fun i _ => m - (intOf i).toNat)
  case atStart =>
    refine ⟨0, _, Nat.zero_le _, rfl, hr4, Lib.hid (fun j hj => ?_), hbox, hb4⟩
    have e1 : inG (ps.take 0) j = false := by simp [inG]
    rw [e1]
    rw [← hfl'.out, ← hn'.out] at hj
    rw [show (List.replicate n (Value.slice none 0 0)).getD j undef = .slice none 0 0 by simp [List.getD_eq_getElem?_getD, hj]]
    exact reads_nil _
  case round =>
    obtain ⟨k, vs, hk, rfl, hrow, hvs, hbx, hb⟩ := hrel
    obtain ⟨wo, rfl⟩ : ∃ wo : World, wo = wr := ⟨_, rfl⟩
    have hb3' : Below w2.heap.size w2 wo := by rw [hg2'.out]; exact hb
    have hbw := Lib.hid (below_call hb2 hb3')
    by_cases hlt : k < m
    · obtain ⟨q0, q1, _⟩ := grp_at ps 0 hg'.out k (by rw [← hm'.out]; exact hlt)
      obtain ⟨p, hp⟩ : ∃ p : Nat, (p : Int) = ps.getD k 0 := ⟨(ps.getD k 0).toNat, by omega⟩
      have hpn : p < n := by omega
      obtain ⟨g3, o3, rfl, hg3, hc3⟩ := hz'.out.at hm'.out.symm hlt
      have c1 := (hbw.out.cell (p := ⟨g3, o3 + k, none⟩) hg3).trans (hc3 k hlt)
      rw [← hp] at c1
      obtain ⟨g4, o4, rfl, hg4, ro, rc, hc4, hrow4⟩ := (h'.out.below hb2).2.1.at (by rw [← hfl'.out, ← hn'.out]) hpn
      have c4 := (hb.cell (p := ⟨g4, o4 + p, none⟩) (by rw [← hg2'.out]; exact hg4)).trans hc4
      have cb1 : wo.cell? ⟨b, 1, none⟩ = _ := (hb.cell (p := ⟨b, 1, none⟩) hlt0).trans cb
      have cb2 : wo.cell? ⟨b2, 1, none⟩ = some (.slice (some ⟨g, 0, none⟩) n n) := by rw [cell_of_row wo b2 1 _ 57 (0, 0) hbx]; rfl
      have cg := hrow.cell hpn
      have fg := hrow.frozen p
      have hrow' := Lib.hid hrow
      have hbx' := Lib.hid hbx
      obtain ⟨l, hl⟩ : ∃ l, l = gs.getD p [] := ⟨_, rfl⟩
      rw [← hl] at c4 hrow4
      obtain ⟨r, hrl⟩ : ∃ r, r = l.length := ⟨_, rfl⟩
      rw [← hrl] at c4 hrow4
      have hvs2 := Lib.hid (show ReadsV w2 (vs.set p (.slice ro r rc)) gs (inG (ps.take (k + 1))) from fun j hj => by
        rw [inG_take_snoc (by rw [← hm'.out]; exact hlt) hp.symm]
        by_cases e : j = p
        · subst e
          rw [List.getD_eq_getElem?_getD, List.getElem?_set_self (by rw [hrow'.out.2]; exact hpn)]
          simp only [Option.getD_some, decide_true, Bool.or_true, if_true]
          rw [← hl]; exact hrow4
        · rw [List.getD_eq_getElem?_getD, List.getElem?_set_ne (fun h => e h.symm), ← List.getD_eq_getElem?_getD]
          have := hvs.out j hj
          simpa [e] using this)
      have hset := Lib.hid (hrow'.out.set p (.slice ro r rc))
      clear hc3 hc4 hp hl hrl hrow hbx q0 q1 hrow4
      go_wp2_with fail
      refine wp_region_still_tail 9 (by kernel_rfl) (by kernel_rfl) ?_
      simp only [List.take_succ_cons, List.take_zero, List.drop_succ_cons, List.drop_zero]
      change wpStill _ _ wo.drew (fun a' => wpList _ _ _ _ a' wo.drew) _ _
      iterate 9 still_step
      refine wpStill_nil ?_
      go_wp2_with fail
      exact ⟨⟨k + 1, _, by omega, by go_num, hset.out, hvs2, (heap_setCell_other wo ⟨g, p, none⟩ b2 _ (by show b2 ≠ g; omega)).trans hbx'.out, (below_set hb (Nat.le_refl _)).drew⟩, by simp [intOf]; omega⟩
    · have hkm : k = m := by omega
      have hps := Lib.hid (show ps.take k = ps by rw [hkm, hm'.out]; exact List.take_of_length_le (Nat.le_refl _))
      have hrd := Lib.hid (show ReadsG wo (.slice (some ⟨g, 0, none⟩) n n) (maskG gs (inG ps)) from hrow.reads (by rw [← hfl'.out, ← hn'.out]) (fun j hj => by
        have := hvs.out j hj
        rw [hps.out] at this
        exact this.below hb3'))
      have hfw := Lib.hid (h'.out.below hbw.out).1
      have cb20 : wo.cell? ⟨b2, 0, none⟩ = some (.slice fo n fc) := by rw [cell_of_row wo b2 0 _ 57 (0, 0) hbx]; rfl
      have cb21 : wo.cell? ⟨b2, 1, none⟩ = some (.slice (some ⟨g, 0, none⟩) n n) := by rw [cell_of_row wo b2 1 _ 57 (0, 0) hbx]; rfl
      clear hkm hbx
      go_wp2_with fail
      refine (best44 hfw.out hrd.out (by rw [maskG_len]; exact hfl'.out) hfo'.out (maskG_ok hok'.out _)).mono ?_
      rintro e w5 ⟨x, rfl, _, hb5⟩
      go_wp2_with fail
      go_ret2
      exact ⟨rfl, below_call hbw.out hb5⟩
end Go.Proofs.Ytccmabckmpelcaa
