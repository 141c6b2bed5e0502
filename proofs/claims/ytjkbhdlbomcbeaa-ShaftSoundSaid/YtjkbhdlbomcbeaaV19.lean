import Derived.Test.YtjkbhdlbomcbeaaV15
import Derived.Test.YtjkbhdlbomcbeaaV18
import Derived.Test.YtjkbhdlbomcbeaaV9
import Derived.Test.YtjkbhdlbomcbeaaV17
import Derived.Test.YtjkbhdlbomcbeaaV5
import Derived.Test.YtjkbhdlbomcbeaaV13
namespace Go.Proofs.Ytjkbhdlbomcbeaa
open Go.RowKit Go.Shelf Shf

/-- What Refuse answers. -/
def RefIs (P : Int) (js : List J) (os : List (Int × Int)) (ns : List Nd) (err : Int) : Prop :=
  (validB P js os = false ∧ ns = [] ∧ err = 1) ∨ (validB P js os = true ∧ ((∃ S, Sched (shOf P js os) S) ∧ ns = [] ∧ err = 5 ∨ (¬ ∃ S, Sched (shOf P js os) S) ∧ (ns = [] ∧ err = 4 ∧ 4096 < wt (shOf P js os) ∨ err = 0 ∧ ns.length ≤ 20000 ∧ prB (shOf P js os) (shOf P js os).n (shOf P js os).os.length ns = true)))
def RefuseEnd (w : World) (P : Int) (js : List J) (os : List (Int × Int)) (e : Ending) (w' : World) : Prop := ∃ v ns err, e = .returned (.tuple #[v, .int .i64 err]) ∧ OwnN w' w.heap.size v ns ∧ RefIs P js os ns err ∧ Below w.heap.size w w'
theorem own_nil (w : World) (B : Nat) : OwnN w B (.slice none 0 0) [] := World.ownsRow_nil _ _ _ _
set_option maxHeartbeats 4000000 in
set_option maxRecDepth 100000 in
theorem refuse30 (h77 : H77) {w : World} {v : Value} {P : Int} {js : List J} {os : List (Int × Int)} (h : ShV w v P js os) (h7 : js.length ≤ 7) (h21 : os.length ≤ 21) :
    Calls Try.prog 30 #[v] w (RefuseEnd w P js os) := by
  obtain ⟨jv, ov, rfl, rj, ro⟩ := h
  obtain ⟨ja, n, jc, rfl⟩ : ∃ a n c, jv = .slice a n c := by obtain ⟨a, c, e, _⟩ := rj; exact ⟨_, _, _, e⟩
  obtain ⟨oa, m, oc, rfl⟩ : ∃ a n c, ov = .slice a n c := by obtain ⟨a, c, e, _⟩ := ro; exact ⟨_, _, _, e⟩
  have hb0 := Lib.hid (below_alloc1 w (.cells #[.int .i64 P, .slice ja n jc, .slice oa m oc] 25))
  have hsh := Lib.hid (fun (W : World) (hb : Below w.heap.size w W) => (show ShV W (.agg #[.int .i64 P, .slice ja n jc, .slice oa m oc]) P js os from ⟨_, _, rfl, rj.below hb, ro.below hb⟩))
  cases hv : validB P js os with
  | false =>
    have hn := Lib.hid (new37' (rj.below hb0.out) (ro.below hb0.out) h7 h21 hv)
    simp only [Bool.false_eq_true, if_false] at hn
    have hv' := Lib.hid hv
    clear hsh rj ro h7 h21 hv
    go_enter Try.func30, Try.ntmps30
    go_wp2_with (go_at_call 37; refine (hn.out).mono ?_; rintro e w1 ⟨rfl, hb1⟩
                 have hb1' := Lib.hid (below_call (below_call hb0.out hb1) (below_alloc1 _ (.cells #[.int .i64 0, .slice none 0 0, .slice none 0 0] 81)))
                 clear hb1)
    go_ret2
    exact ⟨_, [], 1, rfl, own_nil _ _, .inl ⟨hv'.out, rfl, rfl⟩, hb1'.out⟩
  | true =>
    have hn := Lib.hid (new37' (rj.below hb0.out) (ro.below hb0.out) h7 h21 hv)
    simp only [if_true] at hn
    obtain ⟨hV, hos⟩ := valid_sh hv
    have hV' := Lib.hid hV
    have hos' := Lib.hid hos
    have hv' := Lib.hid hv
    obtain ⟨d, hd⟩ : ∃ d, d = cbd (shOf P js os) := ⟨_, rfl⟩
    have hc := Lib.hid (fun (W : World) (hb : Below w.heap.size w W) => canBeDone42' (w := W) (s := shOf P js os) hV.loose (by rw [hos]; exact hsh.out W hb) hd.symm)
    have hd' := Lib.hid hd
    clear hV hos hv rj ro h7 h21 hd
    cases d with
    | true =>
      go_enter Try.func30, Try.ntmps30
      go_wp2_with (
        first
        | (go_at_call 37; refine (hn.out).mono ?_; rintro e w1 ⟨rfl, hb1⟩
           have hT1 := Lib.hid (Three.new w1 (.int .i64 P) (.slice ja n jc) (.slice oa m oc) 81)
           have hs1 := Lib.hid (show w1.heap.size < (w1.alloc (.cells #[.int .i64 P, .slice ja n jc, .slice oa m oc] 81)).heap.size by simp)
           have hb1' := Lib.hid (below_call (below_call hb0.out hb1) (below_alloc1 _ (.cells #[.int .i64 P, .slice ja n jc, .slice oa m oc] 81)))
           have hc1 := Lib.hid (hc.out _ hb1'.out)
           clear hb1)
        | (go_at_call 42; refine (hc1.out).mono ?_; rintro e w2 ⟨rfl, hb2⟩
           have hb2' := Lib.hid (below_call hb1'.out hb2)
           clear hb2))
      go_ret2
      exact ⟨_, [], 5, rfl, own_nil _ _, .inr ⟨hv'.out, .inl ⟨(cbd_iff hV'.out.loose).1 hd'.out.symm, rfl, rfl⟩⟩, hb2'.out⟩
    | false =>
      have hns := Lib.hid (show ¬ ∃ S, Sched (shOf P js os) S from fun hS => by have := (cbd_iff hV'.out.loose).2 hS; rw [← hd'.out] at this; cases this)
      have hft := Lib.hid (show Fit (shOf P js os) from fun i hi => by have := hV'.out.wide i hi; unfold lat; omega)
      have hrf := Lib.hid (fun (W : World) (rb : Nat) (hb : Below w.heap.size w W) (hR : RB W rb 20000) => refute50 h77 (wt (shOf P js os)) W (.agg #[.int .i64 P, .slice ja n jc, .slice oa m oc]) (shOf P js os) rb 20000 (Nat.le_refl _) hV'.out.loose hft.out hns.out (by rw [hos'.out]; exact hsh.out W hb) hR (by have := wt_le hV'.out.loose; omega) (by omega))
      go_enter Try.func30, Try.ntmps30
      go_upto_region 8 with (
        first
        | (go_at_call 37; refine (hn.out).mono ?_; rintro e w1 ⟨rfl, hb1⟩
           have hT1 := Lib.hid (Three.new w1 (.int .i64 P) (.slice ja n jc) (.slice oa m oc) 81)
           have hs1 := Lib.hid (show w1.heap.size < (w1.alloc (.cells #[.int .i64 P, .slice ja n jc, .slice oa m oc] 81)).heap.size by simp)
           have hb1' := Lib.hid (below_call (below_call hb0.out hb1) (below_alloc1 _ (.cells #[.int .i64 P, .slice ja n jc, .slice oa m oc] 81)))
           have hc1 := Lib.hid (hc.out _ hb1'.out)
           clear hb1)
        | (go_at_call 42; refine (hc1.out).mono ?_; rintro e w2 ⟨rfl, hb2⟩
           have hb2' := Lib.hid (below_call (below_call hb1'.out hb2) (below_alloc1 _ (.cells #[.int .i64 20000] 96)))
           have hw2 := Lib.hid (show w.heap.size ≤ w2.heap.size from (below_call hb1'.out hb2).size)
           have hT2 := Lib.hid (hT1.out.keep (hb2.trans ((below_alloc1 w2 (.cells #[.int .i64 20000] 96)).mono hb2.size)) hs1.out)
           obtain ⟨⟨z0, z1, z2⟩, -⟩ := hT2.out
           have hr2 := Lib.hid (hrf.out (w2.alloc (.cells #[.int .i64 20000] 96)) w2.heap.size hb2'.out ⟨by simp, by simp, alloc_fz _ _ _ _, by rw [World.cell?_alloc_at (hn := rfl)]; rfl⟩)
           clear hb2)
        | (go_at_call 50; refine (hr2.out).mono ?_; rintro e w3 ⟨o, L', rfl, hk3, -, b1, b2, blo, hot, hon⟩
           have hb3 := Lib.hid (hk3.below hb2'.out hw2.out hb2'.out.size)
           have hB := Lib.hid (And.intro b1 (And.intro b2 blo))
           have hot' := Lib.hid hot
           have hon' := Lib.hid hon
           clear hk3 b1 b2 blo hot hon z0 z1 z2))
      cases o with
      | none =>
        rw [show valO none = .nilIface from rfl]
        go_wp2_with fail
        go_ret2
        exact ⟨_, [], 4, rfl, own_nil _ _, .inr ⟨hv'.out, .inr ⟨hns.out, .inl ⟨rfl, rfl, Nat.lt_of_not_le fun hc => hon'.out (by omega) rfl⟩⟩⟩, hb3.out⟩
      | some t =>
        obtain ⟨ht1, ht2, ht3⟩ := hot'.out t rfl
        have hnl := nodes_leaves t
        have hq3 : t.nodes ≤ 100000 := by
          have h1 := hB.out.2.2.2 (by omega)
          have h2 := dp_le hV'.out.loose
          omega
        have hpr := Lib.hid (prB_ser ht2)
        have ht1' := Lib.hid ht1
        have hsm : t.nodes ≤ 20000 ∨ 4096 < wt (shOf P js os) := by
          by_cases q : t.nodes ≤ 20000
          · exact .inl q
          · right; have := hB.out.1; omega
        have hsm' := Lib.hid hsm
        obtain ⟨ty, ar, fn, hvo, -, -, -, -⟩ := tree_pack t
        have hvt : t.val = .iface ty ar := hvo
        have had := Lib.hid (fun (W : World) (lb B : Nat) (h1 : lb < B) (h2 : B ≤ W.heap.size) (h3 : W.cell? ⟨lb, 0, none⟩ = some (.slice none 0 0)) (h4 : W.frozen? ⟨lb, 0, none⟩ = false) => (show Calls Try.prog 51 #[.pointer (some ⟨lb, 0, none⟩), .iface ty ar] W (AddEnd W lb B (.slice none 0 0) [] (ser t 0)) from by
          have := add51 t (ns := []) h1 h2 h3 h4 (own_nil _ _) (by simpa using hq3)
          rw [hvt, List.nil_append] at this; exact this))
        have hser := Lib.hid (ser_length t 0)
        obtain ⟨q, hq⟩ : ∃ q, q = t.nodes := ⟨_, rfl⟩
        rw [← hq] at hser hsm' hq3
        rw [hvo]
        clear hvo hvt ht1 ht2 ht3 hnl hsm hq hot' hon'
        have hb4 := Lib.hid (below_call hb3.out (below_alloc1 w3 (.cells #[.slice none 0 0] 100)))
        have ha := Lib.hid (had.out (w3.alloc (.cells #[.slice none 0 0] 100)) w3.heap.size (w3.heap.size + 1) (Nat.lt_succ_self _) (by simp) (by simp) (alloc_fz _ _ _ _))
        by_cases hqb : 20000 < q
        · have d1 : decide ((20000 : Int) < (q : Int)) = true := by simp; omega
          go_wp2_with (go_at_call 51; refine (ha.out).mono ?_; rintro e w5 ⟨rfl, hb5, v5, hc5, hf5, hO5, -, -⟩
                       obtain ⟨ao, c, rfl, -⟩ := own_cells hO5
                       rw [hser.out] at hc5
                       have hb5' := Lib.hid hb5
                       clear hb5 hf5 hO5)
          go_ret2
          exact ⟨_, [], 4, rfl, own_nil _ _, .inr ⟨hv'.out, .inr ⟨hns.out, .inl ⟨rfl, rfl, by have := hsm'.out; omega⟩⟩⟩, hb4.out.trans (hb5'.out.mono hb3.out.size)⟩
        · have d1 : decide ((20000 : Int) < (q : Int)) = false := by simp; omega
          go_wp2_with (go_at_call 51; refine (ha.out).mono ?_; rintro e w5 ⟨rfl, hb5, v5, hc5, hf5, hO5, -, -⟩
                       obtain ⟨ao, c, rfl, -⟩ := own_cells hO5
                       rw [hser.out] at hc5
                       have hO5' := Lib.hid hO5
                       have hb5' := Lib.hid hb5
                       clear hb5 hf5 hO5)
          go_ret2
          exact ⟨_, ser t 0, 0, by rw [← hser.out]; rfl, own_base hO5'.out (Nat.le_trans hb3.out.size (Nat.le_succ _)), .inr ⟨hv'.out, .inr ⟨hns.out, .inr ⟨rfl, by rw [hser.out]; omega, by rw [hpr.out]; exact ht1'.out⟩⟩⟩, hb4.out.trans (hb5'.out.mono hb3.out.size)⟩
end Go.Proofs.Ytjkbhdlbomcbeaa

namespace Go.Proofs.Ytjkbhdlbomcbeaa
open Go.RowKit Go.Shelf Shf

theorem info139 : (Try.prog.info? 139).map (fun i => (i.zero, i.size, i.bytes)) = some (some (.agg #[.int .i64 0, .int .i64 0]), 2, 16) := by kernel_rfl
set_option maxHeartbeats 4000000 in
set_option maxRecDepth 100000 in
theorem before78 {w : World} {g k : Nat} {a t : Int} (hc : w.cell? ⟨g, k, none⟩ = some (.int .i64 a)) (hf : w.frozen? ⟨g, k, none⟩ = false) :
    Calls Try.prog 78 #[.pointer (some ⟨g, k, none⟩), .int .i64 t] w fun e w' => e = .returned (.tuple #[]) ∧ w' = w.setCell ⟨g, k, none⟩ (.int .i64 (max a t)) := by
  obtain ⟨m, hm⟩ : ∃ m, m = max a t := ⟨_, rfl⟩
  have hmx := fun (W : World) => run_max2h (P := Try.prog) (w := W) #[3, 3] 3 a t m hm
  rw [← hm]
  clear hm
  go_enter Try.func78, Try.ntmps78
  go_wp2_with fail
  go_end0
  exact ⟨rfl, rfl⟩
set_option maxHeartbeats 4000000 in
set_option maxRecDepth 100000 in
theorem after79 {w : World} {g k : Nat} {a t : Int} (hc : w.cell? ⟨g, k + 1, none⟩ = some (.int .i64 a)) (hf : w.frozen? ⟨g, k + 1, none⟩ = false) :
    Calls Try.prog 79 #[.pointer (some ⟨g, k, none⟩), .int .i64 t] w fun e w' => e = .returned (.tuple #[]) ∧ w' = w.setCell ⟨g, k + 1, none⟩ (.int .i64 (min a t)) := by
  obtain ⟨m, hm⟩ : ∃ m, m = min a t := ⟨_, rfl⟩
  have hmx := fun (W : World) => run_min2h (P := Try.prog) (w := W) #[3, 3] 3 a t m hm
  rw [← hm]
  clear hm
  go_enter Try.func79, Try.ntmps79
  go_wp2_with fail
  go_end0
  exact ⟨rfl, rfl⟩
/-- Spans in a row of one's own. -/
def OwnS (w : World) (B : Nat) (v : Value) (sp : List (Int × Int)) : Prop := w.ownsRow B 139 2 v sp.length (flat encO sp)
theorem OwnS.parts {w : World} {B g n c : Nat} {sp : List (Int × Int)} (h : OwnS w B (.slice (some ⟨g, 0, none⟩) n c) sp) {i : Nat} (hi : i < sp.length) :
    (∀ j, w.frozen? ⟨g, j, none⟩ = false) ∧ w.cell? ⟨g, i * 2, none⟩ = some (.int .i64 (sp.getD i (0, 0)).1) ∧ w.cell? ⟨g, i * 2 + 1, none⟩ = some (.int .i64 (sp.getD i (0, 0)).2) ∧
    (∀ y, OwnS (w.setCell ⟨g, i * 2, none⟩ (.int .i64 y)) B (.slice (some ⟨g, 0, none⟩) n c) (sp.set i (y, (sp.getD i (0, 0)).2))) ∧ (∀ y, OwnS (w.setCell ⟨g, i * 2 + 1, none⟩ (.int .i64 y)) B (.slice (some ⟨g, 0, none⟩) n c) (sp.set i ((sp.getD i (0, 0)).1, y))) := by
  unfold OwnS at h
  obtain rfl : n = sp.length := by obtain ⟨_, _, e, _⟩ := own_cells h; injection e
  refine ⟨fun j => h.frozenAt j, ?_, ?_, fun y => ?_, fun y => ?_⟩
  · obtain ⟨ao, c', e, hc, hcl⟩ := own_cells h
    obtain ⟨g', rfl, _, _, hat⟩ := hcl (by omega)
    obtain rfl : g = g' := by injection e with e _ _; injection e with e; injection e
    refine hat _ _ ((flat_at encO_len sp i 0 hi (by omega)).trans ?_)
    rw [List.getD_eq_getElem?_getD, List.getElem?_eq_getElem hi]; rfl
  · obtain ⟨ao, c', e, hc, hcl⟩ := own_cells h
    obtain ⟨g', rfl, _, _, hat⟩ := hcl (by omega)
    obtain rfl : g = g' := by injection e with e _ _; injection e with e; injection e
    refine hat _ _ ((flat_at encO_len sp i 1 hi (by omega)).trans ?_)
    rw [List.getD_eq_getElem?_getD, List.getElem?_eq_getElem hi]; rfl
  · have := (h.stored (i * 2) (.int .i64 y)).1
    unfold OwnS
    rw [List.length_set, ← flat_set encO_len sp i 0 (y, (sp.getD i (0, 0)).2) (.int .i64 y) hi (by omega) (fun a ha => by rw [List.getD_eq_getElem?_getD, ha]; rfl)]
    exact this
  · have := (h.stored (i * 2 + 1) (.int .i64 y)).1
    unfold OwnS
    rw [List.length_set, ← flat_set encO_len sp i 1 ((sp.getD i (0, 0)).1, y) (.int .i64 y) hi (by omega) (fun a ha => by rw [List.getD_eq_getElem?_getD, ha]; rfl)]
    exact this
theorem span_set {s : Sh} {sp : List (Int × Int)} (h : SpanOk s sp) {i : Nat} (hi : i < s.n) {a b : Int} (ha : (s.job i).f ≤ a ∧ a ≤ 100000) (hb : -100000 ≤ b ∧ b ≤ lat (s.job i)) : SpanOk s (sp.set i (a, b)) := by
  refine ⟨by rw [List.length_set]; exact h.1, fun k hk => ?_⟩
  rw [List.getD_eq_getElem?_getD, List.getElem?_set]
  by_cases e : i = k
  · subst e
    rw [if_pos rfl, if_pos (by rw [h.1]; exact hi)]
    exact ⟨ha.1, ha.2, hb.1, hb.2⟩
  · rw [if_neg e, ← List.getD_eq_getElem?_getD]
    exact h.2 k hk
theorem span_first {s : Sh} {sp : List (Int × Int)} (h : SpanOk s sp) {i : Nat} (hi : i < s.n) {t : Int} (ht : t ≤ 100000) : SpanOk s (sp.set i (max (sp.getD i (0, 0)).1 t, (sp.getD i (0, 0)).2)) := by
  have := h.2 i hi
  exact span_set h hi (by omega) (by omega)
theorem span_last {s : Sh} {sp : List (Int × Int)} (h : SpanOk s sp) {i : Nat} (hi : i < s.n) {t : Int} (ht : -100000 ≤ t) : SpanOk s (sp.set i ((sp.getD i (0, 0)).1, min (sp.getD i (0, 0)).2 t)) := by
  have := h.2 i hi
  exact span_set h hi (by omega) (by omega)
end Go.Proofs.Ytjkbhdlbomcbeaa

namespace Go.Proofs.Ytjkbhdlbomcbeaa
open Go.RowKit Go.Shelf Shf

/-- Where the spans are made: the shaft's box, the box of the spans, and their row. -/
structure Sp (w0 W : World) (P jv ov sv : Value) (sp : List (Int × Int)) : Prop where
  low : Below w0.heap.size w0 W
  sh : Sh3 W w0.heap.size P jv ov
  bx : Bx W (w0.heap.size + 1) sv
  own : OwnS W (w0.heap.size + 2) sv sp
  sz : w0.heap.size + 2 ≤ W.heap.size
theorem Sp.keep {w0 W W' : World} {P jv ov sv : Value} {sp : List (Int × Int)} (h : Sp w0 W P jv ov sv sp) (hb : Below W.heap.size W W') : Sp w0 W' P jv ov sv sp :=
  ⟨below_call h.low hb, h.sh.below hb (by have := h.sz; omega), h.bx.below hb (by have := h.sz; omega), own_below h.own hb, Nat.le_trans h.sz hb.size⟩
/-- The row has grown, or one of its cells was stored, and its value is stored. -/
theorem Sp.put {w0 W W' : World} {P jv ov sv sv' : Value} {sp sp' : List (Int × Int)} (h : Sp w0 W P jv ov sv sp) (hb : Below (w0.heap.size + 2) W W') (ho : OwnS W' (w0.heap.size + 2) sv' sp') : Sp w0 (W'.setCell ⟨w0.heap.size + 1, 0, none⟩ sv') P jv ov sv' sp' :=
  ⟨below_set (h.low.trans (hb.mono (by omega))) (by show w0.heap.size ≤ w0.heap.size + 1; omega), (h.sh.below hb (by omega)).other (by omega), (h.bx.below hb (by omega)).same, ownsRow_setCell_below ho (by show w0.heap.size + 1 < _; omega) _, by rw [World.size_setCell]; exact Nat.le_trans h.sz hb.size⟩
theorem Sp.row {w0 W : World} {P jv ov : Value} {g n c k : Nat} {u : Value} {sp sp' : List (Int × Int)} (h : Sp w0 W P jv ov (.slice (some ⟨g, 0, none⟩) n c) sp) (hg : w0.heap.size + 2 ≤ g) (ho : OwnS (W.setCell ⟨g, k, none⟩ u) (w0.heap.size + 2) (.slice (some ⟨g, 0, none⟩) n c) sp') : Sp w0 (W.setCell ⟨g, k, none⟩ u) P jv ov (.slice (some ⟨g, 0, none⟩) n c) sp' := by
  have hb : Below (w0.heap.size + 2) W (W.setCell ⟨g, k, none⟩ u) := below_set (Below.refl _ _) hg
  exact ⟨h.low.trans (hb.mono (by omega)), h.sh.below hb (by omega), h.bx.below hb (by omega), ho, Nat.le_trans h.sz hb.size⟩
/-- The first spans. -/
def spI (s : Sh) (i : Nat) : List (Int × Int) := (List.range i).map fun k => ((s.job k).f, lat (s.job k))
theorem spI_len (s : Sh) (i : Nat) : (spI s i).length = i := by simp [spI]
theorem spI_next (s : Sh) (i : Nat) : spI s (i + 1) = spI s i ++ [((s.job i).f, lat (s.job i))] := by simp [spI, List.range_succ]
theorem spI_ok {s : Sh} (hs : Loose s) (hf : Fit s) : SpanOk s (spI s s.n) := by
  refine ⟨spI_len _ _, fun i hi => ?_⟩
  have e : (spI s s.n).getD i (0, 0) = ((s.job i).f, lat (s.job i)) := by
    rw [List.getD_eq_getElem?_getD]; simp [spI, hi]
  rw [e]
  have h1 := hs.jobs i hi
  have h2 := hf i hi
  unfold lat at h2 ⊢
  exact ⟨Int.le_refl _, by simp only; omega, by simp only; omega, Int.le_refl _⟩
/-- append of a span at one step of a region that draws its order. -/
theorem step_sp {ops : Array Oper} {o : Oper} {a : Act} {w : World} {K : Act → World → Prop} {Q : Exit → Act → World → Prop} {E : Prop} {B gl : Nat} {v : Value} {sp : List (Int × Int)} {x y : Int} (hg : o.guard = none) (u z : Operand) (hop : o.op = Op.call { callee := Callee.builtin Builtin.append, args := #[u, z], argTypes := #[136, 136] })
    (hown : OwnS w B v sp) (hlen : sp.length ≤ 100000) (hB : B ≤ w.heap.size) (hs : a.eval u = v) (hx : a.eval z = .slice (some ⟨gl, 0, none⟩) 1 1) (c0 : w.cell? ⟨gl, 0, none⟩ = some (.int .i64 x)) (c1 : w.cell? ⟨gl, 1, none⟩ = some (.int .i64 y))
    (hK : ∀ v' w', OwnS w' B v' (sp ++ [(x, y)]) → Below B w w' → (∀ g, g < w.heap.size → v.ownBlock ≠ some g → w'.heap[g]? = w.heap[g]?) → K (a.put o.dst v') w') :
    if Region.wanted o (yielded ops a.tmps) = true then Oper.wp Try.prog o a w K Q else E := by
  have hw : Region.wanted o (yielded ops a.tmps) = true := by simp [Region.wanted, hg]
  rw [if_pos hw]
  obtain ⟨i0, hi, hz0, hz1, hz2⟩ := info_parts info139
  have hfl : FlatR w 2 (.slice (some ⟨gl, 0, none⟩) 1 1) 1 (flat encO [(x, y)]) := ⟨rfl, some ⟨gl, 0, none⟩, 1, rfl, Nat.le_refl _, fun e => (by cases e), fun _ => ⟨gl, 0, rfl, cell_in c0, fun j u hj => by
    rw [Nat.zero_add]
    match j with
    | 0 => simp [flat, encO] at hj; subst hj; exact c0
    | 1 => simp [flat, encO] at hj; subst hj; exact c1
    | j + 2 => simp [flat, encO] at hj⟩⟩
  obtain ⟨v', w', hrun, r1, r2⟩ := run_app_flat (ty := o.type) Try.underlying136 hi hz0 hz1 hz2 rfl (by decide) (by decide) hown hfl (one_flatO [(x, y)]) (by omega) hB
  unfold Oper.wp
  simp [execOp, hop, resolve, invoke, builtin, hs, hx, hrun, Result.andThen]
  refine hK v' w' ?_ ((Below.refl B w).grown r2 hB (fun k hk => (World.ownsRow.lt hown k hk).1)) (fun g hg hne => r2.block g hg (fun e => hne e.symm))
  unfold OwnS
  rw [flat_app, List.length_append]
  exact r1
theorem ownS_slice {w : World} {B k : Nat} {v : Value} {sp : List (Int × Int)} (h : OwnS w B v sp) (hk : sp.length = k + 1) : ∃ g c, v = .slice (some ⟨g, 0, none⟩) (k + 1) c := by
  obtain ⟨ao, c, e, _, h⟩ := own_cells h
  rw [hk] at e h
  obtain ⟨g, rfl, _⟩ := h (by simp)
  exact ⟨g, c, e⟩
end Go.Proofs.Ytjkbhdlbomcbeaa

namespace Go.Proofs.Ytjkbhdlbomcbeaa
open Go.RowKit Go.Shelf Shf

set_option maxHeartbeats 8000000 in
set_option maxRecDepth 100000 in
theorem seen52 {w : World} {ge i : Nat} {s : Sh} {v pv : Value} {ns : List Nd} {sn : Nat → Bool} (hv : ShF w ge v s) (hp : NdF w ge pv ns) (hS : SnR w ge ns.length sn) (hi : i < ns.length) (hsn : sn i = true) :
    Calls Try.prog 52 #[v, pv, .int .i64 i, .slice (some ⟨ge, 0, none⟩) ns.length ns.length] w (RpEnd w ge ns.length (false, sn)) := by
  obtain ⟨ja, jc, oa, oc, rfl, rj, ro, fj, fo⟩ := hv
  obtain ⟨⟨pa, pc, rfl, hpc, hpat⟩, hpf⟩ := hp
  obtain ⟨n, hn⟩ : ∃ n, n = ns.length := ⟨_, rfl⟩
  obtain ⟨g, rfl, hg, n0, n1, n2, n3, n4, n5⟩ := hpat i hi
  have hgg : g ≠ ge := hpf g _ _ rfl
  obtain ⟨nj, hnj⟩ : ∃ nj, nj = s.js.length := ⟨_, rfl⟩
  obtain ⟨m, hm⟩ : ∃ m, m = (osI s).length := ⟨_, rfl⟩
  have hgew := hS.hgw
  have hb1 := below_alloc1 w (.cells #[.int .i64 s.P, .slice ja s.js.length jc, .slice oa (osI s).length oc] 25)
  have hS1 := hS.below hb1
  have s0 := hS1.seen i hi
  have f0 := hS1.fg i
  rw [hsn] at s0
  have hfin := Lib.hid (show RpEnd w ge ns.length (false, sn) (.returned (.bool false)) (w.alloc (.cells #[.int .i64 s.P, .slice ja s.js.length jc, .slice oa (osI s).length oc] 25)) from ⟨rfl, hS1, Kq.of_below hb1⟩)
  rw [← hnj, ← hm] at s0 f0 hfin
  rw [← hn] at hfin hi
  rw [← hnj, ← hm, ← hn]
  have hin' : (i : Int) < (n : Int) := by omega
  clear hpat hn hS hS1 hb1 rj ro n0 n1 n2 n3 n4 n5 hnj hm hpf fj fo hg hgg hpc
  go_enter Try.func52, Try.ntmps52
  go_wp2_with fail
  go_ret
  exact hfin.out
set_option maxHeartbeats 8000000 in
set_option maxRecDepth 100000 in
theorem none52 {w : World} {ge i : Nat} {s : Sh} {v pv : Value} {ns : List Nd} {sn : Nat → Bool} (hv : ShF w ge v s) (hp : NdF w ge pv ns) (hS : SnR w ge ns.length sn) (hi : i < ns.length) (hsn : sn i = false) (hk : (ns.getD i N0).k ≠ 2 ∧ (ns.getD i N0).k ≠ 3 ∧ (ns.getD i N0).k ≠ 1) :
    Calls Try.prog 52 #[v, pv, .int .i64 i, .slice (some ⟨ge, 0, none⟩) ns.length ns.length] w (RpEnd w ge ns.length (false, seeN sn i)) := by
  obtain ⟨ja, jc, oa, oc, rfl, rj, ro, fj, fo⟩ := hv
  obtain ⟨⟨pa, pc, rfl, hpc, hpat⟩, hpf⟩ := hp
  obtain ⟨n, hn⟩ : ∃ n, n = ns.length := ⟨_, rfl⟩
  obtain ⟨g, rfl, hg, n0, n1, n2, n3, n4, n5⟩ := hpat i hi
  have hgg : g ≠ ge := hpf g _ _ rfl
  obtain ⟨nj, hnj⟩ : ∃ nj, nj = s.js.length := ⟨_, rfl⟩
  obtain ⟨m, hm⟩ : ∃ m, m = (osI s).length := ⟨_, rfl⟩
  have hgew := hS.hgw
  have hb1 := below_alloc1 w (.cells #[.int .i64 s.P, .slice ja s.js.length jc, .slice oa (osI s).length oc] 25)
  have hS1 := hS.below hb1
  have s0 := hS1.seen i hi
  have f0 := hS1.fg i
  rw [hsn] at s0
  obtain ⟨⟨k, j, a, b, l, r⟩, hx⟩ : ∃ x, x = ns.getD i N0 := ⟨_, rfl⟩
  rw [← hx] at hk n0 n1 n2 n3 n4 n5
  try rw [← hx]
  simp only at hk n0 n1 n2 n3 n4 n5
  obtain ⟨W2, hW2⟩ : ∃ W2, W2 = (w.setCell ⟨ge, i, none⟩ (.bool true)).alloc (.cells #[.int .i64 s.P, .slice ja s.js.length jc, .slice oa (osI s).length oc] 25) := ⟨_, rfl⟩
  have hK2 : Kq ge w W2 := by rw [hW2]; exact (Kq.set ge i _ _).trans (Kq.of_below (below_alloc1 _ _))
  have hs2 : W2.heap.size = w.heap.size + 1 := by rw [hW2, World.size_alloc, World.size_setCell]
  have y0 := (hK2.cell hg hgg).trans n0
  have y1 := (hK2.cell hg hgg).trans n1
  have y2 := (hK2.cell hg hgg).trans n2
  have y3 := (hK2.cell hg hgg).trans n3
  have y4 := (hK2.cell hg hgg).trans n4
  have y5 := (hK2.cell hg hgg).trans n5
  have hS2 : SnR W2 ge ns.length (seeN sn i) := by rw [hW2]; exact (hS.see hi).below (below_alloc1 _ _)
  have z0 : W2.cell? ⟨w.heap.size, 0, none⟩ = some (.int .i64 s.P) := by rw [hW2, World.cell?_alloc_at (hn := by rw [World.size_setCell])]; rfl
  have z1 : W2.cell? ⟨w.heap.size, 1, none⟩ = some (.slice ja s.js.length jc) := by rw [hW2, World.cell?_alloc_at (hn := by rw [World.size_setCell])]; rfl
  have z2 : W2.cell? ⟨w.heap.size, 2, none⟩ = some (.slice oa (osI s).length oc) := by rw [hW2, World.cell?_alloc_at (hn := by rw [World.size_setCell])]; rfl
  obtain ⟨W, hW⟩ : ∃ W, W = W2.alloc (.cells #[.int .i64 k, .int .i64 j, .int .i64 a, .int .i64 b, .int .i64 l, .int .i64 r] 72) := ⟨_, rfl⟩
  have hbW : Below W2.heap.size W2 W := by rw [hW]; exact below_alloc1 _ _
  obtain ⟨m0, m1, m2, m3, m4, m5⟩ : W.cell? ⟨w.heap.size + 1, 0, none⟩ = some (.int .i64 k) ∧ W.cell? ⟨w.heap.size + 1, 1, none⟩ = some (.int .i64 j) ∧ W.cell? ⟨w.heap.size + 1, 2, none⟩ = some (.int .i64 a) ∧ W.cell? ⟨w.heap.size + 1, 3, none⟩ = some (.int .i64 b) ∧ W.cell? ⟨w.heap.size + 1, 4, none⟩ = some (.int .i64 l) ∧ W.cell? ⟨w.heap.size + 1, 5, none⟩ = some (.int .i64 r) := by
    rw [hW, ← hs2]; exact nd_new W2 _ _ _ _ _ _
  have u0 := (hbW.cell (p := ⟨w.heap.size, 0, none⟩) (by rw [hs2]; simp)).trans z0
  have u1 := (hbW.cell (p := ⟨w.heap.size, 1, none⟩) (by rw [hs2]; simp)).trans z1
  have u2 := (hbW.cell (p := ⟨w.heap.size, 2, none⟩) (by rw [hs2]; simp)).trans z2
  have hKW := hK2.trans (Kq.of_below hbW)
  have hSW := hS2.below hbW
  have hWs : W.heap.size = w.heap.size + 2 := by rw [hW]; simp [hs2]
  have hShW := Lib.hid (show ShV W (.agg #[.int .i64 s.P, .slice ja s.js.length jc, .slice oa (osI s).length oc]) s.P s.js (osI s) from ⟨_, _, rfl, rj.kp fj hKW, ro.kp fo hKW⟩)
  have hEnd := Lib.hid (fun (W' : World) (hb : Below W.heap.size W W') (d : Bool) => (show RpEnd w ge ns.length (d, seeN sn i) (.returned (.bool d)) W' from ⟨rfl, hSW.below hb, hKW.trans (Kq.of_below hb)⟩))
  have hin' : (i : Int) < (n : Int) := by omega
  have hge2 : ¬ (w.heap.size = ge) := by omega
  obtain ⟨k2, k3, k1⟩ := hk
  have hd2 : decide (k = 2) = false := by simpa using k2
  have hd3 : decide (k = 3) = false := by simpa using k3
  have hd1 : decide (k = 1) = false := by simpa using k1
  have he2 : (k == 2) = false := by simpa using k2
  have he3 : (k == 3) = false := by simpa using k3
  have he1 : (k == 1) = false := by simpa using k1
  rw [← hnj, ← hm] at s0 f0 hW2 hShW
  rw [← hnj] at u1
  rw [← hm] at u2
  rw [← hn] at hEnd hi
  rw [← hnj, ← hm, ← hn]
  clear hpat hn hS hS1 hb1 n0 n1 n2 n3 n4 n5 z0 z1 z2 hpf hx hS2 hKW hSW hK2 hbW
  clear hShW rj ro fj fo hnj hm
  go_enter Try.func52, Try.ntmps52
  go_upto_region 4 with fail
  rw [← hW2]
  clear hW2 s0 f0
  go_upto_region 5 with fail
  rw [← hW]
  clear hW y0 y1 y2 y3 y4 y5
  go_wp2_with fail
  go_ret
  exact hEnd.out _ (Below.refl _ _) false
end Go.Proofs.Ytjkbhdlbomcbeaa
