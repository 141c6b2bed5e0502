import Derived.Test.YtjkbhdlbomcbeaaWb
namespace Go.Proofs.Ytjkbhdlbomcbeaa
open Go.RowKit Go.Shelf Shf

/-- What First answers. -/
def FirstAns (P : Int) (js : List J) (os : List (Int × Int)) (xs : List Int) (err : Int) : Prop :=
  (validB P js os = false ∧ xs = [] ∧ err = 1) ∨ (validB P js os = true ∧ (((¬ ∃ S, Sched (shOf P js os) S) ∧ xs = [] ∧ err = 5) ∨ (xs.length = (shOf P js os).n ∧ First (shOf P js os) (fun i => xs.getD i 0) ∧ err = 0)))
def First21 (w : World) (P : Int) (js : List J) (os : List (Int × Int)) (e : Ending) (w' : World) : Prop := ∃ u xs err, e = .returned (.tuple #[u, .int .i64 err]) ∧ Ints w' w.heap.size u xs ∧ Below w.heap.size w w' ∧ FirstAns P js os xs err
theorem cbd_some {s : Sh} (hs : Loose s) {d : Bool} (h : cbd s = d) : (d = true → ∃ S, Sched s S) ∧ (d = false → ¬ ∃ S, Sched s S) :=
  ⟨fun e => (cbd_iff hs).1 (h.trans e), fun e he => by rw [(cbd_iff hs).2 he] at h; rw [← h] at e; cases e⟩
theorem new37' {w : World} {jv ov : Value} {P : Int} {js : List J} {os : List (Int × Int)} (hj : ReadsJ w jv js) (ho : ReadsO w ov os) (hj7 : js.length ≤ 7) (ho21 : os.length ≤ 21) {d : Bool} (hd : validB P js os = d) :
    Calls Try.prog 37 #[.agg #[.int .i64 P, jv, ov]] w fun e w' => e = .returned (.tuple #[.agg #[.int .i64 (if d then P else 0), if d then jv else .slice none 0 0, if d then ov else .slice none 0 0], .int .i64 (if d then 0 else 1)]) ∧ Below w.heap.size w w' := by
  subst hd; exact new37 hj ho hj7 ho21
set_option maxHeartbeats 4000000 in
set_option maxRecDepth 100000 in
theorem first21 {w : World} {v : Value} {P : Int} {js : List J} {os : List (Int × Int)} (h : ShV w v P js os) (h7 : js.length ≤ 7) (h21 : os.length ≤ 21) : Calls Try.prog 21 #[v] w (First21 w P js os) := by
  obtain ⟨jv, ov, rfl, rj, ro⟩ := h
  obtain ⟨ja, n, jc, rfl⟩ : ∃ a n c, jv = .slice a n c := by obtain ⟨a, c, e, _⟩ := rj; exact ⟨_, _, _, e⟩
  obtain ⟨oa, m, oc, rfl⟩ : ∃ a n c, ov = .slice a n c := by obtain ⟨a, c, e, _⟩ := ro; exact ⟨_, _, _, e⟩
  have hb0 := Lib.hid (below_alloc1 w (.cells #[.int .i64 P, .slice ja n jc, .slice oa m oc] 25))
  have hsh := Lib.hid (fun (W : World) (hb : Below w.heap.size w W) => (show ShV W (.agg #[.int .i64 P, .slice ja n jc, .slice oa m oc]) P js os from ⟨_, _, rfl, rj.below hb, ro.below hb⟩))
  have hnw := fun (d : Bool) (hd : validB P js os = d) => new37' (rj.below hb0.out) (ro.below hb0.out) h7 h21 hd
  cases hv : validB P js os with
  | false =>
    have hn := Lib.hid (hnw false hv)
    have hans := Lib.hid (show FirstAns P js os [] 1 from .inl ⟨hv, rfl, rfl⟩)
    clear hnw hv rj ro h7 h21
    go_enter Try.func21, Try.ntmps21
    go_wp2_with (go_at_call 37; refine (hn.out).mono ?_; rintro e w1 ⟨rfl, hb1⟩; have hb1' := Lib.hid (below_call hb0.out hb1); clear hb1)
    go_ret2
    exact ⟨_, [], 1, rfl, Ints.nil _ _, below_call hb1'.out (below_alloc1 _ _), hans.out⟩
  | true =>
    have hn := Lib.hid (hnw true hv)
    obtain ⟨hV, hos⟩ := valid_sh hv
    have hV' := Lib.hid hV
    have hos' := Lib.hid hos
    have hv' := Lib.hid hv
    obtain ⟨d, hd⟩ : ∃ d, cbd (shOf P js os) = d := ⟨_, rfl⟩
    have hcb := Lib.hid (cbd_some hV.loose hd)
    have hc := Lib.hid (fun (W : World) (hb : Below w.heap.size w W) => canBeDone42' (w := W) (s := shOf P js os) hV.loose (by rw [hos]; exact hsh.out W hb) hd)
    clear hnw hv rj ro h7 h21 hV hos hd
    cases d with
    | false =>
      have hans := Lib.hid (show FirstAns P js os [] 5 from .inr ⟨hv'.out, .inl ⟨hcb.out.2 rfl, rfl, rfl⟩⟩)
      go_enter Try.func21, Try.ntmps21
      go_wp2_with (
        first
        | (go_at_call 37; refine (hn.out).mono ?_; rintro e w1 ⟨rfl, hb1⟩
           have hb1' := Lib.hid (below_call (below_call hb0.out hb1) (below_alloc1 _ (.cells #[.int .i64 P, .slice ja n jc, .slice oa m oc] 81)))
           have hc1 := Lib.hid (hc.out _ hb1'.out)
           clear hb1)
        | (go_at_call 42; refine (hc1.out).mono ?_; rintro e w2 ⟨rfl, hb2⟩; have hb2' := Lib.hid (below_call hb1'.out hb2); clear hb2))
      go_ret2
      exact ⟨_, [], 5, rfl, Ints.nil _ _, hb2'.out, hans.out⟩
    | true =>
      have hsome := Lib.hid (hcb.out.1 rfl)
      have hf := Lib.hid (fun (W : World) (hb : Below w.heap.size w W) => first43 (w := W) (s := shOf P js os) hV'.out.loose (by rw [hos'.out]; exact hsh.out W hb) hsome.out)
      go_enter Try.func21, Try.ntmps21
      go_wp2_with (
        first
        | (go_at_call 37; refine (hn.out).mono ?_; rintro e w1 ⟨rfl, hb1⟩
           have hT1 := Lib.hid (Three.new w1 (.int .i64 P) (.slice ja n jc) (.slice oa m oc) 81)
           have hs1 := Lib.hid (show w1.heap.size < (w1.alloc (.cells #[.int .i64 P, .slice ja n jc, .slice oa m oc] 81)).heap.size by simp)
           have hb1' := Lib.hid (below_call (below_call hb0.out hb1) (below_alloc1 _ (.cells #[.int .i64 P, .slice ja n jc, .slice oa m oc] 81)))
           have hc1 := Lib.hid (hc.out _ hb1'.out)
           clear hb1)
        | (go_at_call 42; refine (hc1.out).mono ?_; rintro e w2 ⟨rfl, hb2⟩
           have hb2' := Lib.hid (below_call hb1'.out hb2)
           obtain ⟨⟨z0, z1, z2⟩, -⟩ := hT1.out.keep hb2 hs1.out
           have hf2 := Lib.hid (hf.out _ hb2'.out)
           clear hb2)
        | (go_at_call 43; refine (hf2.out).mono ?_; rintro e w3 ⟨u, xs, rfl, hI, hl, hF, hb3⟩
           have hb3' := Lib.hid (below_call hb2'.out hb3)
           have hI' := Lib.hid (hI.base hb2'.out.size)
           have hl' := Lib.hid hl
           have hF' := Lib.hid hF
           clear hI hl hF hb3))
      go_ret2
      exact ⟨_, xs, 0, rfl, hI'.out, hb3'.out, .inr ⟨hv'.out, .inr ⟨hl'.out, hF'.out, rfl⟩⟩⟩
end Go.Proofs.Ytjkbhdlbomcbeaa
