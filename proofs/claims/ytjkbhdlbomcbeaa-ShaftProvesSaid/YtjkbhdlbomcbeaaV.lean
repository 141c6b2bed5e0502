import Derived.Test.YtjkbhdlbomcbeaaU
import Derived.Test.YtjkbhdlbomcbeaaT
import Derived.Test.YtjkbhdlbomcbeaaMa
namespace Go.Proofs.Ytjkbhdlbomcbeaa
open Go.RowKit Shf

theorem canBeDone42' {w : World} {v : Value} {s : Sh} {d : Bool} (hs : Loose s) (h : ShV w v s.P s.js (osI s)) (hd : cbd s = d) :
    Calls Try.prog 42 #[v] w fun e w' => e = .returned (.bool d) ∧ Below w.heap.size w w' := by subst hd; exact canBeDone42 hs h
set_option maxHeartbeats 4000000 in
set_option maxRecDepth 100000 in
theorem first60 {w : World} {b g4 g5 k i : Nat} {c : Sh} {jv ov : Value} {f : Int} (hs : Loose c) (hk : k < c.n) (h0 : w.cell? ⟨b, 0, none⟩ = some (.int .i64 c.P)) (h1 : w.cell? ⟨b, 1, none⟩ = some jv) (h2 : w.cell? ⟨b, 2, none⟩ = some ov) (rj : ReadsJ w jv c.js) (ro : ReadsO w ov (osI c))
    (h4 : w.cell? ⟨g4, 0, none⟩ = some (.int .i64 k)) (h5 : w.cell? ⟨g5, 0, none⟩ = some (.int .i64 f)) (hf : (c.job k).f = f) (hi : f + i ≤ lat (c.job k)) :
    Calls Try.prog 60 #[.int .i64 i, .pointer (some ⟨b, 0, none⟩), .pointer (some ⟨g4, 0, none⟩), .pointer (some ⟨g5, 0, none⟩)] w fun e w' => e = .returned (.bool (cbd (till c k (f + i)))) ∧ Below w.heap.size w w' := by
  have hj := hs.jobs k hk
  have h6 := hs.num
  have hf0 : 0 ≤ f ∧ f ≤ 24 := by omega
  have hfi : f + i ≤ 24 := by unfold lat at hi; omega
  have hloose := Lib.hid (loose_till hs hk (x := f + i) (by omega) hi)
  have hkI : (k : Int) ≤ 6 := by omega
  have hu := Lib.hid (until61 (w := w) (v := .agg #[.int .i64 c.P, jv, ov]) (P := c.P) (js := c.js) (os := osI c) ⟨jv, ov, rfl, rj, ro⟩ (by have : c.js.length = c.n := rfl; omega) (i := k) hk (x := f + i) (by omega) (by have : c.js.getD k J0 = c.job k := rfl; rw [this]; omega))
  obtain ⟨d, hd⟩ : ∃ d, d = cbd (till c k (f + i)) := ⟨_, rfl⟩
  rw [← hd]
  have hd' := Lib.hid hd
  obtain ⟨ja, n, jc, rfl⟩ : ∃ a n c, jv = .slice a n c := by obtain ⟨a, c, e, _⟩ := rj; exact ⟨_, _, _, e⟩
  obtain ⟨oa, m, oc, rfl⟩ : ∃ a n c, ov = .slice a n c := by obtain ⟨a, c, e, _⟩ := ro; exact ⟨_, _, _, e⟩
  clear hs hk rj ro hf hi hj h6 hd
  go_enter Try.func60, Try.ntmps60
  go_wp2_with (first
    | (
    go_at_call 61; refine (hu.out).mono ?_; rintro e w1 ⟨v1, rfl, hv1, hb1⟩
    have hb1' := Lib.hid hb1
    have hc := Lib.hid (canBeDone42' (s := till c k (f + i)) hloose.out hv1 hd'.out.symm)
    clear hv1 hb1)
    | (
    go_at_call 42; refine (hc.out).mono ?_; rintro e w2 ⟨rfl, hb2⟩
    have hb2' := Lib.hid (below_call hb1'.out hb2)
    clear hb2))
  go_ret
  exact ⟨rfl, hb2'.out⟩
set_option maxHeartbeats 4000000 in
set_option maxRecDepth 100000 in
theorem leastEnd62 {w : World} {b i : Nat} {c : Sh} {jv ov : Value} (hs : Loose c) (h0 : w.cell? ⟨b, 0, none⟩ = some (.int .i64 c.P)) (h1 : w.cell? ⟨b, 1, none⟩ = some jv) (h2 : w.cell? ⟨b, 2, none⟩ = some ov) (rj : ReadsJ w jv c.js) (ro : ReadsO w ov (osI c)) (hi : i ≤ 24) :
    Calls Try.prog 62 #[.int .i64 i, .pointer (some ⟨b, 0, none⟩)] w fun e w' => e = .returned (.bool (cbd (ending c i))) ∧ Below w.heap.size w w' := by
  have h6 := hs.num
  have hloose := Lib.hid (loose_ending hs (e := (i : Int)) (by omega))
  have hu := Lib.hid (ending45 (w := w) (v := .agg #[.int .i64 c.P, jv, ov]) (P := c.P) (js := c.js) (os := osI c) ⟨jv, ov, rfl, rj, ro⟩ (by have : c.js.length = c.n := rfl; omega) (by intro e; have : c.js.length = c.n := rfl; rw [e] at this; simp at this; omega) (i : Int))
  obtain ⟨d, hd⟩ : ∃ d, d = cbd (ending c i) := ⟨_, rfl⟩
  rw [← hd]
  have hd' := Lib.hid hd
  obtain ⟨ja, n, jc, rfl⟩ : ∃ a n c, jv = .slice a n c := by obtain ⟨a, c, e, _⟩ := rj; exact ⟨_, _, _, e⟩
  obtain ⟨oa, m, oc, rfl⟩ : ∃ a n c, ov = .slice a n c := by obtain ⟨a, c, e, _⟩ := ro; exact ⟨_, _, _, e⟩
  clear hs rj ro h6 hd
  go_enter Try.func62, Try.ntmps62
  go_wp2_with (first
    | (
    go_at_call 45; refine (hu.out).mono ?_; rintro e w1 ⟨v1, rfl, hv1, hb1⟩
    have hb1' := Lib.hid hb1
    have hc := Lib.hid (canBeDone42' (s := ending c i) hloose.out hv1 hd'.out.symm)
    clear hv1 hb1)
    | (
    go_at_call 42; refine (hc.out).mono ?_; rintro e w2 ⟨rfl, hb2⟩
    have hb2' := Lib.hid (below_call hb1'.out hb2)
    clear hb2))
  go_ret
  exact ⟨rfl, hb2'.out⟩
end Go.Proofs.Ytjkbhdlbomcbeaa
