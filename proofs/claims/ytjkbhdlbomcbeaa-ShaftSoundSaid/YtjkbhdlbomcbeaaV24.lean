import Derived.Test.YtjkbhdlbomcbeaaV19
import Derived.Test.YtjkbhdlbomcbeaaV20
import Derived.Test.YtjkbhdlbomcbeaaV2
import Derived.Test.YtjkbhdlbomcbeaaV5
import Derived.Test.YtjkbhdlbomcbeaaV13
namespace Go.Proofs.Ytjkbhdlbomcbeaa
open Go.RowKit Go.Shelf Shf

/-- What `in` answers, given. -/
theorem in41d {w : World} {v a b : Int} {d : Bool} (hd : d = true ↔ a ≤ v ∧ v ≤ b) : Calls Try.prog 41 #[.int .i64 v, .int .i64 a, .int .i64 b] w fun e w' => e = .returned (.bool d) ∧ w = w' :=
  (in41 v a b).mono (fun e w' he => by
    have : (decide (a ≤ v) && decide (v ≤ b)) = d := by
      rw [Bool.eq_iff_iff, hd]; simp
    rw [this] at he; exact he)
set_option maxHeartbeats 8000000 in
set_option maxRecDepth 100000 in
theorem splitNo52 {w : World} {ge i : Nat} {s : Sh} {v pv : Value} {ns : List Nd} {sn : Nat → Bool} (hs : Loose s) (hv : ShF w ge v s) (hp : NdF w ge pv ns) (hS : SnR w ge ns.length sn) (hi : i < ns.length) (h5 : ns.length ≤ 100000) (hsn : sn i = false) (hk : (ns.getD i N0).k = 1) (hno : spB s ns.length i (ns.getD i N0) = false) :
    Calls Try.prog 52 #[v, pv, .int .i64 i, .slice (some ⟨ge, 0, none⟩) ns.length ns.length] w (RpEnd w ge ns.length (false, seeN sn i)) := by
  obtain ⟨ja, jc, oa, oc, rfl, rj, ro, fj, fo⟩ := hv
  obtain ⟨⟨pa, pc, rfl, hpc, hpat⟩, hpf⟩ := hp
  obtain ⟨n, hn⟩ : ∃ n, n = ns.length := ⟨_, rfl⟩
  obtain ⟨g, rfl, hg, n0, n1, n2, n3, n4, n5⟩ := hpat i hi
  have hgg : g ≠ ge := hpf g _ _ rfl
  obtain ⟨nj, hnj⟩ : ∃ nj, nj = s.js.length := ⟨_, rfl⟩
  obtain ⟨m, hm⟩ : ∃ m, m = (osI s).length := ⟨_, rfl⟩
  have hgew := hS.hgw
  have hb1 := below_alloc1 w (.cells #[.int .i64 s.P, .slice ja s.js.length jc, .slice oa (osI s).length oc] 25)
  have hS1 := hS.below hb1
  have s0 := hS1.seen i hi
  have f0 := hS1.fg i
  rw [hsn] at s0
  obtain ⟨⟨k, j, a, b, l, r⟩, hx⟩ : ∃ x, x = ns.getD i N0 := ⟨_, rfl⟩
  rw [← hx] at hk hno n0 n1 n2 n3 n4 n5
  try rw [← hx]
  simp only at hk hno n0 n1 n2 n3 n4 n5
  obtain ⟨W2, hW2⟩ : ∃ W2, W2 = (w.setCell ⟨ge, i, none⟩ (.bool true)).alloc (.cells #[.int .i64 s.P, .slice ja s.js.length jc, .slice oa (osI s).length oc] 25) := ⟨_, rfl⟩
  have hK2 : Kq ge w W2 := by rw [hW2]; exact (Kq.set ge i _ _).trans (Kq.of_below (below_alloc1 _ _))
  have hs2 : W2.heap.size = w.heap.size + 1 := by rw [hW2, World.size_alloc, World.size_setCell]
  have y0 := (hK2.cell hg hgg).trans n0
  have y1 := (hK2.cell hg hgg).trans n1
  have y2 := (hK2.cell hg hgg).trans n2
  have y3 := (hK2.cell hg hgg).trans n3
  have y4 := (hK2.cell hg hgg).trans n4
  have y5 := (hK2.cell hg hgg).trans n5
  have hS2 : SnR W2 ge ns.length (seeN sn i) := by rw [hW2]; exact (hS.see hi).below (below_alloc1 _ _)
  have z0 : W2.cell? ⟨w.heap.size, 0, none⟩ = some (.int .i64 s.P) := by rw [hW2, World.cell?_alloc_at (hn := by rw [World.size_setCell])]; rfl
  have z1 : W2.cell? ⟨w.heap.size, 1, none⟩ = some (.slice ja s.js.length jc) := by rw [hW2, World.cell?_alloc_at (hn := by rw [World.size_setCell])]; rfl
  have z2 : W2.cell? ⟨w.heap.size, 2, none⟩ = some (.slice oa (osI s).length oc) := by rw [hW2, World.cell?_alloc_at (hn := by rw [World.size_setCell])]; rfl
  obtain ⟨W, hW⟩ : ∃ W, W = W2.alloc (.cells #[.int .i64 k, .int .i64 j, .int .i64 a, .int .i64 b, .int .i64 l, .int .i64 r] 72) := ⟨_, rfl⟩
  have hbW : Below W2.heap.size W2 W := by rw [hW]; exact below_alloc1 _ _
  obtain ⟨m0, m1, m2, m3, m4, m5⟩ : W.cell? ⟨w.heap.size + 1, 0, none⟩ = some (.int .i64 k) ∧ W.cell? ⟨w.heap.size + 1, 1, none⟩ = some (.int .i64 j) ∧ W.cell? ⟨w.heap.size + 1, 2, none⟩ = some (.int .i64 a) ∧ W.cell? ⟨w.heap.size + 1, 3, none⟩ = some (.int .i64 b) ∧ W.cell? ⟨w.heap.size + 1, 4, none⟩ = some (.int .i64 l) ∧ W.cell? ⟨w.heap.size + 1, 5, none⟩ = some (.int .i64 r) := by
    rw [hW, ← hs2]; exact nd_new W2 _ _ _ _ _ _
  have u0 := (hbW.cell (p := ⟨w.heap.size, 0, none⟩) (by rw [hs2]; simp)).trans z0
  have u1 := (hbW.cell (p := ⟨w.heap.size, 1, none⟩) (by rw [hs2]; simp)).trans z1
  have u2 := (hbW.cell (p := ⟨w.heap.size, 2, none⟩) (by rw [hs2]; simp)).trans z2
  have hKW := hK2.trans (Kq.of_below hbW)
  have hSW := hS2.below hbW
  have hWs : W.heap.size = w.heap.size + 2 := by rw [hW]; simp [hs2]
  have hShW := Lib.hid (show ShV W (.agg #[.int .i64 s.P, .slice ja s.js.length jc, .slice oa (osI s).length oc]) s.P s.js (osI s) from ⟨_, _, rfl, rj.kp fj hKW, ro.kp fo hKW⟩)
  have hEnd := Lib.hid (fun (W' : World) (hb : Below W.heap.size W W') (d : Bool) => (show RpEnd w ge ns.length (d, seeN sn i) (.returned (.bool d)) W' from ⟨rfl, hSW.below hb, hKW.trans (Kq.of_below hb)⟩))
  have hin' : (i : Int) < (n : Int) := by omega
  have hge2 : ¬ (w.heap.size = ge) := by omega
  subst hk
  have hno' : ¬ (b = 0 ∧ (0 ≤ j ∧ j < (nj : Int)) ∧ ((i : Int) < l ∧ l < (n : Int)) ∧ ((i : Int) < r ∧ r < (n : Int)) ∧ (s.job j.toNat).f ≤ a ∧ a < lat (s.job j.toNat)) := fun h => by
    have : spB s ns.length i ⟨1, j, a, b, l, r⟩ = true := by
      rw [hnj, hn] at h
      unfold spB inL
      simp only [Bool.and_eq_true, decide_eq_true_eq, beq_iff_eq]
      exact h
    rw [this] at hno; cases hno
  clear hno
  have hno := hno'
  clear hno'
  obtain ⟨jv, ov, ev, rjW, roW⟩ := hShW.out
  obtain ⟨rfl, rfl⟩ : jv = .slice ja s.js.length jc ∧ ov = .slice oa (osI s).length oc := by cases ev; exact ⟨rfl, rfl⟩
  obtain ⟨jo, c2, eb, hjc, hjat⟩ := rjW.at
  obtain ⟨rfl, rfl⟩ : ja = jo ∧ jc = c2 := by cases eb; exact ⟨rfl, rfl⟩
  have h7 : nj ≤ 7 := by rw [hnj]; exact Nat.le_succ_of_le hs.num.2
  rw [← hn] at h5
  rw [← hnj] at hjc
  have hjobs := Lib.hid (fun (q : Nat) (hq : q < nj) => hs.jobs q (by rw [hnj] at hq; exact hq))
  have hrow := Lib.hid (fun (q : Nat) (hq : q < nj) => hjat q (by rw [hnj] at hq; exact hq))
  clear hjat
  rw [← hnj, ← hm] at s0 f0 hW2 hShW
  rw [← hnj] at u1
  rw [← hm] at u2
  rw [← hn] at hEnd hi
  rw [← hnj, ← hm, ← hn]
  clear rjW roW eb ev
  clear hpat hn hS hS1 hb1 n0 n1 n2 n3 n4 n5 z0 z1 z2 hpf hx hS2 hKW hSW hK2 hbW
  clear rj ro fj fo hs hnj hm hShW
  have sw1 : IntKind.i64.wrap ((nj : Int) - 1) = (nj : Int) - 1 := IntWalk.i64_in _ (by omega)
  have sw2 : IntKind.i64.wrap ((n : Int) - 1) = (n : Int) - 1 := IntWalk.i64_in _ (by omega)
  have sw3 : IntKind.i64.wrap ((i : Int) + 1) = (i : Int) + 1 := IntWalk.i64_in _ (by omega)
  go_enter Try.func52, Try.ntmps52
  go_upto_region 4 with fail
  rw [← hW2]
  clear hW2 s0 f0
  go_upto_region 5 with fail
  rw [← hW]
  clear hW y0 y1 y2 y3 y4 y5
  clear hge2 hin' hsn hgew hg hgg hpc hs2
  by_cases q1 : b ≠ 0
  · have e1 : (b != 0) = true := by simpa using q1
    clear hrow hjobs hno
    as_aux_lemma =>
    go_wp2_with (fail)
    go_ret
    exact hEnd.out _ (Below.refl _ _) false
  have q1 := Decidable.not_not.1 q1
  subst q1
  by_cases q2 : 0 ≤ j ∧ j < (nj : Int)
  · have hI1 := Lib.hid (fun (W' : World) => in41d (w := W') (v := j) (a := 0) (b := (nj : Int) - 1) (d := true) (by simp only [true_iff]; omega))
    by_cases q3 : (i : Int) < l ∧ l < (n : Int)
    · have hI2 := Lib.hid (fun (W' : World) => in41d (w := W') (v := l) (a := (i : Int) + 1) (b := (n : Int) - 1) (d := true) (by simp only [true_iff]; omega))
      by_cases q4 : (i : Int) < r ∧ r < (n : Int)
      · have hI3 := Lib.hid (fun (W' : World) => in41d (w := W') (v := r) (a := (i : Int) + 1) (b := (n : Int) - 1) (d := true) (by simp only [true_iff]; omega))
        obtain ⟨J, rfl⟩ : ∃ J : Nat, j = (J : Int) := ⟨j.toNat, by omega⟩
        have hJ : J < nj := by omega
        have hJi : (J : Int) < (nj : Int) := by omega
        obtain ⟨jg, rfl, hjg, p0, p1, p2, p3⟩ := hrow.out J hJ
        have hJJ := hjobs.out J hJ
        have e1 : (J : Int).toNat = J := by simp
        rw [e1] at hno
        rw [show s.js.getD J J0 = s.job J from rfl] at p0 p1 p2 p3
        obtain ⟨⟨f, t, l1, v⟩, hjj⟩ : ∃ y, y = s.job J := ⟨_, rfl⟩
        rw [← hjj] at hJJ p0 p1 p2 p3 hno
        unfold lat at hno
        simp only at hJJ p0 p1 p2 p3 hno
        have sw4 : IntKind.i64.wrap (t - l1) = t - l1 := IntWalk.i64_in _ (by omega)
        obtain ⟨W3, hW3⟩ : ∃ W3, W3 = W.alloc (.cells #[.int .i64 f, .int .i64 t, .int .i64 l1, .int .i64 v] 56) := ⟨_, rfl⟩
        have hb3 : Below W.heap.size W W3 := by rw [hW3]; exact below_alloc1 _ _
        have hE3 := Lib.hid (hEnd.out W3 hb3 false)
        clear hb3 hW3
        by_cases q5 : f ≤ a
        · have q6 : ¬ a < t - l1 := fun h => hno ⟨trivial, ⟨by omega, by omega⟩, q3, q4, q5, h⟩
          have d1 : decide (a < f) = false := by simp; omega
          have d2 : decide (t - l1 ≤ a) = true := by simp; omega
          clear hrow hjobs hno hjj
          as_aux_lemma =>
          go_wp2_with (first | (go_at_call 41; refine (hI1.out _).mono ?_; clear hI1; rintro e w2 ⟨rfl, rfl⟩) | (go_at_call 41; refine (hI2.out _).mono ?_; clear hI2; rintro e w2 ⟨rfl, rfl⟩) | (go_at_call 41; refine (hI3.out _).mono ?_; clear hI3; rintro e w2 ⟨rfl, rfl⟩))
          go_ret
          exact hEnd.out _ (below_alloc1 _ _) false
        · have d1 : decide (a < f) = true := by simp; omega
          clear hrow hjobs hno hjj
          as_aux_lemma =>
          go_wp2_with (first | (go_at_call 41; refine (hI1.out _).mono ?_; clear hI1; rintro e w2 ⟨rfl, rfl⟩) | (go_at_call 41; refine (hI2.out _).mono ?_; clear hI2; rintro e w2 ⟨rfl, rfl⟩) | (go_at_call 41; refine (hI3.out _).mono ?_; clear hI3; rintro e w2 ⟨rfl, rfl⟩))
          go_ret
          exact hEnd.out _ (below_alloc1 _ _) false
      · have hI3 := Lib.hid (fun (W' : World) => in41d (w := W') (v := r) (a := (i : Int) + 1) (b := (n : Int) - 1) (d := false) (by simp only [Bool.false_eq_true, false_iff]; omega))
        clear hrow hjobs hno
        as_aux_lemma =>
        go_wp2_with (first | (go_at_call 41; refine (hI1.out _).mono ?_; clear hI1; rintro e w2 ⟨rfl, rfl⟩) | (go_at_call 41; refine (hI2.out _).mono ?_; clear hI2; rintro e w2 ⟨rfl, rfl⟩) | (go_at_call 41; refine (hI3.out _).mono ?_; clear hI3; rintro e w2 ⟨rfl, rfl⟩))
        go_ret
        exact hEnd.out _ (Below.refl _ _) false
    · have hI2 := Lib.hid (fun (W' : World) => in41d (w := W') (v := l) (a := (i : Int) + 1) (b := (n : Int) - 1) (d := false) (by simp only [Bool.false_eq_true, false_iff]; omega))
      clear hrow hjobs hno
      as_aux_lemma =>
      go_wp2_with (first | (go_at_call 41; refine (hI1.out _).mono ?_; clear hI1; rintro e w2 ⟨rfl, rfl⟩) | (go_at_call 41; refine (hI2.out _).mono ?_; clear hI2; rintro e w2 ⟨rfl, rfl⟩))
      go_ret
      exact hEnd.out _ (Below.refl _ _) false
  · have hI1 := Lib.hid (fun (W' : World) => in41d (w := W') (v := j) (a := 0) (b := (nj : Int) - 1) (d := false) (by simp only [Bool.false_eq_true, false_iff]; omega))
    clear hrow hjobs hno
    as_aux_lemma =>
    go_wp2_with (first | (go_at_call 41; refine (hI1.out _).mono ?_; clear hI1; rintro e w2 ⟨rfl, rfl⟩))
    go_ret
    exact hEnd.out _ (Below.refl _ _) false
end Go.Proofs.Ytjkbhdlbomcbeaa

namespace Go.Proofs.Ytjkbhdlbomcbeaa
open Go.RowKit Go.Shelf Shf

/-- append of jobs to an empty row: the new row is a new block. -/
theorem run_app_lit {w : World} {g m : Nat} {ty : TypeId} {x : Value} {js : List J} (hm : m = js.length) (hx : FlatR w 4 x m (flat encJ js)) (hne : js ≠ []) (hlen : m ≤ 1000000) :
    ∃ c w', (Builtin.append_ #[22, 22] ty #[.slice (some ⟨g, 0, none⟩) 0 0, x]).run Try.prog w = .ok (.slice (some ⟨w.heap.size, 0, none⟩) m c) w' ∧ OwnJ w' w.heap.size (.slice (some ⟨w.heap.size, 0, none⟩) m c) js ∧ Below w.heap.size w w' ∧ w.heap.size < w'.heap.size := by
  obtain ⟨iJ, hiJ, hJ0, hJ1, hJ2⟩ := info_parts info56
  have hpos : m ≠ 0 := fun h => hne (List.length_eq_zero_iff.1 (by omega))
  obtain ⟨h0, ao, c, rfl, hc, hnone, hcl⟩ := hx
  obtain ⟨gx, o, rfl, hg, hcell⟩ := hcl hpos
  have hr := run_append_grow (P := Try.prog) w 22 ty 56 iJ _ Try.underlying22 hiJ hJ0 ⟨g, 0, none⟩ 0 0 [] (by simp) (by simp) ⟨gx, o, none⟩ m c (flat encJ js) (by rw [h0, hJ1]) (fun j v hj => by
    rw [show (⟨gx, o, none⟩ : Addr).add j = ⟨gx, o + j, none⟩ from by simp [Addr.add]]
    exact hcell j v hj) (by omega) (by omega) (growslice_fits (by omega) (by rw [hJ2]; omega))
  have hge := grownCap_ge w (0 + m) 0 56
  have hcm := grownCap_le_maxLen w (0 + m) 0 56 (by unfold maxLen; omega)
  simp only [Nat.zero_add] at hr hge hcm
  refine ⟨_, _, hr, ?_, ((Below.refl _ _).drew.alloc (Nat.le_refl _) _), by simp⟩
  refine ⟨by rw [h0, hm], .inr ⟨w.heap.size, _, _, by rw [hm], Nat.le_refl _, heap_alloc_new w.drew _, by omega, hcm, ?_, ?_⟩⟩
  · simp only [Array.size_append, List.size_toArray, size_zeroCells, List.length_nil, h0]
    show 0 + m * 4 + (grownCap w m 0 56 - m) * 4 = grownCap w m 0 56 * 4
    omega
  · simp only [Array.toList_append, List.nil_append]
    rw [← hm, ← h0]
    exact List.take_left
theorem step_lit {ops : Array Oper} {o : Oper} {a : Act} {w : World} {K : Act → World → Prop} {Q : Exit → Act → World → Prop} {E : Prop} {g m : Nat} (hg : o.guard = none) (s x : Operand) (hop : o.op = Op.call { callee := Callee.builtin Builtin.append, args := #[s, x], argTypes := #[22, 22] })
    {xv : Value} {js : List J} (hs : a.eval s = .slice (some ⟨g, 0, none⟩) 0 0) (hxv : a.eval x = xv) (hm : m = js.length) (hx : FlatR w 4 xv m (flat encJ js)) (hne : js ≠ []) (hlen : m ≤ 1000000)
    (hK : ∀ c w', OwnJ w' w.heap.size (.slice (some ⟨w.heap.size, 0, none⟩) m c) js → Below w.heap.size w w' → w.heap.size < w'.heap.size → K (a.put o.dst (.slice (some ⟨w.heap.size, 0, none⟩) m c)) w') :
    if Region.wanted o (yielded ops a.tmps) = true then Oper.wp Try.prog o a w K Q else E := by
  have hw : Region.wanted o (yielded ops a.tmps) = true := by simp [Region.wanted, hg]
  rw [if_pos hw]
  obtain ⟨c, w', hrun, r1, r2, r3⟩ := run_app_lit (ty := o.type) (g := g) hm hx hne hlen
  unfold Oper.wp
  simp [execOp, hop, resolve, invoke, builtin, hs, hxv, hrun, Result.andThen]
  exact hK c w' r1 r2 r3

/-- Two shafts stand at `A` and `B`, each with three cells, and rows of jobs grow for them, in whatever order. -/
structure T2 (W0 : World) (lim A B : Nat) (ja jb : List J) (ca cb : List Value) (a b : Option (Nat × Nat)) (w : World) : Prop where
  low : Below W0.heap.size W0 w
  hA : W0.heap.size ≤ A ∧ A < lim
  hB : W0.heap.size ≤ B ∧ B < lim
  hl : lim ≤ w.heap.size
  hne : A ≠ B
  fA : ∀ k, w.frozen? ⟨A, k, none⟩ = false
  fB : ∀ k, w.frozen? ⟨B, k, none⟩ = false
  xA : ∀ k, k < 3 → w.cell? ⟨A, k, none⟩ = ca[k]?
  xB : ∀ k, k < 3 → w.cell? ⟨B, k, none⟩ = cb[k]?
  rA : ∀ g c, a = some (g, c) → g < w.heap.size ∧ lim ≤ g ∧ OwnJ w lim (.slice (some ⟨g, 0, none⟩) ja.length c) ja
  rB : ∀ g c, b = some (g, c) → g < w.heap.size ∧ lim ≤ g ∧ OwnJ w lim (.slice (some ⟨g, 0, none⟩) jb.length c) jb
  dis : ∀ g c g' c', a = some (g, c) → b = some (g', c') → g ≠ g'
section
variable {W0 w w' : World} {lim A B : Nat} {ja jb : List J} {ca cb : List Value} {a b : Option (Nat × Nat)}
theorem T2.swap (h : T2 W0 lim A B ja jb ca cb a b w) : T2 W0 lim B A jb ja cb ca b a w :=
  ⟨h.low, h.hB, h.hA, h.hl, h.hne.symm, h.fB, h.fA, h.xB, h.xA, h.rB, h.rA, fun g c g' c' e1 e2 e => h.dis g' c' g c e2 e1 e.symm⟩
theorem T2.keep (h : T2 W0 lim A B ja jb ca cb a b w) (k : Below w.heap.size w w') : T2 W0 lim A B ja jb ca cb a b w' :=
  ⟨h.low.trans (k.mono h.low.size), h.hA, h.hB, Nat.le_trans h.hl k.size, h.hne, fun i => (k.frozen (p := ⟨A, i, none⟩) (Nat.lt_of_lt_of_le h.hA.2 h.hl)).trans (h.fA i), fun i => (k.frozen (p := ⟨B, i, none⟩) (Nat.lt_of_lt_of_le h.hB.2 h.hl)).trans (h.fB i),
    fun i hi => (k.cell (p := ⟨A, i, none⟩) (Nat.lt_of_lt_of_le h.hA.2 h.hl)).trans (h.xA i hi), fun i hi => (k.cell (p := ⟨B, i, none⟩) (Nat.lt_of_lt_of_le h.hB.2 h.hl)).trans (h.xB i hi),
    fun g c e => ⟨Nat.lt_of_lt_of_le (h.rA g c e).1 k.size, (h.rA g c e).2.1, (h.rA g c e).2.2.below k⟩, fun g c e => ⟨Nat.lt_of_lt_of_le (h.rB g c e).1 k.size, (h.rB g c e).2.1, (h.rB g c e).2.2.below k⟩, h.dis⟩
theorem T2.app {m c : Nat} (h : T2 W0 lim A B ja jb ca cb none b w) (hm : m = ja.length) (ho : OwnJ w' w.heap.size (.slice (some ⟨w.heap.size, 0, none⟩) m c) ja) (k : Below w.heap.size w w') (hs : w.heap.size < w'.heap.size) : T2 W0 lim A B ja jb ca cb (some (w.heap.size, c)) b w' := by
  have h' := h.keep k
  subst hm
  refine ⟨h'.low, h'.hA, h'.hB, h'.hl, h'.hne, h'.fA, h'.fB, h'.xA, h'.xB, fun g c' e => ?_, h'.rB, fun g c1 g' c' e e2 => ?_⟩
  · cases e
    exact ⟨hs, h.hl, own_base ho h.hl⟩
  · cases e
    have := (h.rB g' c' e2).1
    omega
theorem T2.set {p q r : Value} (h : T2 W0 lim A B ja jb [p, q, r] cb a b w) (u : Value) : T2 W0 lim A B ja jb [p, u, r] cb a b (w.setCell ⟨A, 1, none⟩ u) := by
  have hsz : (w.setCell ⟨A, 1, none⟩ u).heap.size = w.heap.size := World.size_setCell _ _ _
  refine ⟨below_set h.low h.hA.1, h.hA, h.hB, by rw [hsz]; exact h.hl, h.hne, fun k => by rw [World.frozen?_setCell]; exact h.fA k, fun k => by rw [World.frozen?_setCell]; exact h.fB k, fun k hk => ?_, fun k hk => ?_,
    fun g c e => ⟨by rw [hsz]; exact (h.rA g c e).1, (h.rA g c e).2.1, ownsRow_setCell_below (h.rA g c e).2.2 (by show A < _; exact h.hA.2) _⟩, fun g c e => ⟨by rw [hsz]; exact (h.rB g c e).1, (h.rB g c e).2.1, ownsRow_setCell_below (h.rB g c e).2.2 (by show A < _; exact h.hA.2) _⟩, h.dis⟩
  · by_cases e : k = 1
    · subst e
      rw [World.cell?_setCell_same' _ _ _ (by rw [h.xA 1 (by omega)]; rfl)]
      rfl
    · rw [World.cell?_setCell_other _ _ _ _ (by intro e2; exact e (congrArg Addr.off e2).symm), h.xA k hk]
      match k, hk, e with
      | 0, _, _ => rfl
      | 2, _, _ => rfl
  · rw [World.cell?_setCell_other _ _ _ _ (by intro e; exact h.hne (congrArg Addr.block e)), h.xB k hk]
end
theorem own_set_far {w : World} {B e z n g g' k c : Nat} {xs : List Value} {u : Value} (h : w.ownsRow B e z (.slice (some ⟨g', 0, none⟩) n c) n xs) (hne : g' ≠ g) : (w.setCell ⟨g, k, none⟩ u).ownsRow B e z (.slice (some ⟨g', 0, none⟩) n c) n xs := by
  refine ⟨h.1, ?_⟩
  rcases h.2 with ⟨e1, h0⟩ | ⟨g2, cap, cur, e2, hB, hg, r⟩
  · cases e1
  · refine .inr ⟨g2, cap, cur, e2, hB, ?_, r⟩
    have : g2 = g' := by injection e2 with e2; injection e2 with e2; injection e2 with e2 _; exact e2.symm
    subst this
    rw [Below.heap_setCell w ⟨g, k, none⟩ u g2 hne]; exact hg
section
variable {W0 w w' : World} {lim A B : Nat} {ja jb : List J} {ca cb : List Value} {b : Option (Nat × Nat)}
theorem T2.cells {g c : Nat} (h : T2 W0 lim A B ja jb ca cb (some (g, c)) b w) {i : Nat} (hi : i < ja.length) : (∀ j, w.frozen? ⟨g, j, none⟩ = false) ∧ w.cell? ⟨g, i * 4, none⟩ = some (.int .i64 (ja.getD i J0).f) ∧ w.cell? ⟨g, i * 4 + 1, none⟩ = some (.int .i64 (ja.getD i J0).t) ∧ ja.length ≤ c := by
  obtain ⟨h1, h2, h3⟩ := h.rA g c rfl
  obtain ⟨g', c', e, q1, q2, q3, q4, q5, _⟩ := h3.parts (by intro e; rw [e] at hi; simp at hi)
  obtain ⟨rfl, rfl⟩ : g = g' ∧ c = c' := by injection e with e1 _ e2; injection e1 with e1; injection e1 with e1 _; exact ⟨e1, e2⟩
  exact ⟨q4, (q5 i hi).1, (q5 i hi).2.1, q1⟩
theorem T2.put {g c : Nat} (h : T2 W0 lim A B ja jb ca cb (some (g, c)) b w) {i : Nat} (hi : i < ja.length) (y : Int) :
    T2 W0 lim A B (ja.set i { ja.getD i J0 with t := y }) jb ca cb (some (g, c)) b (w.setCell ⟨g, i * 4 + 1, none⟩ (.int .i64 y)) ∧ T2 W0 lim A B (ja.set i { ja.getD i J0 with f := y }) jb ca cb (some (g, c)) b (w.setCell ⟨g, i * 4, none⟩ (.int .i64 y)) := by
  obtain ⟨h1, h2, h3⟩ := h.rA g c rfl
  obtain ⟨g', c', e, q1, q2, q3, q4, q5, q6, q7⟩ := h3.parts (by intro e; rw [e] at hi; simp at hi)
  obtain ⟨rfl, rfl⟩ : g = g' ∧ c = c' := by injection e with e1 _ e2; injection e1 with e1; injection e1 with e1 _; exact ⟨e1, e2⟩
  have hgA : A ≠ g := by have := h.hA.2; omega
  have hgB : B ≠ g := by have := h.hB.2; omega
  have main : ∀ k v js', OwnJ (w.setCell ⟨g, k, none⟩ v) lim (.slice (some ⟨g, 0, none⟩) ja.length c) js' → js'.length = ja.length → T2 W0 lim A B js' jb ca cb (some (g, c)) b (w.setCell ⟨g, k, none⟩ v) := by
    intro k v js' ho hl
    have hsz : (w.setCell ⟨g, k, none⟩ v).heap.size = w.heap.size := World.size_setCell _ _ _
    refine ⟨below_set h.low (by show W0.heap.size ≤ g; have := h.hA; omega), h.hA, h.hB, by rw [hsz]; exact h.hl, h.hne, fun k => by rw [World.frozen?_setCell]; exact h.fA k, fun k => by rw [World.frozen?_setCell]; exact h.fB k, fun k hk => ?_, fun k hk => ?_, fun g2 c2 e => ?_, fun g2 c2 e => ?_, h.dis⟩
    · rw [World.cell?_setCell_other _ _ _ _ (by intro e; exact hgA (congrArg Addr.block e).symm)]; exact h.xA k hk
    · rw [World.cell?_setCell_other _ _ _ _ (by intro e; exact hgB (congrArg Addr.block e).symm)]; exact h.xB k hk
    · cases e
      exact ⟨by rw [hsz]; exact h1, h2, by rw [hl]; exact ho⟩
    · obtain ⟨k1, k2, k3⟩ := h.rB g2 c2 e
      exact ⟨by rw [hsz]; exact k1, k2, own_set_far k3 (h.dis g c g2 c2 rfl e).symm⟩
  exact ⟨main _ _ _ (q7 i y hi) (by simp), main _ _ _ (q6 i y hi) (by simp)⟩
end

theorem cell_lt {w : World} {g k : Nat} {v : Value} (h : w.cell? ⟨g, k, none⟩ = some v) : g < w.heap.size :=
  Nat.lt_of_not_le fun hc => by
    have : w.heap[g]? = none := Array.getElem?_eq_none hc
    simp [World.cell?, this] at h
theorem T2.start {W0 V : World} {A B : Nat} {ja jb : List J} {x y z x' y' z' : Value} (h1 : W0.heap.size ≤ A) (h2 : W0.heap.size ≤ B) (hne : A ≠ B) (hb : Below W0.heap.size W0 V) (hA : ∀ k, k < 3 → V.cell? ⟨A, k, none⟩ = [x, y, z][k]?) (hB : ∀ k, k < 3 → V.cell? ⟨B, k, none⟩ = [x', y', z'][k]?)
    (fA : ∀ k, V.frozen? ⟨A, k, none⟩ = false) (fB : ∀ k, V.frozen? ⟨B, k, none⟩ = false) : T2 W0 V.heap.size A B ja jb [x, y, z] [x', y', z'] none none V :=
  ⟨hb, ⟨h1, cell_lt (hA 0 (by omega))⟩, ⟨h2, cell_lt (hB 0 (by omega))⟩, Nat.le_refl _, hne, fA, fB, hA, hB, fun _ _ e => by (cases e), fun _ _ e => by (cases e), fun _ _ _ _ e => by (cases e)⟩
theorem reads_flat {w : World} {v : Value} {js : List J} (h : ReadsJ w v js) (hne : js ≠ []) : FlatR w 4 v js.length (flat encJ js) := by
  obtain ⟨ao, c, rfl, hc, h⟩ := h
  obtain ⟨g, rfl, hg, hcl⟩ := h hne
  refine ⟨flat_len encJ_len js, some ⟨g, 0, none⟩, c, rfl, hc, fun e => (by cases e), fun _ => ⟨g, 0, rfl, hg, fun j u hj => ?_⟩⟩
  rw [Nat.zero_add]; exact hcl j u hj
end Go.Proofs.Ytjkbhdlbomcbeaa
