import Derived.Test.YtjkbhdlbomcbeaaPe
namespace Go.Proofs.Ytjkbhdlbomcbeaa
open Go.RowKit Go.Shelf Shf

/-- What `in` answers, given. -/
theorem in41d {w : World} {v a b : Int} {d : Bool} (hd : d = true ↔ a ≤ v ∧ v ≤ b) : Calls Try.prog 41 #[.int .i64 v, .int .i64 a, .int .i64 b] w fun e w' => e = .returned (.bool d) ∧ w = w' :=
  (in41 v a b).mono (fun e w' he => by
    have : (decide (a ≤ v) && decide (v ≤ b)) = d := by
      rw [Bool.eq_iff_iff, hd]; simp
    rw [this] at he; exact he)
set_option maxHeartbeats 8000000 in
set_option maxRecDepth 100000 in
theorem splitNo52 {w : World} {ge i : Nat} {s : Sh} {v pv : Value} {ns : List Nd} {sn : Nat → Bool} (hs : Loose s) (hv : ShF w ge v s) (hp : NdF w ge pv ns) (hS : SnR w ge ns.length sn) (hi : i < ns.length) (h5 : ns.length ≤ 100000) (hsn : sn i = false) (hk : (ns.getD i N0).k = 1) (hno : spB s ns.length i (ns.getD i N0) = false) :
    Calls Try.prog 52 #[v, pv, .int .i64 i, .slice (some ⟨ge, 0, none⟩) ns.length ns.length] w (RpEnd w ge ns.length (false, seeN sn i)) := by
  obtain ⟨ja, jc, oa, oc, rfl, rj, ro, fj, fo⟩ := hv
  obtain ⟨⟨pa, pc, rfl, hpc, hpat⟩, hpf⟩ := hp
  obtain ⟨n, hn⟩ : ∃ n, n = ns.length := ⟨_, rfl⟩
  obtain ⟨g, rfl, hg, n0, n1, n2, n3, n4, n5⟩ := hpat i hi
  have hgg : g ≠ ge := hpf g _ _ rfl
  obtain ⟨nj, hnj⟩ : ∃ nj, nj = s.js.length := ⟨_, rfl⟩
  obtain ⟨m, hm⟩ : ∃ m, m = (osI s).length := ⟨_, rfl⟩
  have hgew := hS.hgw
  have hb1 := below_alloc1 w (.cells #[.int .i64 s.P, .slice ja s.js.length jc, .slice oa (osI s).length oc] 25)
  have hS1 := hS.below hb1
  have s0 := hS1.seen i hi
  have f0 := hS1.fg i
  rw [hsn] at s0
  obtain ⟨⟨k, j, a, b, l, r⟩, hx⟩ : ∃ x, x = ns.getD i N0 := ⟨_, rfl⟩
  rw [← hx] at hk hno n0 n1 n2 n3 n4 n5
  try rw [← hx]
  simp only at hk hno n0 n1 n2 n3 n4 n5
  obtain ⟨W2, hW2⟩ : ∃ W2, W2 = (w.setCell ⟨ge, i, none⟩ (.bool true)).alloc (.cells #[.int .i64 s.P, .slice ja s.js.length jc, .slice oa (osI s).length oc] 25) := ⟨_, rfl⟩
  have hK2 : Kq ge w W2 := by rw [hW2]; exact (Kq.set ge i _ _).trans (Kq.of_below (below_alloc1 _ _))
  have hs2 : W2.heap.size = w.heap.size + 1 := by rw [hW2, World.size_alloc, World.size_setCell]
  have y0 := (hK2.cell hg hgg).trans n0
  have y1 := (hK2.cell hg hgg).trans n1
  have y2 := (hK2.cell hg hgg).trans n2
  have y3 := (hK2.cell hg hgg).trans n3
  have y4 := (hK2.cell hg hgg).trans n4
  have y5 := (hK2.cell hg hgg).trans n5
  have hS2 : SnR W2 ge ns.length (seeN sn i) := by rw [hW2]; exact (hS.see hi).below (below_alloc1 _ _)
  have z0 : W2.cell? ⟨w.heap.size, 0, none⟩ = some (.int .i64 s.P) := by rw [hW2, World.cell?_alloc_at (hn := by rw [World.size_setCell])]; rfl
  have z1 : W2.cell? ⟨w.heap.size, 1, none⟩ = some (.slice ja s.js.length jc) := by rw [hW2, World.cell?_alloc_at (hn := by rw [World.size_setCell])]; rfl
  have z2 : W2.cell? ⟨w.heap.size, 2, none⟩ = some (.slice oa (osI s).length oc) := by rw [hW2, World.cell?_alloc_at (hn := by rw [World.size_setCell])]; rfl
  obtain ⟨W, hW⟩ : ∃ W, W = W2.alloc (.cells #[.int .i64 k, .int .i64 j, .int .i64 a, .int .i64 b, .int .i64 l, .int .i64 r] 72) := ⟨_, rfl⟩
  have hbW : Below W2.heap.size W2 W := by rw [hW]; exact below_alloc1 _ _
  obtain ⟨m0, m1, m2, m3, m4, m5⟩ : W.cell? ⟨w.heap.size + 1, 0, none⟩ = some (.int .i64 k) ∧ W.cell? ⟨w.heap.size + 1, 1, none⟩ = some (.int .i64 j) ∧ W.cell? ⟨w.heap.size + 1, 2, none⟩ = some (.int .i64 a) ∧ W.cell? ⟨w.heap.size + 1, 3, none⟩ = some (.int .i64 b) ∧ W.cell? ⟨w.heap.size + 1, 4, none⟩ = some (.int .i64 l) ∧ W.cell? ⟨w.heap.size + 1, 5, none⟩ = some (.int .i64 r) := by
    rw [hW, ← hs2]; exact nd_new W2 _ _ _ _ _ _
  have u0 := (hbW.cell (p := ⟨w.heap.size, 0, none⟩) (by rw [hs2]; simp)).trans z0
  have u1 := (hbW.cell (p := ⟨w.heap.size, 1, none⟩) (by rw [hs2]; simp)).trans z1
  have u2 := (hbW.cell (p := ⟨w.heap.size, 2, none⟩) (by rw [hs2]; simp)).trans z2
  have hKW := hK2.trans (Kq.of_below hbW)
  have hSW := hS2.below hbW
  have hWs : W.heap.size = w.heap.size + 2 := by rw [hW]; simp [hs2]
  have hShW := Lib.hid (show ShV W (.agg #[.int .i64 s.P, .slice ja s.js.length jc, .slice oa (osI s).length oc]) s.P s.js (osI s) from ⟨_, _, rfl, rj.kp fj hKW, ro.kp fo hKW⟩)
  have hEnd := Lib.hid (fun (W' : World) (hb : Below W.heap.size W W') (d : Bool) => (show RpEnd w ge ns.length (d, seeN sn i) (.returned (.bool d)) W' from ⟨rfl, hSW.below hb, hKW.trans (Kq.of_below hb)⟩))
  have hin' : (i : Int) < (n : Int) := by omega
  have hge2 : ¬ (w.heap.size = ge) := by omega
  subst hk
  have hno' : ¬ (b = 0 ∧ (0 ≤ j ∧ j < (nj : Int)) ∧ ((i : Int) < l ∧ l < (n : Int)) ∧ ((i : Int) < r ∧ r < (n : Int)) ∧ (s.job j.toNat).f ≤ a ∧ a < lat (s.job j.toNat)) := fun h => by
    have : spB s ns.length i ⟨1, j, a, b, l, r⟩ = true := by
      rw [hnj, hn] at h
      unfold spB inL
      simp only [Bool.and_eq_true, decide_eq_true_eq, beq_iff_eq]
      exact h
    rw [this] at hno; cases hno
  clear hno
  have hno := hno'
  clear hno'
  obtain ⟨jv, ov, ev, rjW, roW⟩ := hShW.out
  obtain ⟨rfl, rfl⟩ : jv = .slice ja s.js.length jc ∧ ov = .slice oa (osI s).length oc := by cases ev; exact ⟨rfl, rfl⟩
  obtain ⟨jo, c2, eb, hjc, hjat⟩ := rjW.at
  obtain ⟨rfl, rfl⟩ : ja = jo ∧ jc = c2 := by cases eb; exact ⟨rfl, rfl⟩
  have h7 : nj ≤ 7 := by rw [hnj]; exact Nat.le_succ_of_le hs.num.2
  rw [← hn] at h5
  rw [← hnj] at hjc
  have hjobs := Lib.hid (fun (q : Nat) (hq : q < nj) => hs.jobs q (by rw [hnj] at hq; exact hq))
  have hrow := Lib.hid (fun (q : Nat) (hq : q < nj) => hjat q (by rw [hnj] at hq; exact hq))
  clear hjat
  rw [← hnj, ← hm] at s0 f0 hW2 hShW
  rw [← hnj] at u1
  rw [← hm] at u2
  rw [← hn] at hEnd hi
  rw [← hnj, ← hm, ← hn]
  clear rjW roW eb ev
  clear hpat hn hS hS1 hb1 n0 n1 n2 n3 n4 n5 z0 z1 z2 hpf hx hS2 hKW hSW hK2 hbW
  clear rj ro fj fo hs hnj hm hShW
  have sw1 : IntKind.i64.wrap ((nj : Int) - 1) = (nj : Int) - 1 := IntWalk.i64_in _ (by omega)
  have sw2 : IntKind.i64.wrap ((n : Int) - 1) = (n : Int) - 1 := IntWalk.i64_in _ (by omega)
  have sw3 : IntKind.i64.wrap ((i : Int) + 1) = (i : Int) + 1 := IntWalk.i64_in _ (by omega)
  go_enter Try.func52, Try.ntmps52
  go_upto_region 4 with fail
  rw [← hW2]
  clear hW2 s0 f0
  go_upto_region 5 with fail
  rw [← hW]
  clear hW y0 y1 y2 y3 y4 y5
  clear hge2 hin' hsn hgew hg hgg hpc hs2
  by_cases q1 : b ≠ 0
  · have e1 : (b != 0) = true := by simpa using q1
    clear hrow hjobs hno
    as_aux_lemma =>
    go_wp2_with (fail)
    go_ret
    exact hEnd.out _ (Below.refl _ _) false
  have q1 := Decidable.not_not.1 q1
  subst q1
  by_cases q2 : 0 ≤ j ∧ j < (nj : Int)
  · have hI1 := Lib.hid (fun (W' : World) => in41d (w := W') (v := j) (a := 0) (b := (nj : Int) - 1) (d := true) (by simp only [true_iff]; omega))
    by_cases q3 : (i : Int) < l ∧ l < (n : Int)
    · have hI2 := Lib.hid (fun (W' : World) => in41d (w := W') (v := l) (a := (i : Int) + 1) (b := (n : Int) - 1) (d := true) (by simp only [true_iff]; omega))
      by_cases q4 : (i : Int) < r ∧ r < (n : Int)
      · have hI3 := Lib.hid (fun (W' : World) => in41d (w := W') (v := r) (a := (i : Int) + 1) (b := (n : Int) - 1) (d := true) (by simp only [true_iff]; omega))
        obtain ⟨J, rfl⟩ : ∃ J : Nat, j = (J : Int) := ⟨j.toNat, by omega⟩
        have hJ : J < nj := by omega
        have hJi : (J : Int) < (nj : Int) := by omega
        obtain ⟨jg, rfl, hjg, p0, p1, p2, p3⟩ := hrow.out J hJ
        have hJJ := hjobs.out J hJ
        have e1 : (J : Int).toNat = J := by simp
        rw [e1] at hno
        rw [show s.js.getD J J0 = s.job J from rfl] at p0 p1 p2 p3
        obtain ⟨⟨f, t, l1, v⟩, hjj⟩ : ∃ y, y = s.job J := ⟨_, rfl⟩
        rw [← hjj] at hJJ p0 p1 p2 p3 hno
        unfold lat at hno
        simp only at hJJ p0 p1 p2 p3 hno
        have sw4 : IntKind.i64.wrap (t - l1) = t - l1 := IntWalk.i64_in _ (by omega)
        obtain ⟨W3, hW3⟩ : ∃ W3, W3 = W.alloc (.cells #[.int .i64 f, .int .i64 t, .int .i64 l1, .int .i64 v] 56) := ⟨_, rfl⟩
        have hb3 : Below W.heap.size W W3 := by rw [hW3]; exact below_alloc1 _ _
        have hE3 := Lib.hid (hEnd.out W3 hb3 false)
        clear hb3 hW3
        by_cases q5 : f ≤ a
        · have q6 : ¬ a < t - l1 := fun h => hno ⟨trivial, ⟨by omega, by omega⟩, q3, q4, q5, h⟩
          have d1 : decide (a < f) = false := by simp; omega
          have d2 : decide (t - l1 ≤ a) = true := by simp; omega
          clear hrow hjobs hno hjj
          as_aux_lemma =>
          go_wp2_with (first | (go_at_call 41; refine (hI1.out _).mono ?_; clear hI1; rintro e w2 ⟨rfl, rfl⟩) | (go_at_call 41; refine (hI2.out _).mono ?_; clear hI2; rintro e w2 ⟨rfl, rfl⟩) | (go_at_call 41; refine (hI3.out _).mono ?_; clear hI3; rintro e w2 ⟨rfl, rfl⟩))
          go_ret
          exact hEnd.out _ (below_alloc1 _ _) false
        · have d1 : decide (a < f) = true := by simp; omega
          clear hrow hjobs hno hjj
          as_aux_lemma =>
          go_wp2_with (first | (go_at_call 41; refine (hI1.out _).mono ?_; clear hI1; rintro e w2 ⟨rfl, rfl⟩) | (go_at_call 41; refine (hI2.out _).mono ?_; clear hI2; rintro e w2 ⟨rfl, rfl⟩) | (go_at_call 41; refine (hI3.out _).mono ?_; clear hI3; rintro e w2 ⟨rfl, rfl⟩))
          go_ret
          exact hEnd.out _ (below_alloc1 _ _) false
      · have hI3 := Lib.hid (fun (W' : World) => in41d (w := W') (v := r) (a := (i : Int) + 1) (b := (n : Int) - 1) (d := false) (by simp only [Bool.false_eq_true, false_iff]; omega))
        clear hrow hjobs hno
        as_aux_lemma =>
        go_wp2_with (first | (go_at_call 41; refine (hI1.out _).mono ?_; clear hI1; rintro e w2 ⟨rfl, rfl⟩) | (go_at_call 41; refine (hI2.out _).mono ?_; clear hI2; rintro e w2 ⟨rfl, rfl⟩) | (go_at_call 41; refine (hI3.out _).mono ?_; clear hI3; rintro e w2 ⟨rfl, rfl⟩))
        go_ret
        exact hEnd.out _ (Below.refl _ _) false
    · have hI2 := Lib.hid (fun (W' : World) => in41d (w := W') (v := l) (a := (i : Int) + 1) (b := (n : Int) - 1) (d := false) (by simp only [Bool.false_eq_true, false_iff]; omega))
      clear hrow hjobs hno
      as_aux_lemma =>
      go_wp2_with (first | (go_at_call 41; refine (hI1.out _).mono ?_; clear hI1; rintro e w2 ⟨rfl, rfl⟩) | (go_at_call 41; refine (hI2.out _).mono ?_; clear hI2; rintro e w2 ⟨rfl, rfl⟩))
      go_ret
      exact hEnd.out _ (Below.refl _ _) false
  · have hI1 := Lib.hid (fun (W' : World) => in41d (w := W') (v := j) (a := 0) (b := (nj : Int) - 1) (d := false) (by simp only [Bool.false_eq_true, false_iff]; omega))
    clear hrow hjobs hno
    as_aux_lemma =>
    go_wp2_with (first | (go_at_call 41; refine (hI1.out _).mono ?_; clear hI1; rintro e w2 ⟨rfl, rfl⟩))
    go_ret
    exact hEnd.out _ (Below.refl _ _) false
end Go.Proofs.Ytjkbhdlbomcbeaa
