import Derived.Test.YtjkbhdlbomcbeaaV24
namespace Go.Proofs.Ytjkbhdlbomcbeaa
open Go.RowKit Go.Shelf Shf

theorem till_js (s : Sh) (i : Nat) (a lg : Int) (h : (s.job i).l = lg) : (till s i a).js = s.js.set i { s.js.getD i J0 with t := a + lg } := by subst h; rfl
theorem later_js (s : Sh) (i : Nat) (a : Int) : (later s i a).js = s.js.set i { s.js.getD i J0 with f := a + 1 } := rfl
/-- A shaft whose jobs lie in a row of one's own, its orders where they were. -/
theorem shf_own {w : World} {ge B g c n : Nat} {s t : Sh} {oa : Option Addr} {m oc : Nat} {js : List J} (hP : t.P = s.P) (ho : t.os = s.os) (hj : t.js = js) (hn : n = js.length) (hm : m = (osI s).length) (h : OwnJ w B (.slice (some ⟨g, 0, none⟩) js.length c) js) (hg : g ≠ ge) (hro : ReadsO w (.slice oa m oc) (osI s)) (fo : ∀ g, oa = some ⟨g, 0, none⟩ → g ≠ ge) :
    ShF w ge (.agg #[.int .i64 s.P, .slice (some ⟨g, 0, none⟩) n c, .slice oa m oc]) t := by
  have e : osI t = osI s := by unfold osI; rw [ho]
  subst hn hm
  refine ⟨some ⟨g, 0, none⟩, c, oa, oc, by rw [hP, hj, e], by rw [hj]; exact h.reads, by rw [e]; exact hro, fun g' e2 => ?_, fo⟩
  injection e2 with e2; injection e2 with e2
  rw [← e2]; exact hg
theorem new25 (W V : World) (hV : V = ((W.alloc (.cells #[.int .i64 0, .slice none 0 0, .slice none 0 0] 25)).alloc (.cells #[.int .i64 0, .slice none 0 0, .slice none 0 0] 25)).drew) :
    (∀ k, k < 3 → V.cell? ⟨W.heap.size, k, none⟩ = [.int .i64 0, .slice none 0 0, .slice none 0 0][k]?) ∧ (∀ k, k < 3 → V.cell? ⟨W.heap.size + 1, k, none⟩ = [.int .i64 0, .slice none 0 0, .slice none 0 0][k]?) ∧ (∀ k, V.frozen? ⟨W.heap.size, k, none⟩ = false) ∧ (∀ k, V.frozen? ⟨W.heap.size + 1, k, none⟩ = false) ∧ Below W.heap.size W V := by
  subst hV
  obtain ⟨W1, h1⟩ : ∃ W1, W1 = W.alloc (.cells #[.int .i64 0, .slice none 0 0, .slice none 0 0] 25) := ⟨_, rfl⟩
  have hs1 : W1.heap.size = W.heap.size + 1 := by rw [h1]; simp
  have hb1 : Below W.heap.size W W1 := by rw [h1]; exact below_alloc1 _ _
  have hb2 : Below W1.heap.size W1 (W1.alloc (.cells #[.int .i64 0, .slice none 0 0, .slice none 0 0] 25)).drew := (below_alloc1 W1 _).drew
  have hc : ∀ (X : World) (k : Nat), k < 3 → (X.alloc (.cells #[.int .i64 0, .slice none 0 0, .slice none 0 0] 25)).cell? ⟨X.heap.size, k, none⟩ = [.int .i64 0, .slice none 0 0, .slice none 0 0][k]? := fun X k hk => by
    rw [World.cell?_alloc_at (hn := rfl)]
    rcases k with _ | _ | _ | k
    · rfl
    · rfl
    · rfl
    · omega
  rw [← h1]
  refine ⟨fun k hk => ?_, fun k hk => ?_, fun k => ?_, fun k => ?_, below_call hb1 hb2⟩
  · rw [hb2.cell (p := ⟨W.heap.size, k, none⟩) (by show W.heap.size < _; omega), h1]; exact hc W k hk
  · rw [← hs1]; exact hc W1 k hk
  · rw [hb2.frozen (p := ⟨W.heap.size, k, none⟩) (by show W.heap.size < _; omega), h1]; exact alloc_fz _ _ _ _
  · rw [← hs1]; exact alloc_fz W1 _ _ _
/-- Two blocks of three cells, stored one after the other. -/
theorem set25 {V : World} {A B : Nat} (hne : A ≠ B) {z : List Value} (hz : z.length = 3) (hA : ∀ k, k < 3 → V.cell? ⟨A, k, none⟩ = z[k]?) (hB : ∀ k, k < 3 → V.cell? ⟨B, k, none⟩ = z[k]?) (a b c : Value) :
    (∀ k, k < 3 → (V.setCells A 0 [a, b, c]).cell? ⟨B, k, none⟩ = z[k]?) ∧ (∀ k, k < 3 → ((V.setCells A 0 [a, b, c]).setCells B 0 [a, b, c]).cell? ⟨A, k, none⟩ = [a, b, c][k]?) ∧ (∀ k, k < 3 → ((V.setCells A 0 [a, b, c]).setCells B 0 [a, b, c]).cell? ⟨B, k, none⟩ = [a, b, c][k]?) := by
  have h1 : ∀ k, k < 3 → (V.setCells A 0 [a, b, c]).cell? ⟨B, k, none⟩ = z[k]? := fun k hk => by
    rw [World.cell?_setCells_out A _ 0 V ⟨B, k, none⟩ (fun h _ => absurd h.symm hne)]; exact hB k hk
  refine ⟨h1, fun k hk => ?_, fun k hk => ?_⟩
  · rw [World.cell?_setCells_out B _ 0 _ ⟨A, k, none⟩ (fun h _ => absurd h hne)]
    have := World.cell?_setCells_in A [a, b, c] 0 V (fun i hi => by rw [Nat.zero_add, hA i hi, List.getElem?_eq_getElem (by rw [hz]; exact hi)]; rfl) k hk
    rw [Nat.zero_add] at this
    rw [this, List.getElem?_eq_getElem hk]
  · have := World.cell?_setCells_in B [a, b, c] 0 (V.setCells A 0 [a, b, c]) (fun i hi => by rw [Nat.zero_add, h1 i hi, List.getElem?_eq_getElem (by rw [hz]; exact hi)]; rfl) k hk
    rw [Nat.zero_add] at this
    rw [this, List.getElem?_eq_getElem hk]
set_option maxHeartbeats 8000000 in
set_option maxRecDepth 100000 in
theorem splitYes52 {w : World} {ge i : Nat} {s : Sh} {v pv : Value} {ns : List Nd} {sn : Nat → Bool} (hs : Loose s) (hv : ShF w ge v s) (hp : NdF w ge pv ns) (hS : SnR w ge ns.length sn) (hi : i < ns.length) (h5 : ns.length ≤ 100000) (hsn : sn i = false) (hk : (ns.getD i N0).k = 1) (hno : spB s ns.length i (ns.getD i N0) = true) {pL pR : Bool × (Nat → Bool)}
    (hl : ∀ (W9 : World) (v9 : Value), ShF W9 ge v9 (till s (ns.getD i N0).j.toNat (ns.getD i N0).a) → NdF W9 ge pv ns → SnR W9 ge ns.length (seeN sn i) → Calls Try.prog 52 #[v9, pv, .int .i64 (ns.getD i N0).l, .slice (some ⟨ge, 0, none⟩) ns.length ns.length] W9 (RpEnd W9 ge ns.length pL))
    (hr : pL.1 = true → ∀ (W9 : World) (v9 : Value), ShF W9 ge v9 (later s (ns.getD i N0).j.toNat (ns.getD i N0).a) → NdF W9 ge pv ns → SnR W9 ge ns.length pL.2 → Calls Try.prog 52 #[v9, pv, .int .i64 (ns.getD i N0).r, .slice (some ⟨ge, 0, none⟩) ns.length ns.length] W9 (RpEnd W9 ge ns.length pR)) :
    Calls Try.prog 52 #[v, pv, .int .i64 i, .slice (some ⟨ge, 0, none⟩) ns.length ns.length] w (RpEnd w ge ns.length (if pL.1 then pR else (false, pL.2))) := by
  have hNd := Lib.hid (fun (W9 : World) (hk : Kq ge w W9) => hp.kp hk)
  obtain ⟨ja, jc, oa, oc, rfl, rj, ro, fj, fo⟩ := hv
  obtain ⟨⟨pa, pc, rfl, hpc, hpat⟩, hpf⟩ := hp
  obtain ⟨n, hn⟩ : ∃ n, n = ns.length := ⟨_, rfl⟩
  obtain ⟨g, rfl, hg, n0, n1, n2, n3, n4, n5⟩ := hpat i hi
  have hgg : g ≠ ge := hpf g _ _ rfl
  obtain ⟨nj, hnj⟩ : ∃ nj, nj = s.js.length := ⟨_, rfl⟩
  obtain ⟨m, hm⟩ : ∃ m, m = (osI s).length := ⟨_, rfl⟩
  have hgew := hS.hgw
  have hb1 := below_alloc1 w (.cells #[.int .i64 s.P, .slice ja s.js.length jc, .slice oa (osI s).length oc] 25)
  have hS1 := hS.below hb1
  have s0 := hS1.seen i hi
  have f0 := hS1.fg i
  rw [hsn] at s0
  obtain ⟨⟨k, j, a, b, l, r⟩, hx⟩ : ∃ x, x = ns.getD i N0 := ⟨_, rfl⟩
  rw [← hx] at hk hno hl hr n0 n1 n2 n3 n4 n5
  try rw [← hx]
  simp only at hk hl hr n0 n1 n2 n3 n4 n5
  obtain ⟨W2, hW2⟩ : ∃ W2, W2 = (w.setCell ⟨ge, i, none⟩ (.bool true)).alloc (.cells #[.int .i64 s.P, .slice ja s.js.length jc, .slice oa (osI s).length oc] 25) := ⟨_, rfl⟩
  have hK2 : Kq ge w W2 := by rw [hW2]; exact (Kq.set ge i _ _).trans (Kq.of_below (below_alloc1 _ _))
  have hs2 : W2.heap.size = w.heap.size + 1 := by rw [hW2, World.size_alloc, World.size_setCell]
  have y0 := (hK2.cell hg hgg).trans n0
  have y1 := (hK2.cell hg hgg).trans n1
  have y2 := (hK2.cell hg hgg).trans n2
  have y3 := (hK2.cell hg hgg).trans n3
  have y4 := (hK2.cell hg hgg).trans n4
  have y5 := (hK2.cell hg hgg).trans n5
  have hS2 : SnR W2 ge ns.length (seeN sn i) := by rw [hW2]; exact (hS.see hi).below (below_alloc1 _ _)
  have z0 : W2.cell? ⟨w.heap.size, 0, none⟩ = some (.int .i64 s.P) := by rw [hW2, World.cell?_alloc_at (hn := by rw [World.size_setCell])]; rfl
  have z1 : W2.cell? ⟨w.heap.size, 1, none⟩ = some (.slice ja s.js.length jc) := by rw [hW2, World.cell?_alloc_at (hn := by rw [World.size_setCell])]; rfl
  have z2 : W2.cell? ⟨w.heap.size, 2, none⟩ = some (.slice oa (osI s).length oc) := by rw [hW2, World.cell?_alloc_at (hn := by rw [World.size_setCell])]; rfl
  obtain ⟨W, hW⟩ : ∃ W, W = W2.alloc (.cells #[.int .i64 k, .int .i64 j, .int .i64 a, .int .i64 b, .int .i64 l, .int .i64 r] 72) := ⟨_, rfl⟩
  have hbW : Below W2.heap.size W2 W := by rw [hW]; exact below_alloc1 _ _
  obtain ⟨m0, m1, m2, m3, m4, m5⟩ : W.cell? ⟨w.heap.size + 1, 0, none⟩ = some (.int .i64 k) ∧ W.cell? ⟨w.heap.size + 1, 1, none⟩ = some (.int .i64 j) ∧ W.cell? ⟨w.heap.size + 1, 2, none⟩ = some (.int .i64 a) ∧ W.cell? ⟨w.heap.size + 1, 3, none⟩ = some (.int .i64 b) ∧ W.cell? ⟨w.heap.size + 1, 4, none⟩ = some (.int .i64 l) ∧ W.cell? ⟨w.heap.size + 1, 5, none⟩ = some (.int .i64 r) := by
    rw [hW, ← hs2]; exact nd_new W2 _ _ _ _ _ _
  have u0 := (hbW.cell (p := ⟨w.heap.size, 0, none⟩) (by rw [hs2]; simp)).trans z0
  have u1 := (hbW.cell (p := ⟨w.heap.size, 1, none⟩) (by rw [hs2]; simp)).trans z1
  have u2 := (hbW.cell (p := ⟨w.heap.size, 2, none⟩) (by rw [hs2]; simp)).trans z2
  have hKW := hK2.trans (Kq.of_below hbW)
  have hSW := hS2.below hbW
  have hWs : W.heap.size = w.heap.size + 2 := by rw [hW]; simp [hs2]
  have hShW := Lib.hid (show ShV W (.agg #[.int .i64 s.P, .slice ja s.js.length jc, .slice oa (osI s).length oc]) s.P s.js (osI s) from ⟨_, _, rfl, rj.kp fj hKW, ro.kp fo hKW⟩)
  have hEnd := Lib.hid (fun (W' : World) (hb : Below W.heap.size W W') (d : Bool) => (show RpEnd w ge ns.length (d, seeN sn i) (.returned (.bool d)) W' from ⟨rfl, hSW.below hb, hKW.trans (Kq.of_below hb)⟩))
  have hin' : (i : Int) < (n : Int) := by omega
  have hge2 : ¬ (w.heap.size = ge) := by omega
  subst hk
  have hno' := hno
  unfold spB inL at hno'
  simp only [Bool.and_eq_true, decide_eq_true_eq, beq_iff_eq] at hno'
  clear hno
  obtain ⟨rfl, ⟨j0, j1⟩, ⟨l0, l1⟩, ⟨r0, r1⟩, fa, ta⟩ := hno'
  obtain ⟨J, rfl⟩ : ∃ J : Nat, j = (J : Int) := ⟨j.toNat, by omega⟩
  have hJs : J < s.n := by omega
  have eJ : (J : Int).toNat = J := by simp
  rw [eJ] at fa ta hl hr
  obtain ⟨jv, ov, ev, rjW, roW⟩ := hShW.out
  obtain ⟨rfl, rfl⟩ : jv = .slice ja s.js.length jc ∧ ov = .slice oa (osI s).length oc := by cases ev; exact ⟨rfl, rfl⟩
  obtain ⟨jo, c2, eb, hjc, hjat⟩ := rjW.at
  obtain ⟨rfl, rfl⟩ : ja = jo ∧ jc = c2 := by cases eb; exact ⟨rfl, rfl⟩
  have h7 : nj ≤ 7 := by rw [hnj]; exact Nat.le_succ_of_le hs.num.2
  rw [← hn] at h5
  rw [← hnj] at hjc
  have hjobs := Lib.hid (fun (q : Nat) (hq : q < nj) => hs.jobs q (by rw [hnj] at hq; exact hq))
  have hrow := Lib.hid (fun (q : Nat) (hq : q < nj) => hjat q (by rw [hnj] at hq; exact hq))
  clear hjat
  have hJ : J < nj := by rw [hnj]; exact hJs
  have hJi : (J : Int) < (nj : Int) := by omega
  obtain ⟨jg, rfl, hjg, p0, p1, p2, p3⟩ := hrow.out J hJ
  have hJJ := hjobs.out J hJ
  rw [show s.js.getD J J0 = s.job J from rfl] at p0 p1 p2 p3
  obtain ⟨⟨f, t, lg, pv⟩, hjj⟩ : ∃ y, y = s.job J := ⟨_, rfl⟩
  rw [← hjj] at hJJ p0 p1 p2 p3 fa ta
  unfold lat at ta
  simp only at hJJ p0 p1 p2 p3 fa ta
  obtain ⟨W3, hW3⟩ : ∃ W3, W3 = W.alloc (.cells #[.int .i64 f, .int .i64 t, .int .i64 lg, .int .i64 pv] 56) := ⟨_, rfl⟩
  have hb3 : Below W.heap.size W W3 := by rw [hW3]; exact below_alloc1 _ _
  have hs3 : W3.heap.size = w.heap.size + 3 := by rw [hW3]; simp [hWs]
  have U0 := (hb3.cell (p := ⟨w.heap.size, 0, none⟩) (by show w.heap.size < _; omega)).trans u0
  have U1 := (hb3.cell (p := ⟨w.heap.size, 1, none⟩) (by show w.heap.size < _; omega)).trans u1
  have U2 := (hb3.cell (p := ⟨w.heap.size, 2, none⟩) (by show w.heap.size < _; omega)).trans u2
  rw [← hnj] at U1
  rw [← hm] at U2
  have N1 := (hb3.cell (p := ⟨w.heap.size + 1, 1, none⟩) (by show w.heap.size + 1 < _; omega)).trans m1
  have N2 := (hb3.cell (p := ⟨w.heap.size + 1, 2, none⟩) (by show w.heap.size + 1 < _; omega)).trans m2
  have N4 := (hb3.cell (p := ⟨w.heap.size + 1, 4, none⟩) (by show w.heap.size + 1 < _; omega)).trans m4
  have N5 := (hb3.cell (p := ⟨w.heap.size + 1, 5, none⟩) (by show w.heap.size + 1 < _; omega)).trans m5
  have L2 : W3.cell? ⟨w.heap.size + 2, 2, none⟩ = some (.int .i64 lg) := by rw [hW3, ← hWs, World.cell?_alloc_at (hn := rfl)]; rfl
  have hN1 := Lib.hid N1
  have hN2 := Lib.hid N2
  have hN4 := Lib.hid N4
  have hN5 := Lib.hid N5
  have hL2 := Lib.hid L2
  clear N1 N2 N4 N5 L2
  have hjl : (s.job J).l = lg := by rw [← hjj]
  have hne : s.js ≠ [] := fun e => by rw [e] at hnj; simp at hnj; omega
  have hnj6 := Lib.hid (show nj ≤ 1000000 by omega)
  have hJs' := Lib.hid (show J < s.js.length by omega)
  have hlen6 := Lib.hid (show n = ns.length from hn)
  have sa5 : IntKind.i64.wrap (a + lg) = a + lg := IntWalk.i64_in _ (by omega)
  have sa6 : IntKind.i64.wrap (a + 1) = a + 1 := IntWalk.i64_in _ (by omega)
  have hs5 := Lib.hid sa5
  have hs6 := Lib.hid sa6
  clear sa5 sa6
  have d1 : decide (a < f) = false := by simp; omega
  have d2 : decide (t - lg ≤ a) = false := by simp; omega
  rw [← hn] at l1 r1
  rw [← hnj, ← hm] at s0 f0 hW2 hShW
  rw [← hnj] at u1
  rw [← hm] at u2
  rw [← hn] at hEnd hi
  rw [← hnj, ← hm, ← hn]
  clear rjW roW eb ev
  clear hpat hn hS hS1 hb1 n0 n1 n2 n3 n4 n5 z0 z1 z2 hpf hx hS2 hK2 hbW
  clear hs hShW
  have sw1 : IntKind.i64.wrap ((nj : Int) - 1) = (nj : Int) - 1 := IntWalk.i64_in _ (by omega)
  have sw2 : IntKind.i64.wrap ((n : Int) - 1) = (n : Int) - 1 := IntWalk.i64_in _ (by omega)
  have sw3 : IntKind.i64.wrap ((i : Int) + 1) = (i : Int) + 1 := IntWalk.i64_in _ (by omega)
  have sw4 : IntKind.i64.wrap (t - lg) = t - lg := IntWalk.i64_in _ (by omega)
  have hI1 := Lib.hid (fun (W' : World) => in41d (w := W') (v := (J : Int)) (a := 0) (b := (nj : Int) - 1) (d := true) (by simp only [true_iff]; omega))
  have hI2 := Lib.hid (fun (W' : World) => in41d (w := W') (v := l) (a := (i : Int) + 1) (b := (n : Int) - 1) (d := true) (by simp only [true_iff]; omega))
  have hI3 := Lib.hid (fun (W' : World) => in41d (w := W') (v := r) (a := (i : Int) + 1) (b := (n : Int) - 1) (d := true) (by simp only [true_iff]; omega))
  have hKW' := Lib.hid hKW
  have hgew' := Lib.hid hgew
  have hNd' := Lib.hid (fun (W' : World) (hb : Below W.heap.size W W') => hNd.out W' (hKW.trans (Kq.of_below hb)))
  have hfl := Lib.hid (fun (W' : World) (hb : Below W3.heap.size W3 W') => (show FlatR W' 4 (.slice (some ⟨jg, 0, none⟩) nj jc) nj (flat encJ s.js) from by have := reads_flat (((rj.kp fj hKW).below hb3).below hb) hne; rw [← hnj] at this; exact this))
  have hRo := Lib.hid (fun (W' : World) (hb : Below W3.heap.size W3 W') => (show ReadsO W' (.slice oa m oc) (osI s) from by have := ((ro.kp fo hKW).below hb3).below hb; rw [← hm] at this; exact this))
  have hne' := Lib.hid hne
  have hlc := Lib.hid hl
  have hrc := Lib.hid hr
  have hjl' := Lib.hid hjl
  have hs3' := Lib.hid hs3
  clear hNd hl hr hjl hne
  have hSW' := Lib.hid hSW
  have hrj := Lib.hid rj
  have hro := Lib.hid ro
  have hnj' := Lib.hid hnj
  have hm' := Lib.hid hm
  have hjj' := Lib.hid hjj
  have hfj := Lib.hid fj
  have hfo := Lib.hid fo
  have hb3' := Lib.hid hb3
  clear hKW hSW rj ro hnj hm hjj fj fo hb3 eJ hJs
  go_enter Try.func52, Try.ntmps52
  go_upto_region 4 with fail
  rw [← hW2]
  clear hW2 s0 f0
  go_upto_region 5 with fail
  rw [← hW]
  clear hW y0 y1 y2 y3 y4 y5
  clear hge2 hin' hsn hgew hg hgg hpc hs2
  go_upto_region 20 with (first | (go_at_call 41; refine (hI1.out _).mono ?_; clear hI1; rintro e w2 ⟨rfl, rfl⟩) | (go_at_call 41; refine (hI2.out _).mono ?_; clear hI2; rintro e w2 ⟨rfl, rfl⟩) | (go_at_call 41; refine (hI3.out _).mono ?_; clear hI3; rintro e w2 ⟨rfl, rfl⟩))
  rw [← hW3]
  clear hW3 d1 d2 sw1 sw2 sw3 sw4 p0 p1 p2 p3
  go_cut [14, 15] from 14 to 236 (fun av bv wx => ∃ (A B : Nat) (V : World), V = wx ∧ av = .pointer (some ⟨A, 0, none⟩) ∧ bv = .pointer (some ⟨B, 0, none⟩) ∧ Hid (W3.heap.size ≤ A ∧ W3.heap.size ≤ B ∧ A ≠ B ∧ Below W3.heap.size W3 V ∧
    (∀ k, k < 3 → V.cell? ⟨A, k, none⟩ = [.int .i64 s.P, .slice (some ⟨jg, 0, none⟩) nj jc, .slice oa m oc][k]?) ∧ (∀ k, k < 3 → V.cell? ⟨B, k, none⟩ = [.int .i64 s.P, .slice (some ⟨jg, 0, none⟩) nj jc, .slice oa m oc][k]?) ∧ (∀ k, V.frozen? ⟨A, k, none⟩ = false) ∧ (∀ k, V.frozen? ⟨B, k, none⟩ = false)))
  case first =>
    as_aux_lemma =>
    refine wp_region_noPanic ?_
    refine wp_region_any (by kernel_rfl) (wpAny_of_held (S := fun w' => Below W3.heap.size W3 w') _ _ _ _ ?_)
    have hHeld : Below W3.heap.size W3 W3.drew := (Below.refl _ _).drew
    change wpAnyH _ _ _ _ _ _ _ _ W3.drew
    simp only [List.size_toArray, List.length_cons, List.length_nil, Nat.reduceAdd, Array.replicate_succ, Array.replicate_zero, List.push_toArray, List.nil_append, List.cons_append]
    have hBz := Lib.hid (show w.heap.size < W3.heap.size by omega)
    clear m1 m2 m3 m4 m5 u0 u1 u2
    refine wpAnyH_take (i := 0) (v := .agg #[.int .i64 s.P, .slice (some ⟨jg, 0, none⟩) nj jc, .slice oa m oc]) rfl (by as_aux_lemma => kernel_rfl) (by as_aux_lemma => kernel_rfl) (by as_aux_lemma => kernel_rfl) (fun _ _ _ h => h) (Or.inl ⟨by rfl, ?_⟩) hHeld ?_
    · intro w' hSw; have c0 := (hSw.cell (p := ⟨w.heap.size, 0, none⟩) hBz.out).trans U0; have c1 := (hSw.cell (p := ⟨w.heap.size, 1, none⟩) hBz.out).trans U1; have c2 := (hSw.cell (p := ⟨w.heap.size, 2, none⟩) hBz.out).trans U2; go_simp
    simp only [Act.put, List.setIfInBounds_toArray, List.set_cons_zero, List.set_cons_succ, List.getElem_toArray, List.getElem_cons_zero]
    refine wpAnyH_take (i := 1) (v := .agg #[.int .i64 s.P, .slice (some ⟨jg, 0, none⟩) nj jc, .slice oa m oc]) rfl (by as_aux_lemma => kernel_rfl) (by as_aux_lemma => kernel_rfl) (by as_aux_lemma => kernel_rfl) (fun _ _ _ h => h) (Or.inl ⟨by rfl, ?_⟩) hHeld ?_
    · intro w' hSw; have c0 := (hSw.cell (p := ⟨w.heap.size, 0, none⟩) hBz.out).trans U0; have c1 := (hSw.cell (p := ⟨w.heap.size, 1, none⟩) hBz.out).trans U1; have c2 := (hSw.cell (p := ⟨w.heap.size, 2, none⟩) hBz.out).trans U2; go_simp
    simp only [Act.put, List.setIfInBounds_toArray, List.set_cons_zero, List.set_cons_succ, List.getElem_toArray, List.getElem_cons_succ, List.getElem_cons_zero]
    clear U0 U1 U2
    refine wpAnyH_ready (rs := [2, 3]) (by kernel_rfl) (by simp) ?_
    refine AllReadyH.cons rfl (fun K hK => ?_) (AllReadyH.cons rfl (fun K hK => ?_) AllReadyH.nil)
    · go_simp
      refine hK.out _ _ (hHeld.alloc (Nat.le_refl _) _) (fun hHeld => ?_)
      clear hK K
      simp only [List.setIfInBounds_toArray, List.set_cons_zero, List.set_cons_succ]
      refine wpAnyH_ready (rs := [3]) (by kernel_rfl) (by simp) ?_
      refine AllReadyH.cons rfl (fun K hK => ?_) AllReadyH.nil
      go_simp
      refine hK.out _ _ (hHeld.alloc (by simp) _) (fun hHeld => ?_)
      clear hK K
      simp only [List.setIfInBounds_toArray, List.set_cons_zero, List.set_cons_succ]
      clear hHeld
      obtain ⟨V, hV⟩ : ∃ V, V = ((W3.alloc (.cells #[.int .i64 0, .slice none 0 0, .slice none 0 0] 25)).alloc (.cells #[.int .i64 0, .slice none 0 0, .slice none 0 0] 25)).drew := ⟨_, rfl⟩
      obtain ⟨xA, xB, fA, fB, hHeld⟩ := new25 W3 V hV
      rw [← hV]
      rw [hs3] at xA xB fA fB
      obtain ⟨Bb, hBb⟩ : ∃ Bb, Bb = w.heap.size + 3 + 1 := ⟨_, rfl⟩
      try rw [← hBb]
      try rw [show w.heap.size + 4 = Bb by omega]
      rw [← hBb] at xB fB
      obtain ⟨Ab, hAb⟩ : ∃ Ab, Ab = w.heap.size + 3 := ⟨_, rfl⟩
      rw [← hAb] at xA fA ⊢
      have hAB : Ab ≠ Bb := by omega
      have hA3 : W3.heap.size ≤ Ab := by omega
      have hB3 : W3.heap.size ≤ Bb := by omega
      obtain ⟨y1, y2, y3⟩ := set25 hAB rfl xA xB (.int .i64 s.P) (.slice (some ⟨jg, 0, none⟩) nj jc) (.slice oa m oc)
      have a0 : V.cell? ⟨Ab, 0, none⟩ = some (.int .i64 0) := xA 0 (by omega)
      have g0 := fA 0
      have a1 : V.cell? ⟨Ab, 1, none⟩ = some (.slice none 0 0) := xA 1 (by omega)
      have g1 := fA 1
      have a2 : V.cell? ⟨Ab, 2, none⟩ = some (.slice none 0 0) := xA 2 (by omega)
      have g2 := fA 2
      refine wpAnyH_ready (rs := [4]) (by kernel_rfl) (by simp) ?_
      refine AllReadyH.cons rfl (fun K hK => ?_) AllReadyH.nil
      have hH2 := Lib.hid (below_setC (g := Ab) hA3 [.int .i64 s.P, .slice (some ⟨jg, 0, none⟩) nj jc, .slice oa m oc] 0 V hHeld)
      have hH3 := Lib.hid (below_setC (g := Bb) hB3 [.int .i64 s.P, .slice (some ⟨jg, 0, none⟩) nj jc, .slice oa m oc] 0 _ hH2.out)
      have y1' := Lib.hid y1
      have y2' := Lib.hid y2
      have y3' := Lib.hid y3
      have fz := Lib.hid fB
      have fz1 := Lib.hid fA
      have hAB' := Lib.hid hAB
      have hA3' := Lib.hid hA3
      have hB3' := Lib.hid hB3
      clear y1 y2 y3 hV xA xB fA fB hHeld hAb hBb hA3 hB3
      go_simp
      refine hK.out _ _ hH2.out (fun hHeld => ?_)
      clear hK K a0 a1 a2 g0 g1 g2
      simp only [List.setIfInBounds_toArray, List.set_cons_zero, List.set_cons_succ]
      obtain ⟨V1, hV1⟩ : ∃ V1, V1 = (((V.setCell ⟨Ab, 0, none⟩ (.int .i64 s.P)).setCell ⟨Ab, 1, none⟩ (.slice (some ⟨jg, 0, none⟩) nj jc)).setCell ⟨Ab, 2, none⟩ (.slice oa m oc)) := ⟨_, rfl⟩
      rw [← hV1] at hHeld ⊢
      have a0 : V1.cell? ⟨Bb, 0, none⟩ = some (.int .i64 0) := by rw [hV1]; exact y1'.out 0 (by omega)
      have g0 : V1.frozen? ⟨Bb, 0, none⟩ = false := by rw [hV1]; simp only [World.frozen?_setCell]; exact fz.out 0
      have a1 : V1.cell? ⟨Bb, 1, none⟩ = some (.slice none 0 0) := by rw [hV1]; exact y1'.out 1 (by omega)
      have g1 : V1.frozen? ⟨Bb, 1, none⟩ = false := by rw [hV1]; simp only [World.frozen?_setCell]; exact fz.out 1
      have a2 : V1.cell? ⟨Bb, 2, none⟩ = some (.slice none 0 0) := by rw [hV1]; exact y1'.out 2 (by omega)
      have g2 : V1.frozen? ⟨Bb, 2, none⟩ = false := by rw [hV1]; simp only [World.frozen?_setCell]; exact fz.out 2
      refine wpAnyH_ready (rs := [5]) (by kernel_rfl) (by simp) ?_
      refine AllReadyH.cons rfl (fun K hK => ?_) AllReadyH.nil
      have hV1' := Lib.hid hV1
      clear hV1 hHeld
      go_simp
      refine hK.out _ _ (by rw [hV1'.out]; exact hH3.out) (fun hHeld => ?_)
      clear hK K a0 a1 a2 g0 g1 g2
      simp only [List.setIfInBounds_toArray, List.set_cons_zero, List.set_cons_succ]
      obtain ⟨V2, hV2⟩ : ∃ V2, V2 = (((V1.setCell ⟨Bb, 0, none⟩ (.int .i64 s.P)).setCell ⟨Bb, 1, none⟩ (.slice (some ⟨jg, 0, none⟩) nj jc)).setCell ⟨Bb, 2, none⟩ (.slice oa m oc)) := ⟨_, rfl⟩
      rw [← hV2] at hHeld ⊢
      have hfin := Lib.hid (show W3.heap.size ≤ Ab ∧ W3.heap.size ≤ Bb ∧ Ab ≠ Bb ∧ Below W3.heap.size W3 V2 ∧ (∀ k, k < 3 → V2.cell? ⟨Ab, k, none⟩ = [.int .i64 s.P, .slice (some ⟨jg, 0, none⟩) nj jc, .slice oa m oc][k]?) ∧ (∀ k, k < 3 → V2.cell? ⟨Bb, k, none⟩ = [.int .i64 s.P, .slice (some ⟨jg, 0, none⟩) nj jc, .slice oa m oc][k]?) ∧ (∀ k, V2.frozen? ⟨Ab, k, none⟩ = false) ∧ (∀ k, V2.frozen? ⟨Bb, k, none⟩ = false) from ⟨hA3'.out, hB3'.out, hAB'.out, hHeld, fun k hk => by rw [hV2, hV1'.out]; exact y2'.out k hk, fun k hk => by rw [hV2, hV1'.out]; exact y3'.out k hk, fun k => by rw [hV2]; simp only [World.frozen?_setCell]; rw [hV1'.out]; simp only [World.frozen?_setCell]; exact fz1.out k, fun k => by rw [hV2]; simp only [World.frozen?_setCell]; rw [hV1'.out]; simp only [World.frozen?_setCell]; exact fz.out k⟩)
      clear hV2 hHeld
      refine wpAnyH_done (by kernel_rfl) ?_ _
      refine NoPanic.normal ?_
      go_wp2_with fail
      go_meet
      exact ⟨_, _, _, rfl, rfl, rfl, hfin⟩
    · go_simp
      refine hK.out _ _ (hHeld.alloc (Nat.le_refl _) _) (fun hHeld => ?_)
      clear hK K
      simp only [List.setIfInBounds_toArray, List.set_cons_zero, List.set_cons_succ]
      refine wpAnyH_ready (rs := [2]) (by kernel_rfl) (by simp) ?_
      refine AllReadyH.cons rfl (fun K hK => ?_) AllReadyH.nil
      go_simp
      refine hK.out _ _ (hHeld.alloc (by simp) _) (fun hHeld => ?_)
      clear hK K
      simp only [List.setIfInBounds_toArray, List.set_cons_zero, List.set_cons_succ]
      clear hHeld
      obtain ⟨V, hV⟩ : ∃ V, V = ((W3.alloc (.cells #[.int .i64 0, .slice none 0 0, .slice none 0 0] 25)).alloc (.cells #[.int .i64 0, .slice none 0 0, .slice none 0 0] 25)).drew := ⟨_, rfl⟩
      obtain ⟨xA, xB, fA, fB, hHeld⟩ := new25 W3 V hV
      rw [← hV]
      rw [hs3] at xA xB fA fB
      obtain ⟨Bb, hBb⟩ : ∃ Bb, Bb = w.heap.size + 3 + 1 := ⟨_, rfl⟩
      try rw [← hBb]
      try rw [show w.heap.size + 4 = Bb by omega]
      rw [← hBb] at xB fB
      obtain ⟨Ab, hAb⟩ : ∃ Ab, Ab = w.heap.size + 3 := ⟨_, rfl⟩
      rw [← hAb] at xA fA ⊢
      have hAB : Ab ≠ Bb := by omega
      have hA3 : W3.heap.size ≤ Ab := by omega
      have hB3 : W3.heap.size ≤ Bb := by omega
      obtain ⟨y1, y2, y3⟩ := set25 hAB.symm rfl xB xA (.int .i64 s.P) (.slice (some ⟨jg, 0, none⟩) nj jc) (.slice oa m oc)
      have a0 : V.cell? ⟨Bb, 0, none⟩ = some (.int .i64 0) := xB 0 (by omega)
      have g0 := fB 0
      have a1 : V.cell? ⟨Bb, 1, none⟩ = some (.slice none 0 0) := xB 1 (by omega)
      have g1 := fB 1
      have a2 : V.cell? ⟨Bb, 2, none⟩ = some (.slice none 0 0) := xB 2 (by omega)
      have g2 := fB 2
      refine wpAnyH_ready (rs := [4]) (by kernel_rfl) (by simp) ?_
      refine AllReadyH.cons rfl (fun K hK => ?_) AllReadyH.nil
      have hH2 := Lib.hid (below_setC (g := Bb) hB3 [.int .i64 s.P, .slice (some ⟨jg, 0, none⟩) nj jc, .slice oa m oc] 0 V hHeld)
      have hH3 := Lib.hid (below_setC (g := Ab) hA3 [.int .i64 s.P, .slice (some ⟨jg, 0, none⟩) nj jc, .slice oa m oc] 0 _ hH2.out)
      have y1' := Lib.hid y1
      have y2' := Lib.hid y2
      have y3' := Lib.hid y3
      have fz := Lib.hid fA
      have fz1 := Lib.hid fB
      have hAB' := Lib.hid hAB
      have hA3' := Lib.hid hA3
      have hB3' := Lib.hid hB3
      clear y1 y2 y3 hV xA xB fA fB hHeld hAb hBb hA3 hB3
      go_simp
      refine hK.out _ _ hH2.out (fun hHeld => ?_)
      clear hK K a0 a1 a2 g0 g1 g2
      simp only [List.setIfInBounds_toArray, List.set_cons_zero, List.set_cons_succ]
      obtain ⟨V1, hV1⟩ : ∃ V1, V1 = (((V.setCell ⟨Bb, 0, none⟩ (.int .i64 s.P)).setCell ⟨Bb, 1, none⟩ (.slice (some ⟨jg, 0, none⟩) nj jc)).setCell ⟨Bb, 2, none⟩ (.slice oa m oc)) := ⟨_, rfl⟩
      rw [← hV1] at hHeld ⊢
      have a0 : V1.cell? ⟨Ab, 0, none⟩ = some (.int .i64 0) := by rw [hV1]; exact y1'.out 0 (by omega)
      have g0 : V1.frozen? ⟨Ab, 0, none⟩ = false := by rw [hV1]; simp only [World.frozen?_setCell]; exact fz.out 0
      have a1 : V1.cell? ⟨Ab, 1, none⟩ = some (.slice none 0 0) := by rw [hV1]; exact y1'.out 1 (by omega)
      have g1 : V1.frozen? ⟨Ab, 1, none⟩ = false := by rw [hV1]; simp only [World.frozen?_setCell]; exact fz.out 1
      have a2 : V1.cell? ⟨Ab, 2, none⟩ = some (.slice none 0 0) := by rw [hV1]; exact y1'.out 2 (by omega)
      have g2 : V1.frozen? ⟨Ab, 2, none⟩ = false := by rw [hV1]; simp only [World.frozen?_setCell]; exact fz.out 2
      refine wpAnyH_ready (rs := [5]) (by kernel_rfl) (by simp) ?_
      refine AllReadyH.cons rfl (fun K hK => ?_) AllReadyH.nil
      have hV1' := Lib.hid hV1
      clear hV1 hHeld
      go_simp
      refine hK.out _ _ (by rw [hV1'.out]; exact hH3.out) (fun hHeld => ?_)
      clear hK K a0 a1 a2 g0 g1 g2
      simp only [List.setIfInBounds_toArray, List.set_cons_zero, List.set_cons_succ]
      obtain ⟨V2, hV2⟩ : ∃ V2, V2 = (((V1.setCell ⟨Ab, 0, none⟩ (.int .i64 s.P)).setCell ⟨Ab, 1, none⟩ (.slice (some ⟨jg, 0, none⟩) nj jc)).setCell ⟨Ab, 2, none⟩ (.slice oa m oc)) := ⟨_, rfl⟩
      rw [← hV2] at hHeld ⊢
      have hfin := Lib.hid (show W3.heap.size ≤ Bb ∧ W3.heap.size ≤ Ab ∧ Bb ≠ Ab ∧ Below W3.heap.size W3 V2 ∧ (∀ k, k < 3 → V2.cell? ⟨Bb, k, none⟩ = [.int .i64 s.P, .slice (some ⟨jg, 0, none⟩) nj jc, .slice oa m oc][k]?) ∧ (∀ k, k < 3 → V2.cell? ⟨Ab, k, none⟩ = [.int .i64 s.P, .slice (some ⟨jg, 0, none⟩) nj jc, .slice oa m oc][k]?) ∧ (∀ k, V2.frozen? ⟨Bb, k, none⟩ = false) ∧ (∀ k, V2.frozen? ⟨Ab, k, none⟩ = false) from ⟨hB3'.out, hA3'.out, hAB'.out.symm, hHeld, fun k hk => by rw [hV2, hV1'.out]; exact y2'.out k hk, fun k hk => by rw [hV2, hV1'.out]; exact y3'.out k hk, fun k => by rw [hV2]; simp only [World.frozen?_setCell]; rw [hV1'.out]; simp only [World.frozen?_setCell]; exact fz1.out k, fun k => by rw [hV2]; simp only [World.frozen?_setCell]; rw [hV1'.out]; simp only [World.frozen?_setCell]; exact fz.out k⟩)
      clear hV2 hHeld
      refine wpAnyH_done (by kernel_rfl) ?_ _
      refine NoPanic.normal ?_
      go_wp2_with fail
      go_meet
      exact ⟨_, _, _, rfl, rfl, rfl, hfin⟩
  case rest =>
    obtain ⟨A, B, V, rfl, rfl, rfl, hF⟩ := hcut
    obtain ⟨lim, hlim⟩ : ∃ lim, lim = V.heap.size := ⟨_, rfl⟩
    have hT : Hid (T2 W3 lim A B s.js s.js [.int .i64 s.P, .slice (some ⟨jg, 0, none⟩) nj jc, .slice oa m oc] [.int .i64 s.P, .slice (some ⟨jg, 0, none⟩) nj jc, .slice oa m oc] none none V) := Lib.hid (by rw [hlim]; exact T2.start hF.out.1 hF.out.2.1 hF.out.2.2.1 hF.out.2.2.2.1 hF.out.2.2.2.2.1 hF.out.2.2.2.2.2.1 hF.out.2.2.2.2.2.2.1 hF.out.2.2.2.2.2.2.2)
    clear hF hlim
    have hs3 := hs3'.out
    have hBz := Lib.hid (show w.heap.size < W3.heap.size by omega)
    have hB1 := Lib.hid (show w.heap.size + 1 < W3.heap.size by omega)
    have hB2 := Lib.hid (show w.heap.size + 2 < W3.heap.size by omega)
    clear U0 U2 m1 m2 m3 m4 m5 u0 u1 u2
    go_upto_region 21 with fail
    go_cut [14, 15] from 14 to 236 (fun av bv wx => ∃ (gA cA gB cB : Nat) (V : World), V = wx ∧ av = .pointer (some ⟨A, 0, none⟩) ∧ bv = .pointer (some ⟨B, 0, none⟩) ∧ Hid (T2 W3 lim A B s.js s.js [.int .i64 s.P, .slice (some ⟨gA, 0, none⟩) nj cA, .slice oa m oc] [.int .i64 s.P, .slice (some ⟨gB, 0, none⟩) nj cB, .slice oa m oc] (some (gA, cA)) (some (gB, cB)) V))
    case first =>
      as_aux_lemma =>
      refine wp_region_noPanic ?_
      refine wp_region_any (by kernel_rfl) (wpAny_of_held (S := fun w' => Below W3.heap.size W3 w') _ _ _ _ ?_)
      obtain ⟨V0, hV0⟩ : ∃ V0, V0 = V.drew := ⟨_, rfl⟩
      have hT0 := Lib.hid (hT.out.keep (Below.refl V.heap.size V).drew)
      change wpAnyH _ _ _ _ _ _ _ _ V.drew
      rw [← hV0] at hT0 ⊢
      clear hT hV0
      have hHeld := hT0.out.low
      simp only [List.size_toArray, List.length_cons, List.length_nil, Nat.reduceAdd, Array.replicate_succ, Array.replicate_zero, List.push_toArray, List.nil_append, List.cons_append]
      refine wpAnyH_take (i := 1) (v := .pointer (some ⟨w.heap.size, 1, none⟩)) rfl (by as_aux_lemma => kernel_rfl) (by as_aux_lemma => kernel_rfl) (by as_aux_lemma => kernel_rfl) (fun _ _ _ h => h) (Or.inl ⟨by rfl, ?_⟩) hHeld ?_
      · intro w' hSw; go_simp
      simp only [Act.put, List.setIfInBounds_toArray, List.set_cons_zero, List.set_cons_succ, List.getElem_toArray, List.getElem_cons_succ, List.getElem_cons_zero]
      refine wpAnyH_take (i := 2) (v := .slice (some ⟨jg, 0, none⟩) nj jc) rfl (by as_aux_lemma => kernel_rfl) (by as_aux_lemma => kernel_rfl) (by as_aux_lemma => kernel_rfl) (fun _ _ _ h => h) (Or.inl ⟨by rfl, ?_⟩) hHeld ?_
      · intro w' hSw; have c1 := (hSw.cell (p := ⟨w.heap.size, 1, none⟩) hBz.out).trans U1; go_simp
      simp only [Act.put, List.setIfInBounds_toArray, List.set_cons_zero, List.set_cons_succ, List.getElem_toArray, List.getElem_cons_succ, List.getElem_cons_zero]
      refine wpAnyH_take (i := 5) (v := .pointer (some ⟨w.heap.size, 1, none⟩)) rfl (by as_aux_lemma => kernel_rfl) (by as_aux_lemma => kernel_rfl) (by as_aux_lemma => kernel_rfl) (fun _ _ _ h => h) (Or.inl ⟨by rfl, ?_⟩) hHeld ?_
      · intro w' hSw; go_simp
      simp only [Act.put, List.setIfInBounds_toArray, List.set_cons_zero, List.set_cons_succ, List.getElem_toArray, List.getElem_cons_succ, List.getElem_cons_zero]
      refine wpAnyH_take (i := 6) (v := .slice (some ⟨jg, 0, none⟩) nj jc) rfl (by as_aux_lemma => kernel_rfl) (by as_aux_lemma => kernel_rfl) (by as_aux_lemma => kernel_rfl) (fun _ _ _ h => h) (Or.inl ⟨by rfl, ?_⟩) hHeld ?_
      · intro w' hSw; have c1 := (hSw.cell (p := ⟨w.heap.size, 1, none⟩) hBz.out).trans U1; go_simp
      simp only [Act.put, List.setIfInBounds_toArray, List.set_cons_zero, List.set_cons_succ, List.getElem_toArray, List.getElem_cons_succ, List.getElem_cons_zero]
      clear U1 hBz
      refine wpAnyH_ready (rs := [0, 4]) (by kernel_rfl) (by simp) ?_
      refine AllReadyH.cons rfl (fun K hK => ?_) (AllReadyH.cons rfl (fun K hK => ?_) AllReadyH.nil)
      · have hnow := hT0
        go_simp
        have hT1 := Lib.hid (hT0.out.keep (below_alloc1 V0 (.cells #[] 56)))
        refine hK.out _ _ hT1.out.low (fun hHeld => ?_)
        clear hK K hT0 hnow
        simp only [List.setIfInBounds_toArray, List.set_cons_zero]
        obtain ⟨V1, hV⟩ : ∃ x, x = V0.alloc (.cells #[] 56) := ⟨_, rfl⟩
        rw [← hV] at hT1 hHeld ⊢
        obtain ⟨pA, hp⟩ : ∃ x, x = V0.heap.size := ⟨_, rfl⟩
        rw [← hp]
        clear hV hp
        refine wpAnyH_ready (rs := [3, 4]) (by kernel_rfl) (by simp) ?_
        refine AllReadyH.cons rfl (fun K hK => ?_) (AllReadyH.cons rfl (fun K hK => ?_) AllReadyH.nil)
        · have hnow := hT1
          refine step_lit (g := pA) (m := nj) (js := s.js) (xv := .slice (some ⟨jg, 0, none⟩) nj jc) rfl (.tmp 193) (.tmp 195) rfl (by simp [Act.eval]) (by simp [Act.eval]) hnj'.out (hfl.out _ hT1.out.low) hne'.out hnj6.out ?_
          intro cA V2 ow hb hlt
          have hT2 := Lib.hid (hT1.out.app hnj'.out ow hb hlt)
          refine hK.out _ _ hT2.out.low (fun hHeld => ?_)
          clear hK K ow hb hlt hT1 hnow
          simp only [Act.put, List.setIfInBounds_toArray, List.set_cons_zero, List.set_cons_succ, List.getElem_toArray, List.getElem_cons_succ, List.getElem_cons_zero]
          obtain ⟨gA, hp⟩ : ∃ x, x = V1.heap.size := ⟨_, rfl⟩
          rw [← hp] at hT2 ⊢
          clear hp
          refine wpAnyH_take (i := 8) (v := .pointer (some ⟨A, 1, none⟩)) rfl (by as_aux_lemma => kernel_rfl) (by as_aux_lemma => kernel_rfl) (by as_aux_lemma => kernel_rfl) (fun _ _ _ h => h) (Or.inl ⟨by rfl, ?_⟩) hHeld ?_
          · intro w' hSw; go_simp
          simp only [Act.put, List.setIfInBounds_toArray, List.set_cons_zero, List.set_cons_succ, List.getElem_toArray, List.getElem_cons_succ, List.getElem_cons_zero]
          refine wpAnyH_ready (rs := [4]) (by kernel_rfl) (by simp) ?_
          refine AllReadyH.cons rfl (fun K hK => ?_) AllReadyH.nil
          go_simp
          have hT3 := Lib.hid (hT2.out.keep (below_alloc1 V2 (.cells #[] 56)))
          refine hK.out _ _ hT3.out.low (fun hHeld => ?_)
          clear hK K hT2
          simp only [List.setIfInBounds_toArray, List.set_cons_zero, List.set_cons_succ]
          obtain ⟨V3, hV⟩ : ∃ x, x = V2.alloc (.cells #[] 56) := ⟨_, rfl⟩
          rw [← hV] at hT3 hHeld ⊢
          obtain ⟨pB, hp⟩ : ∃ x, x = V2.heap.size := ⟨_, rfl⟩
          rw [← hp]
          clear hV hp
          refine wpAnyH_ready (rs := [7]) (by kernel_rfl) (by simp) ?_
          refine AllReadyH.cons rfl (fun K hK => ?_) AllReadyH.nil
          refine step_lit (g := pB) (m := nj) (js := s.js) (xv := .slice (some ⟨jg, 0, none⟩) nj jc) rfl (.tmp 197) (.tmp 199) rfl (by simp [Act.eval]) (by simp [Act.eval]) hnj'.out (hfl.out _ hT3.out.low) hne'.out hnj6.out ?_
          intro cB V4 ow hb hlt
          have hT4 := Lib.hid ((hT3.out.swap.app hnj'.out ow hb hlt).swap)
          refine hK.out _ _ hT4.out.low (fun hHeld => ?_)
          clear hK K ow hb hlt hT3
          simp only [Act.put, List.setIfInBounds_toArray, List.set_cons_zero, List.set_cons_succ, List.getElem_toArray, List.getElem_cons_succ, List.getElem_cons_zero]
          obtain ⟨gB, hp⟩ : ∃ x, x = V3.heap.size := ⟨_, rfl⟩
          rw [← hp] at hT4 ⊢
          clear hp
          refine wpAnyH_ready (rs := [9]) (by kernel_rfl) (by simp) ?_
          refine AllReadyH.cons rfl (fun K hK => ?_) AllReadyH.nil
          have a1 : V4.cell? ⟨A, 1, none⟩ = some (.slice (some ⟨jg, 0, none⟩) nj jc) := hT4.out.xA 1 (by omega)
          have g1 := hT4.out.fA 1
          have hT5 := Lib.hid (hT4.out.set (.slice (some ⟨gA, 0, none⟩) nj cA))
          go_simp
          refine hK.out _ _ hT5.out.low (fun hHeld => ?_)
          clear hK K a1 g1 hT4
          simp only [List.setIfInBounds_toArray, List.set_cons_zero, List.set_cons_succ]
          obtain ⟨V5, hV⟩ : ∃ x, x = V4.setCell ⟨A, 1, none⟩ (.slice (some ⟨gA, 0, none⟩) nj cA) := ⟨_, rfl⟩
          rw [← hV] at hT5 hHeld ⊢
          clear hV
          refine wpAnyH_take (i := 10) (v := .pointer (some ⟨B, 1, none⟩)) rfl (by as_aux_lemma => kernel_rfl) (by as_aux_lemma => kernel_rfl) (by as_aux_lemma => kernel_rfl) (fun _ _ _ h => h) (Or.inl ⟨by rfl, ?_⟩) hHeld ?_
          · intro w' hSw; go_simp
          simp only [Act.put, List.setIfInBounds_toArray, List.set_cons_zero, List.set_cons_succ, List.getElem_toArray, List.getElem_cons_succ, List.getElem_cons_zero]
          refine wpAnyH_ready (rs := [11]) (by kernel_rfl) (by simp) ?_
          refine AllReadyH.cons rfl (fun K hK => ?_) AllReadyH.nil
          have a1 : V5.cell? ⟨B, 1, none⟩ = some (.slice (some ⟨jg, 0, none⟩) nj jc) := hT5.out.xB 1 (by omega)
          have g1 := hT5.out.fB 1
          have hT6 := Lib.hid ((hT5.out.swap.set (.slice (some ⟨gB, 0, none⟩) nj cB)).swap)
          go_simp
          refine hK.out _ _ hT6.out.low (fun hHeld => ?_)
          clear hK K a1 g1 hT5
          simp only [List.setIfInBounds_toArray, List.set_cons_zero, List.set_cons_succ]
          obtain ⟨V6, hV⟩ : ∃ x, x = V5.setCell ⟨B, 1, none⟩ (.slice (some ⟨gB, 0, none⟩) nj cB) := ⟨_, rfl⟩
          rw [← hV] at hT6 hHeld ⊢
          clear hV
          refine wpAnyH_done (by kernel_rfl) ?_ _
          refine NoPanic.normal ?_
          go_wp2_with fail
          go_meet
          exact ⟨gA, cA, gB, cB, _, rfl, rfl, rfl, hT6⟩
        · have hnow := hT1
          go_simp
          have hT2 := Lib.hid (hT1.out.keep (below_alloc1 V1 (.cells #[] 56)))
          refine hK.out _ _ hT2.out.low (fun hHeld => ?_)
          clear hK K hT1 hnow
          simp only [List.setIfInBounds_toArray, List.set_cons_zero, List.set_cons_succ]
          obtain ⟨V2, hV⟩ : ∃ x, x = V1.alloc (.cells #[] 56) := ⟨_, rfl⟩
          rw [← hV] at hT2 hHeld ⊢
          obtain ⟨pB, hp⟩ : ∃ x, x = V1.heap.size := ⟨_, rfl⟩
          rw [← hp]
          clear hV hp
          refine wpAnyH_ready (rs := [3]) (by kernel_rfl) (by simp) ?_
          refine AllReadyH.cons rfl (fun K hK => ?_) AllReadyH.nil
          refine step_lit (g := pA) (m := nj) (js := s.js) (xv := .slice (some ⟨jg, 0, none⟩) nj jc) rfl (.tmp 193) (.tmp 195) rfl (by simp [Act.eval]) (by simp [Act.eval]) hnj'.out (hfl.out _ hT2.out.low) hne'.out hnj6.out ?_
          intro cA V3 ow hb hlt
          have hT3 := Lib.hid (hT2.out.app hnj'.out ow hb hlt)
          refine hK.out _ _ hT3.out.low (fun hHeld => ?_)
          clear hK K ow hb hlt hT2
          simp only [Act.put, List.setIfInBounds_toArray, List.set_cons_zero, List.set_cons_succ, List.getElem_toArray, List.getElem_cons_succ, List.getElem_cons_zero]
          obtain ⟨gA, hp⟩ : ∃ x, x = V2.heap.size := ⟨_, rfl⟩
          rw [← hp] at hT3 ⊢
          clear hp
          refine wpAnyH_take (i := 8) (v := .pointer (some ⟨A, 1, none⟩)) rfl (by as_aux_lemma => kernel_rfl) (by as_aux_lemma => kernel_rfl) (by as_aux_lemma => kernel_rfl) (fun _ _ _ h => h) (Or.inl ⟨by rfl, ?_⟩) hHeld ?_
          · intro w' hSw; go_simp
          simp only [Act.put, List.setIfInBounds_toArray, List.set_cons_zero, List.set_cons_succ, List.getElem_toArray, List.getElem_cons_succ, List.getElem_cons_zero]
          refine wpAnyH_ready (rs := [7]) (by kernel_rfl) (by simp) ?_
          refine AllReadyH.cons rfl (fun K hK => ?_) AllReadyH.nil
          refine step_lit (g := pB) (m := nj) (js := s.js) (xv := .slice (some ⟨jg, 0, none⟩) nj jc) rfl (.tmp 197) (.tmp 199) rfl (by simp [Act.eval]) (by simp [Act.eval]) hnj'.out (hfl.out _ hT3.out.low) hne'.out hnj6.out ?_
          intro cB V4 ow hb hlt
          have hT4 := Lib.hid ((hT3.out.swap.app hnj'.out ow hb hlt).swap)
          refine hK.out _ _ hT4.out.low (fun hHeld => ?_)
          clear hK K ow hb hlt hT3
          simp only [Act.put, List.setIfInBounds_toArray, List.set_cons_zero, List.set_cons_succ, List.getElem_toArray, List.getElem_cons_succ, List.getElem_cons_zero]
          obtain ⟨gB, hp⟩ : ∃ x, x = V3.heap.size := ⟨_, rfl⟩
          rw [← hp] at hT4 ⊢
          clear hp
          refine wpAnyH_ready (rs := [9]) (by kernel_rfl) (by simp) ?_
          refine AllReadyH.cons rfl (fun K hK => ?_) AllReadyH.nil
          have a1 : V4.cell? ⟨A, 1, none⟩ = some (.slice (some ⟨jg, 0, none⟩) nj jc) := hT4.out.xA 1 (by omega)
          have g1 := hT4.out.fA 1
          have hT5 := Lib.hid (hT4.out.set (.slice (some ⟨gA, 0, none⟩) nj cA))
          go_simp
          refine hK.out _ _ hT5.out.low (fun hHeld => ?_)
          clear hK K a1 g1 hT4
          simp only [List.setIfInBounds_toArray, List.set_cons_zero, List.set_cons_succ]
          obtain ⟨V5, hV⟩ : ∃ x, x = V4.setCell ⟨A, 1, none⟩ (.slice (some ⟨gA, 0, none⟩) nj cA) := ⟨_, rfl⟩
          rw [← hV] at hT5 hHeld ⊢
          clear hV
          refine wpAnyH_take (i := 10) (v := .pointer (some ⟨B, 1, none⟩)) rfl (by as_aux_lemma => kernel_rfl) (by as_aux_lemma => kernel_rfl) (by as_aux_lemma => kernel_rfl) (fun _ _ _ h => h) (Or.inl ⟨by rfl, ?_⟩) hHeld ?_
          · intro w' hSw; go_simp
          simp only [Act.put, List.setIfInBounds_toArray, List.set_cons_zero, List.set_cons_succ, List.getElem_toArray, List.getElem_cons_succ, List.getElem_cons_zero]
          refine wpAnyH_ready (rs := [11]) (by kernel_rfl) (by simp) ?_
          refine AllReadyH.cons rfl (fun K hK => ?_) AllReadyH.nil
          have a1 : V5.cell? ⟨B, 1, none⟩ = some (.slice (some ⟨jg, 0, none⟩) nj jc) := hT5.out.xB 1 (by omega)
          have g1 := hT5.out.fB 1
          have hT6 := Lib.hid ((hT5.out.swap.set (.slice (some ⟨gB, 0, none⟩) nj cB)).swap)
          go_simp
          refine hK.out _ _ hT6.out.low (fun hHeld => ?_)
          clear hK K a1 g1 hT5
          simp only [List.setIfInBounds_toArray, List.set_cons_zero, List.set_cons_succ]
          obtain ⟨V6, hV⟩ : ∃ x, x = V5.setCell ⟨B, 1, none⟩ (.slice (some ⟨gB, 0, none⟩) nj cB) := ⟨_, rfl⟩
          rw [← hV] at hT6 hHeld ⊢
          clear hV
          refine wpAnyH_done (by kernel_rfl) ?_ _
          refine NoPanic.normal ?_
          go_wp2_with fail
          go_meet
          exact ⟨gA, cA, gB, cB, _, rfl, rfl, rfl, hT6⟩
      · have hnow := hT0
        go_simp
        have hT1 := Lib.hid (hT0.out.keep (below_alloc1 V0 (.cells #[] 56)))
        refine hK.out _ _ hT1.out.low (fun hHeld => ?_)
        clear hK K hT0 hnow
        simp only [List.setIfInBounds_toArray, List.set_cons_zero, List.set_cons_succ]
        obtain ⟨V1, hV⟩ : ∃ x, x = V0.alloc (.cells #[] 56) := ⟨_, rfl⟩
        rw [← hV] at hT1 hHeld ⊢
        obtain ⟨pB, hp⟩ : ∃ x, x = V0.heap.size := ⟨_, rfl⟩
        rw [← hp]
        clear hV hp
        refine wpAnyH_ready (rs := [0]) (by kernel_rfl) (by simp) ?_
        refine AllReadyH.cons rfl (fun K hK => ?_) AllReadyH.nil
        go_simp
        have hT2 := Lib.hid (hT1.out.keep (below_alloc1 V1 (.cells #[] 56)))
        refine hK.out _ _ hT2.out.low (fun hHeld => ?_)
        clear hK K hT1
        simp only [List.setIfInBounds_toArray, List.set_cons_zero]
        obtain ⟨V2, hV⟩ : ∃ x, x = V1.alloc (.cells #[] 56) := ⟨_, rfl⟩
        rw [← hV] at hT2 hHeld ⊢
        obtain ⟨pA, hp⟩ : ∃ x, x = V1.heap.size := ⟨_, rfl⟩
        rw [← hp]
        clear hV hp
        refine wpAnyH_ready (rs := [3]) (by kernel_rfl) (by simp) ?_
        refine AllReadyH.cons rfl (fun K hK => ?_) AllReadyH.nil
        refine step_lit (g := pA) (m := nj) (js := s.js) (xv := .slice (some ⟨jg, 0, none⟩) nj jc) rfl (.tmp 193) (.tmp 195) rfl (by simp [Act.eval]) (by simp [Act.eval]) hnj'.out (hfl.out _ hT2.out.low) hne'.out hnj6.out ?_
        intro cA V3 ow hb hlt
        have hT3 := Lib.hid (hT2.out.app hnj'.out ow hb hlt)
        refine hK.out _ _ hT3.out.low (fun hHeld => ?_)
        clear hK K ow hb hlt hT2
        simp only [Act.put, List.setIfInBounds_toArray, List.set_cons_zero, List.set_cons_succ, List.getElem_toArray, List.getElem_cons_succ, List.getElem_cons_zero]
        obtain ⟨gA, hp⟩ : ∃ x, x = V2.heap.size := ⟨_, rfl⟩
        rw [← hp] at hT3 ⊢
        clear hp
        refine wpAnyH_take (i := 8) (v := .pointer (some ⟨A, 1, none⟩)) rfl (by as_aux_lemma => kernel_rfl) (by as_aux_lemma => kernel_rfl) (by as_aux_lemma => kernel_rfl) (fun _ _ _ h => h) (Or.inl ⟨by rfl, ?_⟩) hHeld ?_
        · intro w' hSw; go_simp
        simp only [Act.put, List.setIfInBounds_toArray, List.set_cons_zero, List.set_cons_succ, List.getElem_toArray, List.getElem_cons_succ, List.getElem_cons_zero]
        refine wpAnyH_ready (rs := [7]) (by kernel_rfl) (by simp) ?_
        refine AllReadyH.cons rfl (fun K hK => ?_) AllReadyH.nil
        refine step_lit (g := pB) (m := nj) (js := s.js) (xv := .slice (some ⟨jg, 0, none⟩) nj jc) rfl (.tmp 197) (.tmp 199) rfl (by simp [Act.eval]) (by simp [Act.eval]) hnj'.out (hfl.out _ hT3.out.low) hne'.out hnj6.out ?_
        intro cB V4 ow hb hlt
        have hT4 := Lib.hid ((hT3.out.swap.app hnj'.out ow hb hlt).swap)
        refine hK.out _ _ hT4.out.low (fun hHeld => ?_)
        clear hK K ow hb hlt hT3
        simp only [Act.put, List.setIfInBounds_toArray, List.set_cons_zero, List.set_cons_succ, List.getElem_toArray, List.getElem_cons_succ, List.getElem_cons_zero]
        obtain ⟨gB, hp⟩ : ∃ x, x = V3.heap.size := ⟨_, rfl⟩
        rw [← hp] at hT4 ⊢
        clear hp
        refine wpAnyH_ready (rs := [9]) (by kernel_rfl) (by simp) ?_
        refine AllReadyH.cons rfl (fun K hK => ?_) AllReadyH.nil
        have a1 : V4.cell? ⟨A, 1, none⟩ = some (.slice (some ⟨jg, 0, none⟩) nj jc) := hT4.out.xA 1 (by omega)
        have g1 := hT4.out.fA 1
        have hT5 := Lib.hid (hT4.out.set (.slice (some ⟨gA, 0, none⟩) nj cA))
        go_simp
        refine hK.out _ _ hT5.out.low (fun hHeld => ?_)
        clear hK K a1 g1 hT4
        simp only [List.setIfInBounds_toArray, List.set_cons_zero, List.set_cons_succ]
        obtain ⟨V5, hV⟩ : ∃ x, x = V4.setCell ⟨A, 1, none⟩ (.slice (some ⟨gA, 0, none⟩) nj cA) := ⟨_, rfl⟩
        rw [← hV] at hT5 hHeld ⊢
        clear hV
        refine wpAnyH_take (i := 10) (v := .pointer (some ⟨B, 1, none⟩)) rfl (by as_aux_lemma => kernel_rfl) (by as_aux_lemma => kernel_rfl) (by as_aux_lemma => kernel_rfl) (fun _ _ _ h => h) (Or.inl ⟨by rfl, ?_⟩) hHeld ?_
        · intro w' hSw; go_simp
        simp only [Act.put, List.setIfInBounds_toArray, List.set_cons_zero, List.set_cons_succ, List.getElem_toArray, List.getElem_cons_succ, List.getElem_cons_zero]
        refine wpAnyH_ready (rs := [11]) (by kernel_rfl) (by simp) ?_
        refine AllReadyH.cons rfl (fun K hK => ?_) AllReadyH.nil
        have a1 : V5.cell? ⟨B, 1, none⟩ = some (.slice (some ⟨jg, 0, none⟩) nj jc) := hT5.out.xB 1 (by omega)
        have g1 := hT5.out.fB 1
        have hT6 := Lib.hid ((hT5.out.swap.set (.slice (some ⟨gB, 0, none⟩) nj cB)).swap)
        go_simp
        refine hK.out _ _ hT6.out.low (fun hHeld => ?_)
        clear hK K a1 g1 hT5
        simp only [List.setIfInBounds_toArray, List.set_cons_zero, List.set_cons_succ]
        obtain ⟨V6, hV⟩ : ∃ x, x = V5.setCell ⟨B, 1, none⟩ (.slice (some ⟨gB, 0, none⟩) nj cB) := ⟨_, rfl⟩
        rw [← hV] at hT6 hHeld ⊢
        clear hV
        refine wpAnyH_done (by kernel_rfl) ?_ _
        refine NoPanic.normal ?_
        go_wp2_with fail
        go_meet
        exact ⟨gA, cA, gB, cB, _, rfl, rfl, rfl, hT6⟩
    case rest =>
      clear hT hBz U1
      clear V
      obtain ⟨gA, cA, gB, cB, V, rfl, rfl, rfl, hT⟩ := hcut
      have hcap := Lib.hid (hT.out.cells hJs'.out).2.2.2
      have hcapB := Lib.hid (hT.out.swap.cells hJs'.out).2.2.2
      go_upto_region 22 with fail
      go_cut [14, 15] from 14 to 236 (fun av bv wx => ∃ (V : World), V = wx ∧ av = .pointer (some ⟨A, 0, none⟩) ∧ bv = .pointer (some ⟨B, 0, none⟩) ∧ Hid (T2 W3 lim A B (s.js.set J { s.js.getD J J0 with t := a + lg }) (s.js.set J { s.js.getD J J0 with f := a + 1 }) [.int .i64 s.P, .slice (some ⟨gA, 0, none⟩) nj cA, .slice oa m oc] [.int .i64 s.P, .slice (some ⟨gB, 0, none⟩) nj cB, .slice oa m oc] (some (gA, cA)) (some (gB, cB)) V))
      case first =>
        have N1 := hN1.out
        have N2 := hN2.out
        have L2 := hL2.out
        have sw5 := hs5.out
        have sw6 := hs6.out
        have hJn : (J : Int) < (nj : Int) := by have := hJs'.out; have := hnj'.out; omega
        as_aux_lemma =>
        refine wp_region_noPanic ?_
        refine wp_region_any (by kernel_rfl) (wpAny_of_held (S := fun w' => ∃ ja jb, T2 W3 lim A B ja jb [.int .i64 s.P, .slice (some ⟨gA, 0, none⟩) nj cA, .slice oa m oc] [.int .i64 s.P, .slice (some ⟨gB, 0, none⟩) nj cB, .slice oa m oc] (some (gA, cA)) (some (gB, cB)) w') _ _ _ _ ?_)
        obtain ⟨V0, hV0⟩ : ∃ V0, V0 = V.drew := ⟨_, rfl⟩
        have hT0 := Lib.hid (hT.out.keep (Below.refl V.heap.size V).drew)
        change wpAnyH _ _ _ _ _ _ _ _ V.drew
        rw [← hV0] at hT0 ⊢
        clear hT hV0
        have hHeld : ∃ ja jb, T2 W3 lim A B ja jb [.int .i64 s.P, .slice (some ⟨gA, 0, none⟩) nj cA, .slice oa m oc] [.int .i64 s.P, .slice (some ⟨gB, 0, none⟩) nj cB, .slice oa m oc] (some (gA, cA)) (some (gB, cB)) V0 := ⟨_, _, hT0.out⟩
        simp only [List.size_toArray, List.length_cons, List.length_nil, Nat.reduceAdd, Array.replicate_succ, Array.replicate_zero, List.push_toArray, List.nil_append, List.cons_append]
        refine wpAnyH_take (i := 0) (v := .pointer (some ⟨A, 1, none⟩)) rfl (by as_aux_lemma => kernel_rfl) (by as_aux_lemma => kernel_rfl) (by as_aux_lemma => kernel_rfl) (fun _ _ _ h => h) (Or.inl ⟨by rfl, ?_⟩) hHeld ?_
        · intro w' hSw; go_simp
        simp only [Act.put, List.setIfInBounds_toArray, List.set_cons_zero, List.set_cons_succ, List.getElem_toArray, List.getElem_cons_zero]
        refine wpAnyH_take (i := 1) (v := .slice (some ⟨gA, 0, none⟩) nj cA) rfl (by as_aux_lemma => kernel_rfl) (by as_aux_lemma => kernel_rfl) (by as_aux_lemma => kernel_rfl) (fun _ _ _ h => h) (Or.inl ⟨by rfl, ?_⟩) hHeld ?_
        · intro w' hSw; obtain ⟨_, _, hq⟩ := hSw; have c1 := hq.xA 1 (by omega); simp only [List.getElem?_cons_succ, List.getElem?_cons_zero] at c1; go_simp
        simp only [Act.put, List.setIfInBounds_toArray, List.set_cons_zero, List.set_cons_succ, List.getElem_toArray, List.getElem_cons_succ, List.getElem_cons_zero]
        refine wpAnyH_take (i := 2) (v := .pointer (some ⟨w.heap.size + 1, 1, none⟩)) rfl (by as_aux_lemma => kernel_rfl) (by as_aux_lemma => kernel_rfl) (by as_aux_lemma => kernel_rfl) (fun _ _ _ h => h) (Or.inl ⟨by rfl, ?_⟩) hHeld ?_
        · intro w' hSw; go_simp
        simp only [Act.put, List.setIfInBounds_toArray, List.set_cons_zero, List.set_cons_succ, List.getElem_toArray, List.getElem_cons_succ, List.getElem_cons_zero]
        refine wpAnyH_take (i := 3) (v := .int .i64 J) rfl (by as_aux_lemma => kernel_rfl) (by as_aux_lemma => kernel_rfl) (by as_aux_lemma => kernel_rfl) (fun _ _ _ h => h) (Or.inl ⟨by rfl, ?_⟩) hHeld ?_
        · intro w' hSw; obtain ⟨_, _, hq⟩ := hSw; have c1 := (hq.low.cell (p := ⟨w.heap.size + 1, 1, none⟩) hB1.out).trans N1; go_simp
        simp only [Act.put, List.setIfInBounds_toArray, List.set_cons_zero, List.set_cons_succ, List.getElem_toArray, List.getElem_cons_succ, List.getElem_cons_zero]
        refine wpAnyH_take (i := 4) (v := .pointer (some ⟨B, 1, none⟩)) rfl (by as_aux_lemma => kernel_rfl) (by as_aux_lemma => kernel_rfl) (by as_aux_lemma => kernel_rfl) (fun _ _ _ h => h) (Or.inl ⟨by rfl, ?_⟩) hHeld ?_
        · intro w' hSw; go_simp
        simp only [Act.put, List.setIfInBounds_toArray, List.set_cons_zero, List.set_cons_succ, List.getElem_toArray, List.getElem_cons_succ, List.getElem_cons_zero]
        refine wpAnyH_take (i := 5) (v := .slice (some ⟨gB, 0, none⟩) nj cB) rfl (by as_aux_lemma => kernel_rfl) (by as_aux_lemma => kernel_rfl) (by as_aux_lemma => kernel_rfl) (fun _ _ _ h => h) (Or.inl ⟨by rfl, ?_⟩) hHeld ?_
        · intro w' hSw; obtain ⟨_, _, hq⟩ := hSw; have c1 := hq.xB 1 (by omega); simp only [List.getElem?_cons_succ, List.getElem?_cons_zero] at c1; go_simp
        simp only [Act.put, List.setIfInBounds_toArray, List.set_cons_zero, List.set_cons_succ, List.getElem_toArray, List.getElem_cons_succ, List.getElem_cons_zero]
        refine wpAnyH_take (i := 6) (v := .pointer (some ⟨w.heap.size + 1, 1, none⟩)) rfl (by as_aux_lemma => kernel_rfl) (by as_aux_lemma => kernel_rfl) (by as_aux_lemma => kernel_rfl) (fun _ _ _ h => h) (Or.inl ⟨by rfl, ?_⟩) hHeld ?_
        · intro w' hSw; go_simp
        simp only [Act.put, List.setIfInBounds_toArray, List.set_cons_zero, List.set_cons_succ, List.getElem_toArray, List.getElem_cons_succ, List.getElem_cons_zero]
        refine wpAnyH_take (i := 7) (v := .int .i64 J) rfl (by as_aux_lemma => kernel_rfl) (by as_aux_lemma => kernel_rfl) (by as_aux_lemma => kernel_rfl) (fun _ _ _ h => h) (Or.inl ⟨by rfl, ?_⟩) hHeld ?_
        · intro w' hSw; obtain ⟨_, _, hq⟩ := hSw; have c1 := (hq.low.cell (p := ⟨w.heap.size + 1, 1, none⟩) hB1.out).trans N1; go_simp
        simp only [Act.put, List.setIfInBounds_toArray, List.set_cons_zero, List.set_cons_succ, List.getElem_toArray, List.getElem_cons_succ, List.getElem_cons_zero]
        refine wpAnyH_take (i := 8) (v := .pointer (some ⟨w.heap.size + 1, 2, none⟩)) rfl (by as_aux_lemma => kernel_rfl) (by as_aux_lemma => kernel_rfl) (by as_aux_lemma => kernel_rfl) (fun _ _ _ h => h) (Or.inl ⟨by rfl, ?_⟩) hHeld ?_
        · intro w' hSw; go_simp
        simp only [Act.put, List.setIfInBounds_toArray, List.set_cons_zero, List.set_cons_succ, List.getElem_toArray, List.getElem_cons_succ, List.getElem_cons_zero]
        refine wpAnyH_take (i := 9) (v := .int .i64 a) rfl (by as_aux_lemma => kernel_rfl) (by as_aux_lemma => kernel_rfl) (by as_aux_lemma => kernel_rfl) (fun _ _ _ h => h) (Or.inl ⟨by rfl, ?_⟩) hHeld ?_
        · intro w' hSw; obtain ⟨_, _, hq⟩ := hSw; have c1 := (hq.low.cell (p := ⟨w.heap.size + 1, 2, none⟩) hB1.out).trans N2; go_simp
        simp only [Act.put, List.setIfInBounds_toArray, List.set_cons_zero, List.set_cons_succ, List.getElem_toArray, List.getElem_cons_succ, List.getElem_cons_zero]
        refine wpAnyH_take (i := 10) (v := .pointer (some ⟨w.heap.size + 2, 2, none⟩)) rfl (by as_aux_lemma => kernel_rfl) (by as_aux_lemma => kernel_rfl) (by as_aux_lemma => kernel_rfl) (fun _ _ _ h => h) (Or.inl ⟨by rfl, ?_⟩) hHeld ?_
        · intro w' hSw; go_simp
        simp only [Act.put, List.setIfInBounds_toArray, List.set_cons_zero, List.set_cons_succ, List.getElem_toArray, List.getElem_cons_succ, List.getElem_cons_zero]
        refine wpAnyH_take (i := 11) (v := .int .i64 lg) rfl (by as_aux_lemma => kernel_rfl) (by as_aux_lemma => kernel_rfl) (by as_aux_lemma => kernel_rfl) (fun _ _ _ h => h) (Or.inl ⟨by rfl, ?_⟩) hHeld ?_
        · intro w' hSw; obtain ⟨_, _, hq⟩ := hSw; have c1 := (hq.low.cell (p := ⟨w.heap.size + 2, 2, none⟩) hB2.out).trans L2; go_simp
        simp only [Act.put, List.setIfInBounds_toArray, List.set_cons_zero, List.set_cons_succ, List.getElem_toArray, List.getElem_cons_succ, List.getElem_cons_zero]
        refine wpAnyH_take (i := 12) (v := .int .i64 (a + lg)) rfl (by as_aux_lemma => kernel_rfl) (by as_aux_lemma => kernel_rfl) (by as_aux_lemma => kernel_rfl) (fun _ _ _ h => h) (Or.inl ⟨by rfl, ?_⟩) hHeld ?_
        · intro w' hSw; go_simp
        simp only [Act.put, List.setIfInBounds_toArray, List.set_cons_zero, List.set_cons_succ, List.getElem_toArray, List.getElem_cons_succ, List.getElem_cons_zero]
        refine wpAnyH_take (i := 13) (v := .pointer (some ⟨w.heap.size + 1, 2, none⟩)) rfl (by as_aux_lemma => kernel_rfl) (by as_aux_lemma => kernel_rfl) (by as_aux_lemma => kernel_rfl) (fun _ _ _ h => h) (Or.inl ⟨by rfl, ?_⟩) hHeld ?_
        · intro w' hSw; go_simp
        simp only [Act.put, List.setIfInBounds_toArray, List.set_cons_zero, List.set_cons_succ, List.getElem_toArray, List.getElem_cons_succ, List.getElem_cons_zero]
        refine wpAnyH_take (i := 14) (v := .int .i64 a) rfl (by as_aux_lemma => kernel_rfl) (by as_aux_lemma => kernel_rfl) (by as_aux_lemma => kernel_rfl) (fun _ _ _ h => h) (Or.inl ⟨by rfl, ?_⟩) hHeld ?_
        · intro w' hSw; obtain ⟨_, _, hq⟩ := hSw; have c1 := (hq.low.cell (p := ⟨w.heap.size + 1, 2, none⟩) hB1.out).trans N2; go_simp
        simp only [Act.put, List.setIfInBounds_toArray, List.set_cons_zero, List.set_cons_succ, List.getElem_toArray, List.getElem_cons_succ, List.getElem_cons_zero]
        refine wpAnyH_take (i := 15) (v := .int .i64 (a + 1)) rfl (by as_aux_lemma => kernel_rfl) (by as_aux_lemma => kernel_rfl) (by as_aux_lemma => kernel_rfl) (fun _ _ _ h => h) (Or.inl ⟨by rfl, ?_⟩) hHeld ?_
        · intro w' hSw; go_simp
        simp only [Act.put, List.setIfInBounds_toArray, List.set_cons_zero, List.set_cons_succ, List.getElem_toArray, List.getElem_cons_succ, List.getElem_cons_zero]
        refine wpAnyH_take (i := 16) (v := .pointer (some ⟨gA, J * 4, none⟩)) rfl (by as_aux_lemma => kernel_rfl) (by as_aux_lemma => kernel_rfl) (by as_aux_lemma => kernel_rfl) (fun _ _ _ h => h) (Or.inl ⟨by rfl, ?_⟩) hHeld ?_
        · intro w' hSw; go_simp
        simp only [Act.put, List.setIfInBounds_toArray, List.set_cons_zero, List.set_cons_succ, List.getElem_toArray, List.getElem_cons_succ, List.getElem_cons_zero]
        refine wpAnyH_take (i := 17) (v := .pointer (some ⟨gA, J * 4 + 1, none⟩)) rfl (by as_aux_lemma => kernel_rfl) (by as_aux_lemma => kernel_rfl) (by as_aux_lemma => kernel_rfl) (fun _ _ _ h => h) (Or.inl ⟨by rfl, ?_⟩) hHeld ?_
        · intro w' hSw; go_simp
        simp only [Act.put, List.setIfInBounds_toArray, List.set_cons_zero, List.set_cons_succ, List.getElem_toArray, List.getElem_cons_succ, List.getElem_cons_zero]
        clear hB1 hB2 N1 N2 L2 sw5 sw6
        refine wpAnyH_ready (rs := [18]) (by kernel_rfl) (by simp) ?_
        refine AllReadyH.cons rfl (fun K hK => ?_) AllReadyH.nil
        obtain ⟨g0, a0, a1, hcc⟩ := hT0.out.cells hJs'.out
        have g1 := g0 (J * 4 + 1)
        have hT1 := Lib.hid (hT0.out.put hJs'.out (a + lg)).1
        clear a0 g0 hcc
        go_simp
        refine hK.out _ _ ⟨_, _, hT1.out⟩ (fun hHeld => ?_)
        clear hK K a1 g1 hT0
        simp only [List.setIfInBounds_toArray, List.set_cons_zero, List.set_cons_succ]
        obtain ⟨V1, hV⟩ : ∃ x, x = V0.setCell ⟨gA, J * 4 + 1, none⟩ (.int .i64 (a + lg)) := ⟨_, rfl⟩
        rw [← hV] at hT1 hHeld ⊢
        clear hV
        refine wpAnyH_take (i := 19) (v := .pointer (some ⟨gB, J * 4, none⟩)) rfl (by as_aux_lemma => kernel_rfl) (by as_aux_lemma => kernel_rfl) (by as_aux_lemma => kernel_rfl) (fun _ _ _ h => h) (Or.inl ⟨by rfl, ?_⟩) hHeld ?_
        · intro w' hSw; go_simp
        simp only [Act.put, List.setIfInBounds_toArray, List.set_cons_zero, List.set_cons_succ, List.getElem_toArray, List.getElem_cons_succ, List.getElem_cons_zero]
        refine wpAnyH_take (i := 20) (v := .pointer (some ⟨gB, J * 4, none⟩)) rfl (by as_aux_lemma => kernel_rfl) (by as_aux_lemma => kernel_rfl) (by as_aux_lemma => kernel_rfl) (fun _ _ _ h => h) (Or.inl ⟨by rfl, ?_⟩) hHeld ?_
        · intro w' hSw; go_simp
        simp only [Act.put, List.setIfInBounds_toArray, List.set_cons_zero, List.set_cons_succ, List.getElem_toArray, List.getElem_cons_succ, List.getElem_cons_zero]
        refine wpAnyH_ready (rs := [21]) (by kernel_rfl) (by simp) ?_
        refine AllReadyH.cons rfl (fun K hK => ?_) AllReadyH.nil
        obtain ⟨g0, a0, a1, hcc⟩ := hT1.out.swap.cells hJs'.out
        have g1 := g0 (J * 4)
        have hT2 := Lib.hid (hT1.out.swap.put hJs'.out (a + 1)).2.swap
        clear a1 g0 hcc
        go_simp
        refine hK.out _ _ ⟨_, _, hT2.out⟩ (fun hHeld => ?_)
        clear hK K a0 g1 hT1
        simp only [List.setIfInBounds_toArray, List.set_cons_zero, List.set_cons_succ]
        obtain ⟨V2, hV⟩ : ∃ x, x = V1.setCell ⟨gB, J * 4, none⟩ (.int .i64 (a + 1)) := ⟨_, rfl⟩
        rw [← hV] at hT2 hHeld ⊢
        clear hV
        refine wpAnyH_done (by kernel_rfl) ?_ _
        refine NoPanic.normal ?_
        go_wp2_with fail
        go_meet
        exact ⟨_, rfl, rfl, rfl, hT2⟩
      case rest =>
        clear hT
        clear V
        obtain ⟨V, rfl, rfl, rfl, hT⟩ := hcut
        obtain ⟨bl, sl⟩ := pL
        obtain ⟨br, sr⟩ := pR
        have hq := hT.out
        have xA0 : V.cell? ⟨A, 0, none⟩ = some (.int .i64 s.P) := hq.xA 0 (by omega)
        have xA1 : V.cell? ⟨A, 1, none⟩ = some (.slice (some ⟨gA, 0, none⟩) nj cA) := hq.xA 1 (by omega)
        have xA2 : V.cell? ⟨A, 2, none⟩ = some (.slice oa m oc) := hq.xA 2 (by omega)
        have xB0 : V.cell? ⟨B, 0, none⟩ = some (.int .i64 s.P) := hq.xB 0 (by omega)
        have xB1 : V.cell? ⟨B, 1, none⟩ = some (.slice (some ⟨gB, 0, none⟩) nj cB) := hq.xB 1 (by omega)
        have xB2 : V.cell? ⟨B, 2, none⟩ = some (.slice oa m oc) := hq.xB 2 (by omega)
        have N4 := (hq.low.cell (p := ⟨w.heap.size + 1, 4, none⟩) hB1.out).trans hN4.out
        have N5 := (hq.low.cell (p := ⟨w.heap.size + 1, 5, none⟩) hB1.out).trans hN5.out
        have hBV : Below W.heap.size W V := hb3'.out.trans (hq.low.mono hb3'.out.size)
        have hKV := Lib.hid (hKW'.out.trans (Kq.of_below (ge := ge) hBV))
        have hNV := Lib.hid (hNd'.out V hBV)
        have hgL := hgew'.out
        have hAV : W3.heap.size ≤ A ∧ A < lim := hq.hA
        have hBV2 : W3.heap.size ≤ B ∧ B < lim := hq.hB
        have hlV : lim ≤ V.heap.size := hq.hl
        have hgAl := (hq.rA gA cA rfl).2.1
        have hgBl := (hq.rB gB cB rfl).2.1
        have hcl0 := hlc.out V _ (shf_own (s := s) (t := till s J a) rfl rfl (till_js s J a lg hjl'.out) (show nj = _ by rw [List.length_set]; exact hnj'.out) hm'.out (hq.rA gA cA rfl).2.2 (show gA ≠ ge by omega) (hRo.out V hq.low) hfo.out) hNV.out (hSW'.out.below hBV)
        have hShR := Lib.hid (shf_own (s := s) (t := later s J a) rfl rfl (later_js s J a) (show nj = _ by rw [List.length_set]; exact hnj'.out) hm'.out (hq.rB gB cB rfl).2.2 (show gB ≠ ge by omega) (hRo.out V hq.low) hfo.out)
        have hBw : B < V.heap.size := by omega
        have hBne : B ≠ ge := by omega
        have hNw : w.heap.size + 1 < V.heap.size := by have := hB1.out; omega
        have hNne : w.heap.size + 1 ≠ ge := by omega
        have kB0 := Lib.hid (fun (w2 : World) (hk : Kq ge V w2) => (hk.cell (k := 0) hBw hBne).trans xB0)
        have kB1 := Lib.hid (fun (w2 : World) (hk : Kq ge V w2) => (hk.cell (k := 1) hBw hBne).trans xB1)
        have kB2 := Lib.hid (fun (w2 : World) (hk : Kq ge V w2) => (hk.cell (k := 2) hBw hBne).trans xB2)
        have kN5 := Lib.hid (fun (w2 : World) (hk : Kq ge V w2) => (hk.cell (k := 5) hNw hNne).trans N5)
        rw [← hlen6.out] at hcl0
        have hcl := Lib.hid hcl0
        clear hlc hcl0 hq xB0 xB1 xB2 N5 hBV hAV hBV2 hlV hgAl hgBl hBw hBne hNw hNne hgL hT
        cases bl with
        | false =>
          clear hrc hShR kB0 kB1 kB2 kN5
          as_aux_lemma =>
          go_wp2_with (go_at_call 52; refine hcl.out.mono ?_; clear hcl; rintro e w2 ⟨he, hS2, hK2⟩; simp only at he; subst he; have hS2' := Lib.hid hS2; have hK2' := Lib.hid hK2; clear hS2 hK2)
          go_ret
          show RpEnd w ge n (false, sl) _ _
          exact ⟨rfl, hS2'.out, hKV.out.trans hK2'.out⟩
        | true =>
          as_aux_lemma =>
          go_wp2_with (first
            | (go_at_call 52; refine hcl.out.mono ?_; clear hcl; rintro e w2 ⟨he, hS2, hK2⟩; simp only at he; subst he; have hS2' := Lib.hid hS2; have hK2' := Lib.hid hK2; clear hS2 hK2; have xB0 := kB0.out w2 hK2'.out; have xB1 := kB1.out w2 hK2'.out; have xB2 := kB2.out w2 hK2'.out; have N5 := kN5.out w2 hK2'.out; have hcr0 := hrc.out rfl w2 _ (hShR.out.kp hK2'.out) (hNV.out.kp hK2'.out) (by rw [← hlen6.out]; exact hS2'.out); rw [← hlen6.out] at hcr0; have hcr := Lib.hid hcr0; clear hcr0 hShR kB0 kB1 kB2 kN5 hrc)
            | (go_at_call 52; refine hcr.out.mono ?_; clear hcr; rintro e w3 ⟨he, hS3, hK3⟩; simp only at he; subst he; have hS3' := Lib.hid hS3; have hK3' := Lib.hid hK3; clear hS3 hK3))
          go_ret
          show RpEnd w ge n (br, sr) _ _
          exact ⟨rfl, hS3'.out, hKV.out.trans (hK2'.out.trans hK3'.out)⟩
end Go.Proofs.Ytjkbhdlbomcbeaa
