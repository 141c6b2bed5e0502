import Derived.Test.YtjkbhdlbomcbeaaV19
import Derived.StillTailTactics
import Derived.Deep.QuietTactic
import Derived.BigQuiet
namespace Go.Proofs.Ytjkbhdlbomcbeaa
open Go.RowKit Go.Shelf Shf


theorem two_new (W : World) (V : World) (hV : V = ((W.alloc (.cells #[.int .i64 0, .int .i64 0, .int .i64 0, .int .i64 0] 56)).alloc (.cells #[.int .i64 0, .int .i64 0, .int .i64 0, .int .i64 0] 56)).drew) :
    (∀ k, k < 4 → V.cell? ⟨W.heap.size, k, none⟩ = some (.int .i64 0)) ∧ (∀ k, k < 4 → V.cell? ⟨W.heap.size + 1, k, none⟩ = some (.int .i64 0)) ∧ (∀ k, V.frozen? ⟨W.heap.size, k, none⟩ = false) ∧ (∀ k, V.frozen? ⟨W.heap.size + 1, k, none⟩ = false) ∧ Below W.heap.size W V := by
  subst hV
  obtain ⟨W1, h1⟩ : ∃ W1, W1 = W.alloc (.cells #[.int .i64 0, .int .i64 0, .int .i64 0, .int .i64 0] 56) := ⟨_, rfl⟩
  have hs1 : W1.heap.size = W.heap.size + 1 := by rw [h1]; simp
  have hb1 : Below W.heap.size W W1 := by rw [h1]; exact below_alloc1 _ _
  have hb2 : Below W1.heap.size W1 (W1.alloc (.cells #[.int .i64 0, .int .i64 0, .int .i64 0, .int .i64 0] 56)).drew := (below_alloc1 W1 _).drew
  have hc : ∀ (X : World) (k : Nat), k < 4 → (X.alloc (.cells #[.int .i64 0, .int .i64 0, .int .i64 0, .int .i64 0] 56)).cell? ⟨X.heap.size, k, none⟩ = some (.int .i64 0) := fun X k hk => by
    rw [World.cell?_alloc_at (hn := rfl)]
    rcases k with _ | _ | _ | _ | k
    · rfl
    · rfl
    · rfl
    · rfl
    · omega
  rw [← h1]
  refine ⟨fun k hk => ?_, fun k hk => ?_, fun k => ?_, fun k => ?_, below_call hb1 hb2⟩
  · rw [hb2.cell (p := ⟨W.heap.size, k, none⟩) (by show W.heap.size < _; omega), h1]; exact hc W k hk
  · rw [← hs1]; exact hc W1 k hk
  · rw [hb2.frozen (p := ⟨W.heap.size, k, none⟩) (by show W.heap.size < _; omega), h1]; exact alloc_fz _ _ _ _
  · rw [← hs1]; exact alloc_fz W1 _ _ _
theorem two_set {V : World} {A B : Nat} (hne : A ≠ B) (hA : ∀ k, k < 4 → V.cell? ⟨A, k, none⟩ = some (.int .i64 0)) (hB : ∀ k, k < 4 → V.cell? ⟨B, k, none⟩ = some (.int .i64 0)) (a b c d a' b' c' d' : Value) :
    (∀ k, k < 4 → (V.setCells A 0 [a, b, c, d]).cell? ⟨B, k, none⟩ = some (.int .i64 0)) ∧ (∀ k, k < 4 → ((V.setCells A 0 [a, b, c, d]).setCells B 0 [a', b', c', d']).cell? ⟨A, k, none⟩ = [a, b, c, d][k]?) ∧ (∀ k, k < 4 → ((V.setCells A 0 [a, b, c, d]).setCells B 0 [a', b', c', d']).cell? ⟨B, k, none⟩ = [a', b', c', d'][k]?) := by
  have h1 : ∀ k, k < 4 → (V.setCells A 0 [a, b, c, d]).cell? ⟨B, k, none⟩ = some (.int .i64 0) := fun k hk => by
    rw [World.cell?_setCells_out A _ 0 V ⟨B, k, none⟩ (fun h _ => absurd h.symm hne)]; exact hB k hk
  refine ⟨h1, fun k hk => ?_, fun k hk => ?_⟩
  · rw [World.cell?_setCells_out B _ 0 _ ⟨A, k, none⟩ (fun h _ => absurd h hne)]
    have := World.cell?_setCells_in A [a, b, c, d] 0 V (fun i hi => by rw [Nat.zero_add, hA i hi]; rfl) k hk
    rw [Nat.zero_add] at this
    rw [this, List.getElem?_eq_getElem hk]
  · have := World.cell?_setCells_in B [a', b', c', d'] 0 (V.setCells A 0 [a, b, c, d]) (fun i hi => by rw [Nat.zero_add, h1 i hi]; rfl) k hk
    rw [Nat.zero_add] at this
    rw [this, List.getElem?_eq_getElem hk]
set_option maxHeartbeats 8000000 in
set_option maxRecDepth 100000 in
theorem lateYes52 {w : World} {ge i : Nat} {s : Sh} {v pv : Value} {ns : List Nd} {sn : Nat → Bool} (hs : Loose s) (hv : ShF w ge v s) (hp : NdF w ge pv ns) (hS : SnR w ge ns.length sn) (hi : i < ns.length) (hsn : sn i = false) (hk : (ns.getD i N0).k = 3) (hy : (ns.getD i N0).a = 0 ∧ (ns.getD i N0).b = 0 ∧ (ns.getD i N0).l = 0 ∧ (ns.getD i N0).r = 0 ∧ 0 ≤ (ns.getD i N0).j ∧ (ns.getD i N0).j < s.os.length) :
    Calls Try.prog 52 #[v, pv, .int .i64 i, .slice (some ⟨ge, 0, none⟩) ns.length ns.length] w (RpEnd w ge ns.length (lateO s (ns.getD i N0).j.toNat, seeN sn i)) := by
  obtain ⟨ja, jc, oa, oc, rfl, rj, ro, fj, fo⟩ := hv
  obtain ⟨⟨pa, pc, rfl, hpc, hpat⟩, hpf⟩ := hp
  obtain ⟨n, hn⟩ : ∃ n, n = ns.length := ⟨_, rfl⟩
  obtain ⟨g, rfl, hg, n0, n1, n2, n3, n4, n5⟩ := hpat i hi
  have hgg : g ≠ ge := hpf g _ _ rfl
  obtain ⟨nj, hnj⟩ : ∃ nj, nj = s.js.length := ⟨_, rfl⟩
  obtain ⟨m, hm⟩ : ∃ m, m = (osI s).length := ⟨_, rfl⟩
  have hgew := hS.hgw
  have hb1 := below_alloc1 w (.cells #[.int .i64 s.P, .slice ja s.js.length jc, .slice oa (osI s).length oc] 25)
  have hS1 := hS.below hb1
  have s0 := hS1.seen i hi
  have f0 := hS1.fg i
  rw [hsn] at s0
  obtain ⟨⟨k, j, a, b, l, r⟩, hx⟩ : ∃ x, x = ns.getD i N0 := ⟨_, rfl⟩
  rw [← hx] at hk hy n0 n1 n2 n3 n4 n5
  try rw [← hx]
  simp only at hk hy n0 n1 n2 n3 n4 n5
  obtain ⟨W2, hW2⟩ : ∃ W2, W2 = (w.setCell ⟨ge, i, none⟩ (.bool true)).alloc (.cells #[.int .i64 s.P, .slice ja s.js.length jc, .slice oa (osI s).length oc] 25) := ⟨_, rfl⟩
  have hK2 : Kq ge w W2 := by rw [hW2]; exact (Kq.set ge i _ _).trans (Kq.of_below (below_alloc1 _ _))
  have hs2 : W2.heap.size = w.heap.size + 1 := by rw [hW2, World.size_alloc, World.size_setCell]
  have y0 := (hK2.cell hg hgg).trans n0
  have y1 := (hK2.cell hg hgg).trans n1
  have y2 := (hK2.cell hg hgg).trans n2
  have y3 := (hK2.cell hg hgg).trans n3
  have y4 := (hK2.cell hg hgg).trans n4
  have y5 := (hK2.cell hg hgg).trans n5
  have hS2 : SnR W2 ge ns.length (seeN sn i) := by rw [hW2]; exact (hS.see hi).below (below_alloc1 _ _)
  have z0 : W2.cell? ⟨w.heap.size, 0, none⟩ = some (.int .i64 s.P) := by rw [hW2, World.cell?_alloc_at (hn := by rw [World.size_setCell])]; rfl
  have z1 : W2.cell? ⟨w.heap.size, 1, none⟩ = some (.slice ja s.js.length jc) := by rw [hW2, World.cell?_alloc_at (hn := by rw [World.size_setCell])]; rfl
  have z2 : W2.cell? ⟨w.heap.size, 2, none⟩ = some (.slice oa (osI s).length oc) := by rw [hW2, World.cell?_alloc_at (hn := by rw [World.size_setCell])]; rfl
  obtain ⟨W, hW⟩ : ∃ W, W = W2.alloc (.cells #[.int .i64 k, .int .i64 j, .int .i64 a, .int .i64 b, .int .i64 l, .int .i64 r] 72) := ⟨_, rfl⟩
  have hbW : Below W2.heap.size W2 W := by rw [hW]; exact below_alloc1 _ _
  obtain ⟨m0, m1, m2, m3, m4, m5⟩ : W.cell? ⟨w.heap.size + 1, 0, none⟩ = some (.int .i64 k) ∧ W.cell? ⟨w.heap.size + 1, 1, none⟩ = some (.int .i64 j) ∧ W.cell? ⟨w.heap.size + 1, 2, none⟩ = some (.int .i64 a) ∧ W.cell? ⟨w.heap.size + 1, 3, none⟩ = some (.int .i64 b) ∧ W.cell? ⟨w.heap.size + 1, 4, none⟩ = some (.int .i64 l) ∧ W.cell? ⟨w.heap.size + 1, 5, none⟩ = some (.int .i64 r) := by
    rw [hW, ← hs2]; exact nd_new W2 _ _ _ _ _ _
  have u0 := (hbW.cell (p := ⟨w.heap.size, 0, none⟩) (by rw [hs2]; simp)).trans z0
  have u1 := (hbW.cell (p := ⟨w.heap.size, 1, none⟩) (by rw [hs2]; simp)).trans z1
  have u2 := (hbW.cell (p := ⟨w.heap.size, 2, none⟩) (by rw [hs2]; simp)).trans z2
  have hKW := hK2.trans (Kq.of_below hbW)
  have hSW := hS2.below hbW
  have hWs : W.heap.size = w.heap.size + 2 := by rw [hW]; simp [hs2]
  have hShW := Lib.hid (show ShV W (.agg #[.int .i64 s.P, .slice ja s.js.length jc, .slice oa (osI s).length oc]) s.P s.js (osI s) from ⟨_, _, rfl, rj.kp fj hKW, ro.kp fo hKW⟩)
  have hEnd := Lib.hid (fun (W' : World) (hb : Below W.heap.size W W') (d : Bool) => (show RpEnd w ge ns.length (d, seeN sn i) (.returned (.bool d)) W' from ⟨rfl, hSW.below hb, hKW.trans (Kq.of_below hb)⟩))
  have hin' : (i : Int) < (n : Int) := by omega
  have hge2 : ¬ (w.heap.size = ge) := by omega
  subst hk
  obtain ⟨rfl, rfl, rfl, rfl, j0, j1⟩ := hy
  obtain ⟨K, rfl⟩ : ∃ K : Nat, j = (K : Int) := ⟨j.toNat, by omega⟩
  have hKl : K < (osI s).length := by rw [osI_len]; omega
  have hKs : K < s.os.length := by rw [osI_len] at hKl; exact hKl
  obtain ⟨jv, ov, ev, rjW, roW⟩ := hShW.out
  obtain ⟨rfl, rfl⟩ : jv = .slice ja s.js.length jc ∧ ov = .slice oa (osI s).length oc := by cases ev; exact ⟨rfl, rfl⟩
  obtain ⟨ao, c, ea, hoc, hoat⟩ := roW.at
  obtain ⟨og, rfl, hog, o0, o1⟩ := hoat K hKl
  obtain ⟨rfl, rfl⟩ : oa = some ⟨og, 0, none⟩ ∧ oc = c := by cases ea; exact ⟨rfl, rfl⟩
  rw [osI_at] at o0 o1
  obtain ⟨⟨p, q⟩, hpq⟩ : ∃ o, o = s.os.getD K (0, 0) := ⟨_, rfl⟩
  have hmem : (p, q) ∈ s.os := by rw [hpq, List.getD_eq_getElem?_getD, List.getElem?_eq_getElem hKs]; exact List.getElem_mem _
  obtain ⟨hp1, hq1, -⟩ := hs.orders _ hmem
  have hla : lateO s K = decide (lat (s.job q) < (s.job p).f + (s.job p).l) := by unfold lateO; rw [← hpq]
  rw [← hpq] at o0 o1
  simp only at o0 o1 hp1 hq1
  have e1 : (K : Int).toNat = K := by simp
  rw [e1, hla]
  obtain ⟨jo, c2, eb, hjc, hjat⟩ := rjW.at
  obtain ⟨jg, rfl, hjg, p0, p1, p2, p3⟩ := hjat p hp1
  obtain ⟨jg2, eq2, -, q0, q1, q2, q3⟩ := hjat q hq1
  obtain rfl : jg = jg2 := by cases eq2; rfl
  obtain ⟨rfl, rfl⟩ : ja = some ⟨jg, 0, none⟩ ∧ jc = c2 := by cases eb; exact ⟨rfl, rfl⟩
  have hJp := hs.jobs p hp1
  have hJq := hs.jobs q hq1
  rw [show s.js.getD p J0 = s.job p from rfl] at p0 p1 p2 p3
  rw [show s.js.getD q J0 = s.job q from rfl] at q0 q1 q2 q3
  obtain ⟨⟨f1, t1, l1, v1⟩, hjp⟩ : ∃ y, y = s.job p := ⟨_, rfl⟩
  obtain ⟨⟨f2, t2, l2, v2⟩, hjq⟩ : ∃ y, y = s.job q := ⟨_, rfl⟩
  rw [← hjp] at hJp p0 p1 p2 p3
  rw [← hjq] at hJq q0 q1 q2 q3
  rw [← hjp, ← hjq]
  unfold lat
  simp only at p0 p1 p2 p3 q0 q1 q2 q3 hJp hJq ⊢
  obtain ⟨W3, hW3⟩ : ∃ W3, W3 = W.alloc (.cells #[.int .i64 (p : Int), .int .i64 (q : Int)] 78) := ⟨_, rfl⟩
  have hb3 : Below W.heap.size W W3 := by rw [hW3]; exact below_alloc1 _ _
  have k0 : W3.cell? ⟨w.heap.size + 2, 0, none⟩ = some (.int .i64 p) := by rw [hW3, World.cell?_alloc_at (hn := by omega)]; rfl
  have k1 : W3.cell? ⟨w.heap.size + 2, 1, none⟩ = some (.int .i64 q) := by rw [hW3, World.cell?_alloc_at (hn := by omega)]; rfl
  have P0 := (hb3.cell (p := ⟨jg, p * 4, none⟩) hjg).trans p0
  have P1 := (hb3.cell (p := ⟨jg, p * 4 + 1, none⟩) hjg).trans p1
  have P2 := (hb3.cell (p := ⟨jg, p * 4 + 2, none⟩) hjg).trans p2
  have P3 := (hb3.cell (p := ⟨jg, p * 4 + 3, none⟩) hjg).trans p3
  have Q0 := (hb3.cell (p := ⟨jg, q * 4, none⟩) hjg).trans q0
  have Q1 := (hb3.cell (p := ⟨jg, q * 4 + 1, none⟩) hjg).trans q1
  have Q2 := (hb3.cell (p := ⟨jg, q * 4 + 2, none⟩) hjg).trans q2
  have Q3 := (hb3.cell (p := ⟨jg, q * 4 + 3, none⟩) hjg).trans q3
  have U1 := (hb3.cell (p := ⟨w.heap.size, 1, none⟩) (by show w.heap.size < _; omega)).trans u1
  have hEnd3 := Lib.hid (fun (W' : World) (hb : Below W3.heap.size W3 W') (d : Bool) => hEnd.out W' (below_call hb3 hb) d)
  have hB0 := Lib.hid (show w.heap.size < W3.heap.size by rw [hW3]; simp; omega)
  have hB2 := Lib.hid (show w.heap.size + 2 < W3.heap.size by rw [hW3]; simp; omega)
  have hBj := Lib.hid (show jg < W3.heap.size by rw [hW3]; simp; omega)
  have hW3s : W3.heap.size = w.heap.size + 1 + 1 + 1 := by rw [hW3]; simp [hWs]
  have hsw1 := Lib.hid (show IntKind.i64.wrap ((m : Int) - 1) = (m : Int) - 1 from IntWalk.i64_in _ (by rw [hm, osI_len]; have := hs.few; omega))
  have hI1 := Lib.hid (fun (W' : World) => (in41 (w := W') K 0 ((m : Int) - 1)).mono (R' := fun e w' => e = .returned (.bool true) ∧ W' = w') (fun e w' he => by
      rw [show (decide (0 ≤ (K : Int)) && decide ((K : Int) ≤ (m : Int) - 1)) = true from by simp only [Bool.and_eq_true, decide_eq_true_eq]; rw [hm]; omega] at he; exact he))
  have hKm : (K : Int) < (m : Int) := by rw [hm]; omega
  have hKm' : K < m := by omega
  have hpn : (p : Int) < (nj : Int) := by rw [hnj]; show (p : Int) < (s.n : Int); omega
  have hqn : (q : Int) < (nj : Int) := by rw [hnj]; show (q : Int) < (s.n : Int); omega
  rw [← hm] at hoc
  rw [← hnj] at hjc U1
  rw [← hn] at hEnd3
  rw [← hnj, ← hm] at s0 f0 hW2 hShW
  rw [← hnj] at u1
  rw [← hm] at u2
  rw [← hn] at hEnd hi
  rw [← hnj, ← hm, ← hn]
  clear hoat hjat rjW roW ea eb eq2 ev hmem hpq hla e1 hjp hjq hp1 hq1 hKl hKs j1 p0 p1 p2 p3 q0 q1 q2 q3 hb3
  clear hpat hn hS hS1 hb1 n0 n1 n2 n3 n4 n5 z0 z1 z2 hpf hx hS2 hKW hSW hK2 hbW
  clear rj ro fj fo hs hnj hm hShW hEnd
  go_enter Try.func52, Try.ntmps52
  go_upto_region 4 with fail
  rw [← hW2]
  clear hW2 s0 f0
  go_upto_region 5 with fail
  rw [← hW]
  clear hW y0 y1 y2 y3 y4 y5
  clear hge2 hin' hi hsn hgew hg hgg hpc hs2
  have sw := hsw1.out
  go_upto_region 12 with (go_at_call 41; refine (hI1.out _).mono ?_; rintro e w2 ⟨rfl, rfl⟩)
  rw [← hW3]
  clear hW3 u0 u1 u2 m0 m1 m2 m3 m4 m5 o0 o1 hWs sw hsw1 hI1
  refine wp_region_noPanic ?_
  refine wp_region_any (by kernel_rfl) (wpAny_of_held (S := fun w' => Below W3.heap.size W3 w') _ _ _ _ ?_)
  have hHeld : Below W3.heap.size W3 W3.drew := (Below.refl _ _).drew
  change wpAnyH _ _ _ _ _ _ _ _ W3.drew
  simp only [List.size_toArray, List.length_cons, List.length_nil, Nat.reduceAdd, Array.replicate_succ, Array.replicate_zero, List.push_toArray, List.nil_append, List.cons_append]
  refine wpAnyH_take (i := 0) (v := .pointer (some ⟨w.heap.size, 1, none⟩)) rfl (by as_aux_lemma => kernel_rfl) (by as_aux_lemma => kernel_rfl) (by as_aux_lemma => kernel_rfl) (fun _ _ _ h => h) (Or.inl ⟨by rfl, ?_⟩) hHeld ?_
  · intro w' hSw; go_simp
  simp only [Act.put, List.setIfInBounds_toArray, List.set_cons_zero, List.set_cons_succ, List.getElem_toArray, List.getElem_cons_zero]
  refine wpAnyH_take (i := 1) (v := .slice (some ⟨jg, 0, none⟩) nj jc) rfl (by as_aux_lemma => kernel_rfl) (by as_aux_lemma => kernel_rfl) (by as_aux_lemma => kernel_rfl) (fun _ _ _ h => h) (Or.inl ⟨by rfl, ?_⟩) hHeld ?_
  · intro w' hSw; have cU1 := (hSw.cell (p := ⟨w.heap.size, 1, none⟩) hB0.out).trans U1; go_simp
  simp only [Act.put, List.setIfInBounds_toArray, List.set_cons_zero, List.set_cons_succ, List.getElem_toArray, List.getElem_cons_succ, List.getElem_cons_zero]
  refine wpAnyH_take (i := 2) (v := .pointer (some ⟨w.heap.size + 2, 0, none⟩)) rfl (by as_aux_lemma => kernel_rfl) (by as_aux_lemma => kernel_rfl) (by as_aux_lemma => kernel_rfl) (fun _ _ _ h => h) (Or.inl ⟨by rfl, ?_⟩) hHeld ?_
  · intro w' hSw; go_simp
  simp only [Act.put, List.setIfInBounds_toArray, List.set_cons_zero, List.set_cons_succ, List.getElem_toArray, List.getElem_cons_succ, List.getElem_cons_zero]
  refine wpAnyH_take (i := 3) (v := .int .i64 p) rfl (by as_aux_lemma => kernel_rfl) (by as_aux_lemma => kernel_rfl) (by as_aux_lemma => kernel_rfl) (fun _ _ _ h => h) (Or.inl ⟨by rfl, ?_⟩) hHeld ?_
  · intro w' hSw; have ck0 := (hSw.cell (p := ⟨w.heap.size + 2, 0, none⟩) hB2.out).trans k0; go_simp
  simp only [Act.put, List.setIfInBounds_toArray, List.set_cons_zero, List.set_cons_succ, List.getElem_toArray, List.getElem_cons_succ, List.getElem_cons_zero]
  refine wpAnyH_take (i := 4) (v := .pointer (some ⟨jg, p * 4, none⟩)) rfl (by as_aux_lemma => kernel_rfl) (by as_aux_lemma => kernel_rfl) (by as_aux_lemma => kernel_rfl) (fun _ _ _ h => h) (Or.inl ⟨by rfl, ?_⟩) hHeld ?_
  · intro w' hSw; go_simp
  simp only [Act.put, List.setIfInBounds_toArray, List.set_cons_zero, List.set_cons_succ, List.getElem_toArray, List.getElem_cons_succ, List.getElem_cons_zero]
  refine wpAnyH_take (i := 5) (v := .agg #[.int .i64 f1, .int .i64 t1, .int .i64 l1, .int .i64 v1]) rfl (by as_aux_lemma => kernel_rfl) (by as_aux_lemma => kernel_rfl) (by as_aux_lemma => kernel_rfl) (fun _ _ _ h => h) (Or.inl ⟨by rfl, ?_⟩) hHeld ?_
  · intro w' hSw; have cP0 := (hSw.cell (p := ⟨jg, p * 4, none⟩) hBj.out).trans P0; have cP1 := (hSw.cell (p := ⟨jg, p * 4 + 1, none⟩) hBj.out).trans P1; have cP2 := (hSw.cell (p := ⟨jg, p * 4 + 2, none⟩) hBj.out).trans P2; have cP3 := (hSw.cell (p := ⟨jg, p * 4 + 3, none⟩) hBj.out).trans P3; go_simp
  simp only [Act.put, List.setIfInBounds_toArray, List.set_cons_zero, List.set_cons_succ, List.getElem_toArray, List.getElem_cons_succ, List.getElem_cons_zero]
  refine wpAnyH_take (i := 6) (v := .pointer (some ⟨w.heap.size, 1, none⟩)) rfl (by as_aux_lemma => kernel_rfl) (by as_aux_lemma => kernel_rfl) (by as_aux_lemma => kernel_rfl) (fun _ _ _ h => h) (Or.inl ⟨by rfl, ?_⟩) hHeld ?_
  · intro w' hSw; go_simp
  simp only [Act.put, List.setIfInBounds_toArray, List.set_cons_zero, List.set_cons_succ, List.getElem_toArray, List.getElem_cons_succ, List.getElem_cons_zero]
  refine wpAnyH_take (i := 7) (v := .slice (some ⟨jg, 0, none⟩) nj jc) rfl (by as_aux_lemma => kernel_rfl) (by as_aux_lemma => kernel_rfl) (by as_aux_lemma => kernel_rfl) (fun _ _ _ h => h) (Or.inl ⟨by rfl, ?_⟩) hHeld ?_
  · intro w' hSw; have cU1 := (hSw.cell (p := ⟨w.heap.size, 1, none⟩) hB0.out).trans U1; go_simp
  simp only [Act.put, List.setIfInBounds_toArray, List.set_cons_zero, List.set_cons_succ, List.getElem_toArray, List.getElem_cons_succ, List.getElem_cons_zero]
  refine wpAnyH_take (i := 8) (v := .pointer (some ⟨w.heap.size + 2, 1, none⟩)) rfl (by as_aux_lemma => kernel_rfl) (by as_aux_lemma => kernel_rfl) (by as_aux_lemma => kernel_rfl) (fun _ _ _ h => h) (Or.inl ⟨by rfl, ?_⟩) hHeld ?_
  · intro w' hSw; go_simp
  simp only [Act.put, List.setIfInBounds_toArray, List.set_cons_zero, List.set_cons_succ, List.getElem_toArray, List.getElem_cons_succ, List.getElem_cons_zero]
  refine wpAnyH_take (i := 9) (v := .int .i64 q) rfl (by as_aux_lemma => kernel_rfl) (by as_aux_lemma => kernel_rfl) (by as_aux_lemma => kernel_rfl) (fun _ _ _ h => h) (Or.inl ⟨by rfl, ?_⟩) hHeld ?_
  · intro w' hSw; have ck1 := (hSw.cell (p := ⟨w.heap.size + 2, 1, none⟩) hB2.out).trans k1; go_simp
  simp only [Act.put, List.setIfInBounds_toArray, List.set_cons_zero, List.set_cons_succ, List.getElem_toArray, List.getElem_cons_succ, List.getElem_cons_zero]
  refine wpAnyH_take (i := 10) (v := .pointer (some ⟨jg, q * 4, none⟩)) rfl (by as_aux_lemma => kernel_rfl) (by as_aux_lemma => kernel_rfl) (by as_aux_lemma => kernel_rfl) (fun _ _ _ h => h) (Or.inl ⟨by rfl, ?_⟩) hHeld ?_
  · intro w' hSw; go_simp
  simp only [Act.put, List.setIfInBounds_toArray, List.set_cons_zero, List.set_cons_succ, List.getElem_toArray, List.getElem_cons_succ, List.getElem_cons_zero]
  refine wpAnyH_take (i := 11) (v := .agg #[.int .i64 f2, .int .i64 t2, .int .i64 l2, .int .i64 v2]) rfl (by as_aux_lemma => kernel_rfl) (by as_aux_lemma => kernel_rfl) (by as_aux_lemma => kernel_rfl) (fun _ _ _ h => h) (Or.inl ⟨by rfl, ?_⟩) hHeld ?_
  · intro w' hSw; have cQ0 := (hSw.cell (p := ⟨jg, q * 4, none⟩) hBj.out).trans Q0; have cQ1 := (hSw.cell (p := ⟨jg, q * 4 + 1, none⟩) hBj.out).trans Q1; have cQ2 := (hSw.cell (p := ⟨jg, q * 4 + 2, none⟩) hBj.out).trans Q2; have cQ3 := (hSw.cell (p := ⟨jg, q * 4 + 3, none⟩) hBj.out).trans Q3; go_simp
  simp only [Act.put, List.setIfInBounds_toArray, List.set_cons_zero, List.set_cons_succ, List.getElem_toArray, List.getElem_cons_succ, List.getElem_cons_zero]
  clear P0 P1 P2 P3 Q0 Q1 Q2 Q3 U1 k0 k1
  refine wpAnyH_ready (rs := [12, 13]) (by kernel_rfl) (by simp) ?_
  refine AllReadyH.cons rfl (fun K hK => ?_) (AllReadyH.cons rfl (fun K hK => ?_) AllReadyH.nil)
  · go_simp
    refine hK.out _ _ (hHeld.alloc (Nat.le_refl _) _) (fun hHeld => ?_)
    clear hK K
    simp only [List.setIfInBounds_toArray, List.set_cons_zero, List.set_cons_succ]
    refine wpAnyH_ready (rs := [13]) (by kernel_rfl) (by simp) ?_
    refine AllReadyH.cons rfl (fun K hK => ?_) AllReadyH.nil
    go_simp
    refine hK.out _ _ (hHeld.alloc (by simp) _) (fun hHeld => ?_)
    clear hK K
    simp only [List.setIfInBounds_toArray, List.set_cons_zero, List.set_cons_succ]
    clear hHeld
    obtain ⟨V, hV⟩ : ∃ V, V = ((W3.alloc (.cells #[.int .i64 0, .int .i64 0, .int .i64 0, .int .i64 0] 56)).alloc (.cells #[.int .i64 0, .int .i64 0, .int .i64 0, .int .i64 0] 56)).drew := ⟨_, rfl⟩
    obtain ⟨xA, xB, fA, fB, hHeld⟩ := two_new W3 V hV
    rw [hW3s] at xA xB fA fB
    rw [← hV]
    obtain ⟨Bb, hBb⟩ : ∃ Bb, Bb = w.heap.size + 1 + 1 + 1 + 1 := ⟨_, rfl⟩
    rw [← hBb] at xB fB ⊢
    obtain ⟨Ab, hAb⟩ : ∃ Ab, Ab = w.heap.size + 1 + 1 + 1 := ⟨_, rfl⟩
    rw [← hAb] at xA fA ⊢
    have hAB : Ab ≠ Bb := by omega
    have hA3 : W3.heap.size ≤ Ab := by omega
    have hB3 : W3.heap.size ≤ Bb := by omega
    obtain ⟨y1, y2, y3⟩ := two_set hAB xA xB (.int .i64 f1) (.int .i64 t1) (.int .i64 l1) (.int .i64 v1) (.int .i64 f2) (.int .i64 t2) (.int .i64 l2) (.int .i64 v2)
    have a0 := xA 0 (by omega)
    have g0 := fA 0
    have a1 := xA 1 (by omega)
    have g1 := fA 1
    have a2 := xA 2 (by omega)
    have g2 := fA 2
    have a3 := xA 3 (by omega)
    have g3 := fA 3
    refine wpAnyH_ready (rs := [14]) (by kernel_rfl) (by simp) ?_
    refine AllReadyH.cons rfl (fun K hK => ?_) AllReadyH.nil
    have hH2 := Lib.hid (below_setC (g := Ab) hA3 [.int .i64 f1, .int .i64 t1, .int .i64 l1, .int .i64 v1] 0 V hHeld)
    have hH3 := Lib.hid (below_setC (g := Bb) hB3 [.int .i64 f2, .int .i64 t2, .int .i64 l2, .int .i64 v2] 0 _ hH2.out)
    have y1' := Lib.hid y1
    have y2' := Lib.hid y2
    have y3' := Lib.hid y3
    have fz := Lib.hid fB
    clear y1 y2 y3 hV xA xB fA fB hHeld hAb hBb
    go_simp
    refine hK.out _ _ hH2.out (fun hHeld => ?_)
    clear hK K a0 a1 a2 a3 g0 g1 g2 g3
    simp only [List.setIfInBounds_toArray, List.set_cons_zero, List.set_cons_succ]
    obtain ⟨V1, hV1⟩ : ∃ V1, V1 = ((((V.setCell ⟨Ab, 0, none⟩ (.int .i64 f1)).setCell ⟨Ab, 1, none⟩ (.int .i64 t1)).setCell ⟨Ab, 2, none⟩ (.int .i64 l1)).setCell ⟨Ab, 3, none⟩ (.int .i64 v1)) := ⟨_, rfl⟩
    rw [← hV1] at hHeld ⊢
    have a0 : V1.cell? ⟨Bb, 0, none⟩ = some (.int .i64 0) := by rw [hV1]; exact y1'.out 0 (by omega)
    have g0 : V1.frozen? ⟨Bb, 0, none⟩ = false := by rw [hV1]; simp only [World.frozen?_setCell]; exact fz.out 0
    have a1 : V1.cell? ⟨Bb, 1, none⟩ = some (.int .i64 0) := by rw [hV1]; exact y1'.out 1 (by omega)
    have g1 : V1.frozen? ⟨Bb, 1, none⟩ = false := by rw [hV1]; simp only [World.frozen?_setCell]; exact fz.out 1
    have a2 : V1.cell? ⟨Bb, 2, none⟩ = some (.int .i64 0) := by rw [hV1]; exact y1'.out 2 (by omega)
    have g2 : V1.frozen? ⟨Bb, 2, none⟩ = false := by rw [hV1]; simp only [World.frozen?_setCell]; exact fz.out 2
    have a3 : V1.cell? ⟨Bb, 3, none⟩ = some (.int .i64 0) := by rw [hV1]; exact y1'.out 3 (by omega)
    have g3 : V1.frozen? ⟨Bb, 3, none⟩ = false := by rw [hV1]; simp only [World.frozen?_setCell]; exact fz.out 3
    refine wpAnyH_ready (rs := [15]) (by kernel_rfl) (by simp) ?_
    refine AllReadyH.cons rfl (fun K hK => ?_) AllReadyH.nil
    have hV1' := Lib.hid hV1
    clear hV1 hHeld
    go_simp
    refine hK.out _ _ (by rw [hV1'.out]; exact hH3.out) (fun hHeld => ?_)
    clear hK K a0 a1 a2 a3 g0 g1 g2 g3
    simp only [List.setIfInBounds_toArray, List.set_cons_zero, List.set_cons_succ]
    obtain ⟨V2, hV2⟩ : ∃ V2, V2 = ((((V1.setCell ⟨Bb, 0, none⟩ (.int .i64 f2)).setCell ⟨Bb, 1, none⟩ (.int .i64 t2)).setCell ⟨Bb, 2, none⟩ (.int .i64 l2)).setCell ⟨Bb, 3, none⟩ (.int .i64 v2)) := ⟨_, rfl⟩
    rw [← hV2] at hHeld ⊢
    have rf1 : V2.cell? ⟨Ab, 0, none⟩ = some (.int .i64 f1) := by rw [hV2, hV1'.out]; exact y2'.out 0 (by omega)
    have rt1 : V2.cell? ⟨Ab, 1, none⟩ = some (.int .i64 t1) := by rw [hV2, hV1'.out]; exact y2'.out 1 (by omega)
    have rl1 : V2.cell? ⟨Ab, 2, none⟩ = some (.int .i64 l1) := by rw [hV2, hV1'.out]; exact y2'.out 2 (by omega)
    have rv1 : V2.cell? ⟨Ab, 3, none⟩ = some (.int .i64 v1) := by rw [hV2, hV1'.out]; exact y2'.out 3 (by omega)
    have rf2 : V2.cell? ⟨Bb, 0, none⟩ = some (.int .i64 f2) := by rw [hV2, hV1'.out]; exact y3'.out 0 (by omega)
    have rt2 : V2.cell? ⟨Bb, 1, none⟩ = some (.int .i64 t2) := by rw [hV2, hV1'.out]; exact y3'.out 1 (by omega)
    have rl2 : V2.cell? ⟨Bb, 2, none⟩ = some (.int .i64 l2) := by rw [hV2, hV1'.out]; exact y3'.out 2 (by omega)
    have rv2 : V2.cell? ⟨Bb, 3, none⟩ = some (.int .i64 v2) := by rw [hV2, hV1'.out]; exact y3'.out 3 (by omega)
    clear hV2
    refine wpAnyH_done (by kernel_rfl) ?_ _
    refine NoPanic.normal ?_
    have sw4 : IntKind.i64.wrap (f1 + l1) = f1 + l1 := IntWalk.i64_in _ (by omega)
    have sw5 : IntKind.i64.wrap (t2 - l2) = t2 - l2 := IntWalk.i64_in _ (by omega)
    have hHl := Lib.hid hHeld
    clear hHeld
    go_wp2_with fail
    go_ret
    exact hEnd3.out _ hHl.out _
  · go_simp
    refine hK.out _ _ (hHeld.alloc (Nat.le_refl _) _) (fun hHeld => ?_)
    clear hK K
    simp only [List.setIfInBounds_toArray, List.set_cons_zero, List.set_cons_succ]
    refine wpAnyH_ready (rs := [12]) (by kernel_rfl) (by simp) ?_
    refine AllReadyH.cons rfl (fun K hK => ?_) AllReadyH.nil
    go_simp
    refine hK.out _ _ (hHeld.alloc (by simp) _) (fun hHeld => ?_)
    clear hK K
    simp only [List.setIfInBounds_toArray, List.set_cons_zero, List.set_cons_succ]
    clear hHeld
    obtain ⟨V, hV⟩ : ∃ V, V = ((W3.alloc (.cells #[.int .i64 0, .int .i64 0, .int .i64 0, .int .i64 0] 56)).alloc (.cells #[.int .i64 0, .int .i64 0, .int .i64 0, .int .i64 0] 56)).drew := ⟨_, rfl⟩
    obtain ⟨xA, xB, fA, fB, hHeld⟩ := two_new W3 V hV
    rw [hW3s] at xA xB fA fB
    rw [← hV]
    obtain ⟨Bb, hBb⟩ : ∃ Bb, Bb = w.heap.size + 1 + 1 + 1 + 1 := ⟨_, rfl⟩
    rw [← hBb] at xB fB ⊢
    obtain ⟨Ab, hAb⟩ : ∃ Ab, Ab = w.heap.size + 1 + 1 + 1 := ⟨_, rfl⟩
    rw [← hAb] at xA fA ⊢
    have hAB : Ab ≠ Bb := by omega
    have hA3 : W3.heap.size ≤ Ab := by omega
    have hB3 : W3.heap.size ≤ Bb := by omega
    obtain ⟨y1, y2, y3⟩ := two_set hAB.symm xB xA (.int .i64 f1) (.int .i64 t1) (.int .i64 l1) (.int .i64 v1) (.int .i64 f2) (.int .i64 t2) (.int .i64 l2) (.int .i64 v2)
    have a0 := xB 0 (by omega)
    have g0 := fB 0
    have a1 := xB 1 (by omega)
    have g1 := fB 1
    have a2 := xB 2 (by omega)
    have g2 := fB 2
    have a3 := xB 3 (by omega)
    have g3 := fB 3
    refine wpAnyH_ready (rs := [14]) (by kernel_rfl) (by simp) ?_
    refine AllReadyH.cons rfl (fun K hK => ?_) AllReadyH.nil
    have hH2 := Lib.hid (below_setC (g := Bb) hB3 [.int .i64 f1, .int .i64 t1, .int .i64 l1, .int .i64 v1] 0 V hHeld)
    have hH3 := Lib.hid (below_setC (g := Ab) hA3 [.int .i64 f2, .int .i64 t2, .int .i64 l2, .int .i64 v2] 0 _ hH2.out)
    have y1' := Lib.hid y1
    have y2' := Lib.hid y2
    have y3' := Lib.hid y3
    have fz := Lib.hid fA
    clear y1 y2 y3 hV xA xB fA fB hHeld hAb hBb
    go_simp
    refine hK.out _ _ hH2.out (fun hHeld => ?_)
    clear hK K a0 a1 a2 a3 g0 g1 g2 g3
    simp only [List.setIfInBounds_toArray, List.set_cons_zero, List.set_cons_succ]
    obtain ⟨V1, hV1⟩ : ∃ V1, V1 = ((((V.setCell ⟨Bb, 0, none⟩ (.int .i64 f1)).setCell ⟨Bb, 1, none⟩ (.int .i64 t1)).setCell ⟨Bb, 2, none⟩ (.int .i64 l1)).setCell ⟨Bb, 3, none⟩ (.int .i64 v1)) := ⟨_, rfl⟩
    rw [← hV1] at hHeld ⊢
    have a0 : V1.cell? ⟨Ab, 0, none⟩ = some (.int .i64 0) := by rw [hV1]; exact y1'.out 0 (by omega)
    have g0 : V1.frozen? ⟨Ab, 0, none⟩ = false := by rw [hV1]; simp only [World.frozen?_setCell]; exact fz.out 0
    have a1 : V1.cell? ⟨Ab, 1, none⟩ = some (.int .i64 0) := by rw [hV1]; exact y1'.out 1 (by omega)
    have g1 : V1.frozen? ⟨Ab, 1, none⟩ = false := by rw [hV1]; simp only [World.frozen?_setCell]; exact fz.out 1
    have a2 : V1.cell? ⟨Ab, 2, none⟩ = some (.int .i64 0) := by rw [hV1]; exact y1'.out 2 (by omega)
    have g2 : V1.frozen? ⟨Ab, 2, none⟩ = false := by rw [hV1]; simp only [World.frozen?_setCell]; exact fz.out 2
    have a3 : V1.cell? ⟨Ab, 3, none⟩ = some (.int .i64 0) := by rw [hV1]; exact y1'.out 3 (by omega)
    have g3 : V1.frozen? ⟨Ab, 3, none⟩ = false := by rw [hV1]; simp only [World.frozen?_setCell]; exact fz.out 3
    refine wpAnyH_ready (rs := [15]) (by kernel_rfl) (by simp) ?_
    refine AllReadyH.cons rfl (fun K hK => ?_) AllReadyH.nil
    have hV1' := Lib.hid hV1
    clear hV1 hHeld
    go_simp
    refine hK.out _ _ (by rw [hV1'.out]; exact hH3.out) (fun hHeld => ?_)
    clear hK K a0 a1 a2 a3 g0 g1 g2 g3
    simp only [List.setIfInBounds_toArray, List.set_cons_zero, List.set_cons_succ]
    obtain ⟨V2, hV2⟩ : ∃ V2, V2 = ((((V1.setCell ⟨Ab, 0, none⟩ (.int .i64 f2)).setCell ⟨Ab, 1, none⟩ (.int .i64 t2)).setCell ⟨Ab, 2, none⟩ (.int .i64 l2)).setCell ⟨Ab, 3, none⟩ (.int .i64 v2)) := ⟨_, rfl⟩
    rw [← hV2] at hHeld ⊢
    have rf1 : V2.cell? ⟨Bb, 0, none⟩ = some (.int .i64 f1) := by rw [hV2, hV1'.out]; exact y2'.out 0 (by omega)
    have rt1 : V2.cell? ⟨Bb, 1, none⟩ = some (.int .i64 t1) := by rw [hV2, hV1'.out]; exact y2'.out 1 (by omega)
    have rl1 : V2.cell? ⟨Bb, 2, none⟩ = some (.int .i64 l1) := by rw [hV2, hV1'.out]; exact y2'.out 2 (by omega)
    have rv1 : V2.cell? ⟨Bb, 3, none⟩ = some (.int .i64 v1) := by rw [hV2, hV1'.out]; exact y2'.out 3 (by omega)
    have rf2 : V2.cell? ⟨Ab, 0, none⟩ = some (.int .i64 f2) := by rw [hV2, hV1'.out]; exact y3'.out 0 (by omega)
    have rt2 : V2.cell? ⟨Ab, 1, none⟩ = some (.int .i64 t2) := by rw [hV2, hV1'.out]; exact y3'.out 1 (by omega)
    have rl2 : V2.cell? ⟨Ab, 2, none⟩ = some (.int .i64 l2) := by rw [hV2, hV1'.out]; exact y3'.out 2 (by omega)
    have rv2 : V2.cell? ⟨Ab, 3, none⟩ = some (.int .i64 v2) := by rw [hV2, hV1'.out]; exact y3'.out 3 (by omega)
    clear hV2
    refine wpAnyH_done (by kernel_rfl) ?_ _
    refine NoPanic.normal ?_
    have sw4 : IntKind.i64.wrap (f1 + l1) = f1 + l1 := IntWalk.i64_in _ (by omega)
    have sw5 : IntKind.i64.wrap (t2 - l2) = t2 - l2 := IntWalk.i64_in _ (by omega)
    have hHl := Lib.hid hHeld
    clear hHeld
    go_wp2_with fail
    go_ret
    exact hEnd3.out _ hHl.out _
end Go.Proofs.Ytjkbhdlbomcbeaa

namespace Go.Proofs.Ytjkbhdlbomcbeaa
open Go.RowKit Go.Shelf Shf

/-! ## Regions that draw their order, within a round: as everywhere, where nothing is put off -/
/-- No operation is put off. -/
def noDefer (ops : Array Oper) : Bool := ops.all fun o => match o.op with | .defer _ => false | _ => true
theorem noDefer_at {ops : Array Oper} (h : noDefer ops = true) {i : Nat} {o : Oper} (ho : ops[i]? = some o) : ∀ c, o.op ≠ .defer c := by
  intro c hc
  obtain ⟨hi, he⟩ := Array.getElem?_eq_some_iff.1 ho
  have := (Array.all_eq_true.1 h) i hi
  rw [he, hc] at this
  simp at this

theorem opIn_of_op {l n : Nat} {P : Program} {o : Oper} {a : Act} {w : World} {K K' : Act → World → Prop} {Q : Exit → Act → World → Prop} (hQ : ¬ LetsOut Q) (hd : ∀ c, o.op ≠ .defer c)
    (hK : ∀ a w, K a w → K' a w) (h : o.wp P a w K Q ∨ (o.asks P a w ∧ LetsOut Q)) : o.wpIn (Fence.wide.inRound l) n P a w K' Q := by
  have h : o.wp P a w K Q := by
    rcases h with h | h
    · exact h
    · exact absurd h.2 hQ
  unfold Oper.wp at h
  unfold Oper.wpIn
  refine ⟨fun _ _ => trivial, ?_⟩
  rw [Oper.semAt_plain (Fence.wide.inRound l) _ _ hd]
  generalize (execOp a.eval o).run P w = r at *
  cases r with
  | ok x w' =>
    cases x with
    | value v => exact hK _ _ h
    | skip => exact hK _ _ h
    | defer d => exact hK _ _ h
    | enter f args =>
      refine ⟨fun hf => by simp [Fence.wide] at hf, ?_⟩
      refine CallsIn.inRound l ((callsIn_wide.2 h).mono ?_)
      intro e w'' he
      cases e with
      | returned v => exact hK _ _ he
      | panicked ch => exact he
      | outgrown => exact he
    | row row args =>
      refine ⟨fun hf => by simp [Fence.wide] at hf, fun c cs _ => ?_⟩
      obtain ⟨v, w'', h1, h2⟩ := h c cs
      exact ⟨v, w'', hK _ _ h1, stepsIn_wide.2 h2⟩
    | _ => exact h.elim
  | halt x w' => cases x <;> first | exact h | exact h.elim

theorem opsIn_of_ops {l n : Nat} {P : Program} {ops : Array Oper} {Q : Exit → Act → World → Prop} (hQ : ¬ LetsOut Q) (hd : noDefer ops = true) :
    ∀ (L : List Nat) (a : Act) (w : World), wpOps P ops Q L a w → wpOpsIn (Fence.wide.inRound l) n P ops Q L a w
  | [], _, _, h => h
  | i :: L, a, w, h => by
    rw [wpOpsIn]
    rw [wpOps] at h
    cases ho : ops[i]? with
    | none => rw [ho] at h; exact opsIn_of_ops hQ hd L a w h
    | some o =>
      rw [ho] at h
      simp only at h ⊢
      by_cases hw : Region.wanted o (yielded ops a.tmps) = true
      · rw [if_pos hw] at h ⊢
        exact opIn_of_op hQ (noDefer_at hd ho) (fun a w => opsIn_of_ops hQ hd L a w) h
      · rw [if_neg hw] at h ⊢
        exact ⟨fun _ _ => trivial, opsIn_of_ops hQ hd L _ w h⟩

theorem inRound_any {l n : Nat} {P : Program} {id : Nat} {ops : Array Oper} {Q : Exit → Act → World → Prop} {a : Act} {w : World} (hQ : ¬ LetsOut Q) (hm : P.follows .mixedOrders = true) (hd : noDefer ops = true)
    (h : wpAny P .any ops Q ops.size (Array.replicate ops.size false) a { w with drawn := w.drawn + 1 }) : (Code.region id ops true).wpIn (Fence.wide.inRound l) n P Q a w :=
  wpIn_region_draw fun t => by
    simp only [Region.schedule, hm, Bool.true_or, if_true]
    exact opsIn_of_ops hQ hd _ _ _ (wpAny_sound ops.size t _ a _ h)

/-- To the end alone. -/
def Nrm (Q : Exit → Act → World → Prop) : Exit → Act → World → Prop
  | .normal, a, w => Q .normal a w
  | _, _, _ => False
theorem nrm_letsOut {Q : Exit → Act → World → Prop} : ¬ LetsOut (Nrm Q) := fun ⟨_, _, h⟩ => h
theorem Nrm.imp {Q : Exit → Act → World → Prop} : ∀ (e : Exit) (a : Act) (w : World), Nrm Q e a w → Q e a w := fun e a w h => by
  cases e <;> first | exact h | exact h.elim
theorem Nrm.normal {Q : Exit → Act → World → Prop} {a : Act} {w : World} (h : Q .normal a w) : Nrm Q .normal a w := h
theorem inRound_held {l n : Nat} {P : Program} {id : Nat} {ops : Array Oper} {Q : Exit → Act → World → Prop} {a : Act} {w : World} (S : World → Prop) (hm : P.follows .mixedOrders = true) (hd : noDefer ops = true)
    (h : wpAnyH P .any ops (Nrm Q) S ops.size (Array.replicate ops.size false) a w.drew) : (Code.region id ops true).wpIn (Fence.wide.inRound l) n P Q a w :=
  wpIn_mono (Q := Nrm Q) (inRound_any nrm_letsOut hm hd (wpAny_of_held (S := S) _ _ _ _ h)) Nrm.imp
theorem Sp.kept {w0 A C : World} {row : Option Nat} {P jv ov sv : Value} {sp : List (Int × Int)} (h : Sp w0 A P jv ov sv sp) (hg : A.grownBy C row) (hr : ∀ r, row = some r → ∃ o : Obj, A.heap[r]? = some o ∧ o.isCells = false) (hl : Below w0.heap.size w0 C) : Sp w0 C P jv ov sv sp := by
  refine ⟨hl, h.sh.kept hg hr, h.bx.kept hg hr, World.ownsRow.kept h.own hg ?_, Nat.le_trans h.sz hg.size⟩
  rcases h.own.2 with ⟨rfl, _⟩ | ⟨g, cap, cur, rfl, _, hg2, _⟩
  · exact .inl rfl
  · right
    intro e
    obtain ⟨o, ho, hc⟩ := hr g e.symm
    rw [hg2] at ho
    cases ho
    cases hc
theorem ownS_reads {w : World} {B : Nat} {v : Value} {sp : List (Int × Int)} (h : OwnS w B v sp) : ReadsO w v sp := by
  obtain ⟨ao, c, e, hc, h⟩ := own_cells h
  refine ⟨ao, c, e, hc, fun hne => ?_⟩
  obtain ⟨g, e2, _, hg, hat⟩ := h (fun h0 => hne (List.length_eq_zero_iff.1 h0))
  exact ⟨g, e2, hg, hat⟩
end Go.Proofs.Ytjkbhdlbomcbeaa
