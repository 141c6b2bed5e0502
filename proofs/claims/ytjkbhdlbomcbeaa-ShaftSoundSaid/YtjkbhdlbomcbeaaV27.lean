import Derived.Test.YtjkbhdlbomcbeaaV19
import Derived.Test.YtjkbhdlbomcbeaaV25
import Derived.Test.YtjkbhdlbomcbeaaV26
import Derived.Test.YtjkbhdlbomcbeaaV20
import Derived.Test.YtjkbhdlbomcbeaaV24
import Derived.Test.YtjkbhdlbomcbeaaV10
import Derived.Test.YtjkbhdlbomcbeaaV21
import Derived.Test.YtjkbhdlbomcbeaaV23
namespace Go.Proofs.Ytjkbhdlbomcbeaa
open Go.RowKit Go.Shelf Shf

set_option maxHeartbeats 8000000 in
set_option maxRecDepth 100000 in
theorem lateNo52 {w : World} {ge i : Nat} {s : Sh} {v pv : Value} {ns : List Nd} {sn : Nat → Bool} (hs : Loose s) (hv : ShF w ge v s) (hp : NdF w ge pv ns) (hS : SnR w ge ns.length sn) (hi : i < ns.length) (hsn : sn i = false) (hk : (ns.getD i N0).k = 3) (hno : (ns.getD i N0).a ≠ 0 ∨ (ns.getD i N0).b ≠ 0 ∨ (ns.getD i N0).l ≠ 0 ∨ (ns.getD i N0).r ≠ 0 ∨ ¬ (0 ≤ (ns.getD i N0).j ∧ (ns.getD i N0).j < s.os.length)) :
    Calls Try.prog 52 #[v, pv, .int .i64 i, .slice (some ⟨ge, 0, none⟩) ns.length ns.length] w (RpEnd w ge ns.length (false, seeN sn i)) := by
  obtain ⟨ja, jc, oa, oc, rfl, rj, ro, fj, fo⟩ := hv
  obtain ⟨⟨pa, pc, rfl, hpc, hpat⟩, hpf⟩ := hp
  obtain ⟨n, hn⟩ : ∃ n, n = ns.length := ⟨_, rfl⟩
  obtain ⟨g, rfl, hg, n0, n1, n2, n3, n4, n5⟩ := hpat i hi
  have hgg : g ≠ ge := hpf g _ _ rfl
  obtain ⟨nj, hnj⟩ : ∃ nj, nj = s.js.length := ⟨_, rfl⟩
  obtain ⟨m, hm⟩ : ∃ m, m = (osI s).length := ⟨_, rfl⟩
  have hgew := hS.hgw
  have hb1 := below_alloc1 w (.cells #[.int .i64 s.P, .slice ja s.js.length jc, .slice oa (osI s).length oc] 25)
  have hS1 := hS.below hb1
  have s0 := hS1.seen i hi
  have f0 := hS1.fg i
  rw [hsn] at s0
  obtain ⟨⟨k, j, a, b, l, r⟩, hx⟩ : ∃ x, x = ns.getD i N0 := ⟨_, rfl⟩
  rw [← hx] at hk hno n0 n1 n2 n3 n4 n5
  try rw [← hx]
  simp only at hk hno n0 n1 n2 n3 n4 n5
  obtain ⟨W2, hW2⟩ : ∃ W2, W2 = (w.setCell ⟨ge, i, none⟩ (.bool true)).alloc (.cells #[.int .i64 s.P, .slice ja s.js.length jc, .slice oa (osI s).length oc] 25) := ⟨_, rfl⟩
  have hK2 : Kq ge w W2 := by rw [hW2]; exact (Kq.set ge i _ _).trans (Kq.of_below (below_alloc1 _ _))
  have hs2 : W2.heap.size = w.heap.size + 1 := by rw [hW2, World.size_alloc, World.size_setCell]
  have y0 := (hK2.cell hg hgg).trans n0
  have y1 := (hK2.cell hg hgg).trans n1
  have y2 := (hK2.cell hg hgg).trans n2
  have y3 := (hK2.cell hg hgg).trans n3
  have y4 := (hK2.cell hg hgg).trans n4
  have y5 := (hK2.cell hg hgg).trans n5
  have hS2 : SnR W2 ge ns.length (seeN sn i) := by rw [hW2]; exact (hS.see hi).below (below_alloc1 _ _)
  have z0 : W2.cell? ⟨w.heap.size, 0, none⟩ = some (.int .i64 s.P) := by rw [hW2, World.cell?_alloc_at (hn := by rw [World.size_setCell])]; rfl
  have z1 : W2.cell? ⟨w.heap.size, 1, none⟩ = some (.slice ja s.js.length jc) := by rw [hW2, World.cell?_alloc_at (hn := by rw [World.size_setCell])]; rfl
  have z2 : W2.cell? ⟨w.heap.size, 2, none⟩ = some (.slice oa (osI s).length oc) := by rw [hW2, World.cell?_alloc_at (hn := by rw [World.size_setCell])]; rfl
  obtain ⟨W, hW⟩ : ∃ W, W = W2.alloc (.cells #[.int .i64 k, .int .i64 j, .int .i64 a, .int .i64 b, .int .i64 l, .int .i64 r] 72) := ⟨_, rfl⟩
  have hbW : Below W2.heap.size W2 W := by rw [hW]; exact below_alloc1 _ _
  obtain ⟨m0, m1, m2, m3, m4, m5⟩ : W.cell? ⟨w.heap.size + 1, 0, none⟩ = some (.int .i64 k) ∧ W.cell? ⟨w.heap.size + 1, 1, none⟩ = some (.int .i64 j) ∧ W.cell? ⟨w.heap.size + 1, 2, none⟩ = some (.int .i64 a) ∧ W.cell? ⟨w.heap.size + 1, 3, none⟩ = some (.int .i64 b) ∧ W.cell? ⟨w.heap.size + 1, 4, none⟩ = some (.int .i64 l) ∧ W.cell? ⟨w.heap.size + 1, 5, none⟩ = some (.int .i64 r) := by
    rw [hW, ← hs2]; exact nd_new W2 _ _ _ _ _ _
  have u0 := (hbW.cell (p := ⟨w.heap.size, 0, none⟩) (by rw [hs2]; simp)).trans z0
  have u1 := (hbW.cell (p := ⟨w.heap.size, 1, none⟩) (by rw [hs2]; simp)).trans z1
  have u2 := (hbW.cell (p := ⟨w.heap.size, 2, none⟩) (by rw [hs2]; simp)).trans z2
  have hKW := hK2.trans (Kq.of_below hbW)
  have hSW := hS2.below hbW
  have hWs : W.heap.size = w.heap.size + 2 := by rw [hW]; simp [hs2]
  have hShW := Lib.hid (show ShV W (.agg #[.int .i64 s.P, .slice ja s.js.length jc, .slice oa (osI s).length oc]) s.P s.js (osI s) from ⟨_, _, rfl, rj.kp fj hKW, ro.kp fo hKW⟩)
  have hEnd := Lib.hid (fun (W' : World) (hb : Below W.heap.size W W') (d : Bool) => (show RpEnd w ge ns.length (d, seeN sn i) (.returned (.bool d)) W' from ⟨rfl, hSW.below hb, hKW.trans (Kq.of_below hb)⟩))
  have hin' : (i : Int) < (n : Int) := by omega
  have hge2 : ¬ (w.heap.size = ge) := by omega
  subst hk
  rw [← osI_len, ← hm] at hno
  have h20 : m ≤ 20 := by rw [hm, osI_len]; exact hs.few
  rw [← hnj, ← hm] at s0 f0 hW2 hShW
  rw [← hnj] at u1
  rw [← hm] at u2
  rw [← hn] at hEnd hi
  rw [← hnj, ← hm, ← hn]
  clear hpat hn hS hS1 hb1 n0 n1 n2 n3 n4 n5 z0 z1 z2 hpf hx hS2 hKW hSW hK2 hbW
  clear rj ro fj fo hs hnj hm hShW
  go_enter Try.func52, Try.ntmps52
  go_upto_region 4 with fail
  rw [← hW2]
  clear hW2 s0 f0
  go_upto_region 5 with fail
  rw [← hW]
  clear hW y0 y1 y2 y3 y4 y5
  clear hge2 hin' hi hsn hgew hg hgg hpc hs2 hWs
  by_cases q1 : a ≠ 0
  · have e1 : (a != 0) = true := by simpa using q1
    clear hno h20
    as_aux_lemma =>
    go_wp2_with fail
    go_ret
    exact hEnd.out _ (Below.refl _ _) false
  have q1 := Decidable.not_not.1 q1
  subst q1
  by_cases q2 : b ≠ 0
  · have e1 : (b != 0) = true := by simpa using q2
    clear hno h20
    as_aux_lemma =>
    go_wp2_with fail
    go_ret
    exact hEnd.out _ (Below.refl _ _) false
  have q2 := Decidable.not_not.1 q2
  subst q2
  by_cases q3 : l ≠ 0
  · have e1 : (l != 0) = true := by simpa using q3
    clear hno h20
    as_aux_lemma =>
    go_wp2_with fail
    go_ret
    exact hEnd.out _ (Below.refl _ _) false
  have q3 := Decidable.not_not.1 q3
  subst q3
  by_cases q4 : r ≠ 0
  · have e1 : (r != 0) = true := by simpa using q4
    clear hno h20
    as_aux_lemma =>
    go_wp2_with fail
    go_ret
    exact hEnd.out _ (Below.refl _ _) false
  have q4 := Decidable.not_not.1 q4
  subst q4
  have hj : ¬ (0 ≤ j ∧ j < (m : Int)) := by rcases hno with h | h | h | h | h <;> first | exact h | exact absurd rfl h
  clear hno
  have sw : IntKind.i64.wrap ((m : Int) - 1) = (m : Int) - 1 := IntWalk.i64_in _ (by omega)
  have hI1 := Lib.hid (fun (W' : World) => (in41 (w := W') j 0 ((m : Int) - 1)).mono (R' := fun e w' => e = .returned (.bool false) ∧ W' = w') (fun e w' he => by
      rw [show (decide (0 ≤ j) && decide (j ≤ (m : Int) - 1)) = false from by rw [Bool.eq_false_iff]; intro hc; simp only [Bool.and_eq_true, decide_eq_true_eq] at hc; exact hj ⟨hc.1, by omega⟩] at he; exact he))
  clear hj h20
  go_wp2_with (go_at_call 41; refine (hI1.out _).mono ?_; rintro e w2 ⟨rfl, rfl⟩)
  go_ret
  exact hEnd.out _ (Below.refl _ _) false
end Go.Proofs.Ytjkbhdlbomcbeaa

namespace Go.Proofs.Ytjkbhdlbomcbeaa
open Go.RowKit Go.Shelf Shf

theorem laB_false {s : Sh} {x : Nd} (h : x.a ≠ 0 ∨ x.b ≠ 0 ∨ x.l ≠ 0 ∨ x.r ≠ 0 ∨ ¬ (0 ≤ x.j ∧ x.j < s.os.length)) : laB s x = false := by
  rw [Bool.eq_false_iff]
  intro hc
  unfold laB at hc
  simp only [Bool.and_eq_true, beq_iff_eq, decide_eq_true_eq] at hc
  obtain ⟨h1, h2, h3, h4, h5, h6, _⟩ := hc
  rcases h with h | h | h | h | h
  · exact h h1
  · exact h h2
  · exact h h3
  · exact h h4
  · exact h ⟨h5, h6⟩
theorem laB_true {s : Sh} {x : Nd} (h : x.a = 0 ∧ x.b = 0 ∧ x.l = 0 ∧ x.r = 0 ∧ 0 ≤ x.j ∧ x.j < s.os.length) : laB s x = lateO s x.j.toNat := by
  obtain ⟨h1, h2, h3, h4, h5, h6⟩ := h
  unfold laB
  simp [h1, h2, h3, h4, h5, h6]
/-- The reference's walk over a proof, from any node that is there. -/
theorem node52 {ge : Nat} {pv : Value} {ns : List Nd} (h5 : ns.length ≤ 100000) : ∀ (f i : Nat) (w : World) (s : Sh) (v : Value) (sn : Nat → Bool), Loose s → ShF w ge v s → NdF w ge pv ns → SnR w ge ns.length sn → i < ns.length → ns.length ≤ i + f →
    Calls Try.prog 52 #[v, pv, .int .i64 i, .slice (some ⟨ge, 0, none⟩) ns.length ns.length] w (RpEnd w ge ns.length (rp ns f i s sn)) := by
  intro f
  induction f with
  | zero => intro i w s v sn _ _ _ _ hi hf; omega
  | succ f ih =>
    intro i w s v sn hs hv hp hS hi hf
    cases hsn : sn i with
    | true =>
      rw [rp, if_pos hsn]
      exact seen52 hv hp hS hi hsn
    | false =>
      rw [rp_step hsn]
      simp only
      by_cases h2 : (ns.getD i N0).k = 2
      · rw [if_pos h2]
        exact energy52 hs hv hp hS hi hsn h2
      · rw [if_neg h2]
        by_cases h3 : (ns.getD i N0).k = 3
        · rw [if_pos h3]
          by_cases hy : (ns.getD i N0).a = 0 ∧ (ns.getD i N0).b = 0 ∧ (ns.getD i N0).l = 0 ∧ (ns.getD i N0).r = 0 ∧ 0 ≤ (ns.getD i N0).j ∧ (ns.getD i N0).j < s.os.length
          · rw [laB_true hy]
            exact lateYes52 hs hv hp hS hi hsn h3 hy
          · have hno : (ns.getD i N0).a ≠ 0 ∨ (ns.getD i N0).b ≠ 0 ∨ (ns.getD i N0).l ≠ 0 ∨ (ns.getD i N0).r ≠ 0 ∨ ¬ (0 ≤ (ns.getD i N0).j ∧ (ns.getD i N0).j < s.os.length) := by
              by_cases q1 : (ns.getD i N0).a = 0
              · by_cases q2 : (ns.getD i N0).b = 0
                · by_cases q3 : (ns.getD i N0).l = 0
                  · by_cases q4 : (ns.getD i N0).r = 0
                    · exact .inr (.inr (.inr (.inr fun h => hy ⟨q1, q2, q3, q4, h.1, h.2⟩)))
                    · exact .inr (.inr (.inr (.inl q4)))
                  · exact .inr (.inr (.inl q3))
                · exact .inr (.inl q2)
              · exact .inl q1
            rw [laB_false hno]
            exact lateNo52 hs hv hp hS hi hsn h3 hno
        · rw [if_neg h3]
          by_cases h1 : (ns.getD i N0).k = 1
          · rw [if_pos h1]
            by_cases hb : spB s ns.length i (ns.getD i N0) = true
            · rw [if_pos hb]
              have hb' := hb
              unfold spB inL at hb'
              simp only [Bool.and_eq_true, decide_eq_true_eq, beq_iff_eq] at hb'
              obtain ⟨_, ⟨j0, j1⟩, ⟨l0, l1⟩, ⟨r0, r1⟩, fa, ta⟩ := hb'
              have hJ : (ns.getD i N0).j.toNat < s.n := by omega
              have eL : (((ns.getD i N0).l.toNat : Nat) : Int) = (ns.getD i N0).l := by omega
              have eR : (((ns.getD i N0).r.toNat : Nat) : Int) = (ns.getD i N0).r := by omega
              refine splitYes52 hs hv hp hS hi h5 hsn h1 hb (pL := rp ns f (ns.getD i N0).l.toNat (till s (ns.getD i N0).j.toNat (ns.getD i N0).a) (seeN sn i)) ?_ ?_
              · intro W' v' g1 g2 g3
                have := ih (ns.getD i N0).l.toNat W' _ v' _ (loose_till hs hJ fa (by omega)) g1 g2 g3 (by omega) (by omega)
                rw [eL] at this
                exact this
              · intro _ W' v' g1 g2 g3
                have := ih (ns.getD i N0).r.toNat W' _ v' _ (loose_later hs hJ fa ta) g1 g2 g3 (by omega) (by omega)
                rw [eR] at this
                exact this
            · rw [if_neg hb]
              exact splitNo52 hs hv hp hS hi h5 hsn h1 (by simpa using hb)
          · rw [if_neg h1]
            exact none52 hv hp hS hi hsn ⟨h2, h3, h1⟩
end Go.Proofs.Ytjkbhdlbomcbeaa

namespace Go.Proofs.Ytjkbhdlbomcbeaa
open Go.RowKit Go.Shelf Shf

theorem prB_nil (s : Sh) (a b : Nat) : prB s a b [] = false := by
  unfold prB
  rw [pz, if_pos (.inl (by simp))]
  rfl
theorem own_block {w : World} {B e z n g m c : Nat} {v : Value} {xs : List Value} (h : w.ownsRow B e z v n xs) (hv : v = .slice (some ⟨g, 0, none⟩) m c) : g < w.heap.size := by
  subst hv
  rcases h.2 with ⟨h, _⟩ | ⟨g', cap, cur, h, _, hg, _⟩
  · cases h
  · injection h with h; injection h with h; injection h with h _
    subst h
    exact (Array.getElem?_eq_some_iff.1 hg).1
/-- What the reference answers of a proof. -/
theorem refProves31 {w : World} {B : Nat} {jv ov pv : Value} {s : Sh} {ns : List Nd} (hs : Loose s) (hj : OwnJ w B jv s.js) (ho : OwnO w B ov (osI s)) (hp : OwnN w B pv ns) (h5 : ns.length ≤ 20000) :
    Calls Try.prog 31 #[.agg #[.int .i64 s.P, jv, ov], pv] w fun e w' => e = .returned (.bool (prB s s.n s.os.length ns)) ∧ Below w.heap.size w w' := by
  obtain ⟨ja, jc, rfl, hjc, x1⟩ := own_cells hj
  obtain ⟨oa, oc, rfl, hoc, x2⟩ := own_cells ho
  obtain ⟨pa, pc, rfl, hpc, x3⟩ := own_cells hp
  obtain ⟨n, hn⟩ : ∃ n, n = ns.length := ⟨_, rfl⟩
  obtain ⟨nj, hnj⟩ : ∃ nj, nj = s.js.length := ⟨_, rfl⟩
  obtain ⟨m, hm⟩ : ∃ m, m = (osI s).length := ⟨_, rfl⟩
  obtain ⟨W, hW⟩ : ∃ W, W = w.alloc (.cells #[.int .i64 s.P, .slice ja s.js.length jc, .slice oa (osI s).length oc] 25) := ⟨_, rfl⟩
  have hb : Below w.heap.size w W := by rw [hW]; exact below_alloc1 _ _
  have hWs : W.heap.size = w.heap.size + 1 := by rw [hW]; simp
  have c0 : W.cell? ⟨w.heap.size, 0, none⟩ = some (.int .i64 s.P) := by rw [hW, World.cell?_alloc_at (hn := rfl)]; rfl
  have c1 : W.cell? ⟨w.heap.size, 1, none⟩ = some (.slice ja s.js.length jc) := by rw [hW, World.cell?_alloc_at (hn := rfl)]; rfl
  have c2 : W.cell? ⟨w.heap.size, 2, none⟩ = some (.slice oa (osI s).length oc) := by rw [hW, World.cell?_alloc_at (hn := rfl)]; rfl
  have hSh := Lib.hid (fun (V : World) (hV : Below W.heap.size W V) (ge : Nat) (hge : W.heap.size ≤ ge) => (show ShF V ge (.agg #[.int .i64 s.P, .slice ja s.js.length jc, .slice oa (osI s).length oc]) s from
    ⟨ja, jc, oa, oc, rfl, (hj.reads.below hb).below hV, (ho.reads.below hb).below hV, fun g e => by have := own_block hj (by rw [e]); omega, fun g e => by have := own_block ho (by rw [e]); omega⟩))
  have hNd := Lib.hid (fun (V : World) (hV : Below W.heap.size W V) (ge : Nat) (hge : W.heap.size ≤ ge) => (show NdF V ge (.slice pa ns.length pc) ns from
    ⟨(hp.reads.below hb).below hV, fun g k c e => by have := own_block hp e; omega⟩))
  have hKb := Lib.hid (fun (V : World) (hV : Kq W.heap.size W V) => hV.below hb (by omega) (by omega))
  have hs' := Lib.hid hs
  have hn' := Lib.hid hn
  have hbW := Lib.hid (show w.heap.size < W.heap.size by omega)
  rw [← hnj] at c1 hW hSh
  rw [← hm] at c2 hW hSh
  rw [← hn] at hNd h5
  rw [← hnj, ← hm, ← hn]
  clear x1 x2 x3 hj ho hp hs hnj hm hb hWs hn
  by_cases q : n ≠ 0
  · obtain ⟨r, hr⟩ : ∃ r, r = prB s s.n s.os.length ns := ⟨_, rfl⟩
    rw [← hr]
    have h52 := Lib.hid (fun (ge : Nat) (V : World) (v : Value) (h1 : ShF V ge v s) (h2 : NdF V ge (.slice pa n pc) ns) (h3 : SnR V ge n fun _ => false) => (show Calls Try.prog 52 #[v, .slice pa n pc, .int .i64 0, .slice (some ⟨ge, 0, none⟩) n n] V fun e w' => e = .returned (.bool r) ∧ Kq ge V w' from by
      have := node52 (by rw [← hn'.out]; omega) (ns.length + 1) 0 V s v (fun _ => false) hs'.out h1 h2 (by rw [← hn'.out]; exact h3) (by rw [← hn'.out]; omega) (by omega)
      rw [← hn'.out] at this
      refine this.mono ?_
      rintro e w' ⟨he, _, hk⟩
      refine ⟨?_, hk⟩
      rw [he, hr]
      congr 2
      unfold prB
      rw [(rp_pz ns (ns.length + 1) 0 s (fun _ => false) (by rw [← hn'.out]; omega)).1, hn'.out]))
    clear hs' hr hn'
    have hp0 : (0 : Int) < (n : Int) := by omega
    have hpn : 0 < n := by omega
    have hmk := Lib.hid (fun (V : World) => make103 V n (by omega))
    go_enter Try.func31, Try.ntmps31
    go_upto_region 1 with fail
    rw [← hW]
    clear hW
    refine wp_region_noPanic ?_
    refine wp_region_any (by kernel_rfl) (wpAny_of_held (S := fun w' => Kq W.heap.size W w') _ _ _ _ ?_)
    have hHeld : Kq W.heap.size W W.drew := ⟨Nat.le_refl _, fun _ _ _ => rfl, rfl, rfl, rfl⟩
    change wpAnyH _ _ _ _ _ _ _ _ W.drew
    simp only [List.size_toArray, List.length_cons, List.length_nil, Nat.reduceAdd, Array.replicate_succ, Array.replicate_zero, List.push_toArray, List.nil_append, List.cons_append]
    refine wpAnyH_take (i := 0) (v := .slice pa n pc) rfl (by as_aux_lemma => kernel_rfl) (by as_aux_lemma => kernel_rfl) (by as_aux_lemma => kernel_rfl) (fun _ _ _ h => h) (Or.inl ⟨by rfl, ?_⟩) hHeld ?_
    · intro w' hSw; go_simp
    simp only [Act.put, List.setIfInBounds_toArray, List.set_cons_zero, List.set_cons_succ, List.getElem_toArray, List.getElem_cons_zero]
    refine wpAnyH_take (i := 1) (v := .int .i64 n) rfl (by as_aux_lemma => kernel_rfl) (by as_aux_lemma => kernel_rfl) (by as_aux_lemma => kernel_rfl) (fun _ _ _ h => h) (Or.inl ⟨by rfl, ?_⟩) hHeld ?_
    · intro w' hSw; go_simp
    simp only [Act.put, List.setIfInBounds_toArray, List.set_cons_zero, List.set_cons_succ, List.getElem_toArray, List.getElem_cons_succ, List.getElem_cons_zero]
    refine wpAnyH_take (i := 2) (v := .bool true) rfl (by as_aux_lemma => kernel_rfl) (by as_aux_lemma => kernel_rfl) (by as_aux_lemma => kernel_rfl) (fun _ _ _ h => h) (Or.inl ⟨by rfl, ?_⟩) hHeld ?_
    · intro w' hSw; go_simp
    simp only [Act.put, List.setIfInBounds_toArray, List.set_cons_zero, List.set_cons_succ, List.getElem_toArray, List.getElem_cons_succ, List.getElem_cons_zero]
    refine wpAnyH_take (i := 3) (v := .bool true) rfl (by as_aux_lemma => kernel_rfl) (by as_aux_lemma => kernel_rfl) (by as_aux_lemma => kernel_rfl) (fun _ _ _ h => h) (Or.inl ⟨by rfl, ?_⟩) hHeld ?_
    · intro w' hSw; go_simp
    simp only [Act.put, List.setIfInBounds_toArray, List.set_cons_zero, List.set_cons_succ, List.getElem_toArray, List.getElem_cons_succ, List.getElem_cons_zero]
    refine wpAnyH_take (i := 4) (v := .agg #[.int .i64 s.P, .slice ja nj jc, .slice oa m oc]) rfl (by as_aux_lemma => kernel_rfl) (by as_aux_lemma => kernel_rfl) (by as_aux_lemma => kernel_rfl) (fun _ _ _ h => h) (Or.inl ⟨by rfl, ?_⟩) hHeld ?_
    · intro w' hSw; have hbW2 := hbW.out; have a0 := (hSw.cell (k := 0) hbW.out (by omega)).trans c0; have a1 := (hSw.cell (k := 1) hbW.out (by omega)).trans c1; have a2 := (hSw.cell (k := 2) hbW.out (by omega)).trans c2; go_simp
    simp only [Act.put, List.setIfInBounds_toArray, List.set_cons_zero, List.set_cons_succ, List.getElem_toArray, List.getElem_cons_succ, List.getElem_cons_zero]
    refine wpAnyH_take (i := 5) (v := .slice pa n pc) rfl (by as_aux_lemma => kernel_rfl) (by as_aux_lemma => kernel_rfl) (by as_aux_lemma => kernel_rfl) (fun _ _ _ h => h) (Or.inl ⟨by rfl, ?_⟩) hHeld ?_
    · intro w' hSw; go_simp
    simp only [Act.put, List.setIfInBounds_toArray, List.set_cons_zero, List.set_cons_succ, List.getElem_toArray, List.getElem_cons_succ, List.getElem_cons_zero]
    refine wpAnyH_take (i := 6) (v := .slice pa n pc) rfl (by as_aux_lemma => kernel_rfl) (by as_aux_lemma => kernel_rfl) (by as_aux_lemma => kernel_rfl) (fun _ _ _ h => h) (Or.inl ⟨by rfl, ?_⟩) hHeld ?_
    · intro w' hSw; go_simp
    simp only [Act.put, List.setIfInBounds_toArray, List.set_cons_zero, List.set_cons_succ, List.getElem_toArray, List.getElem_cons_succ, List.getElem_cons_zero]
    refine wpAnyH_take (i := 7) (v := .int .i64 n) rfl (by as_aux_lemma => kernel_rfl) (by as_aux_lemma => kernel_rfl) (by as_aux_lemma => kernel_rfl) (fun _ _ _ h => h) (Or.inl ⟨by rfl, ?_⟩) hHeld ?_
    · intro w' hSw; go_simp
    simp only [Act.put, List.setIfInBounds_toArray, List.set_cons_zero, List.set_cons_succ, List.getElem_toArray, List.getElem_cons_succ, List.getElem_cons_zero]
    refine wpAnyH_ready (rs := [8]) (by kernel_rfl) (by simp) ?_
    refine AllReadyH.cons rfl (fun K hK => ?_) AllReadyH.nil
    have hm := hmk.out W.drew
    go_simp
    obtain ⟨V, hV⟩ : ∃ x, x = (W.alloc (.cells (madeCells #[Value.bool false] n) 4)).drew := ⟨_, rfl⟩
    have hbV : Below W.heap.size W V := by rw [hV]; exact (below_alloc1 _ _).drew
    have hSn : SnR V W.heap.size n (fun _ => false) := by rw [hV]; exact ⟨by simp, fun i hi => madeB_new W n i hi, fun j => alloc_fz _ _ _ _⟩
    rw [← hV]
    refine hK.out _ _ (Kq.of_below hbV) (fun hHeld => ?_)
    clear hK K hm
    simp only [List.setIfInBounds_toArray, List.set_cons_zero, List.set_cons_succ]
    have hc := Lib.hid (h52.out W.heap.size V _ (hSh.out V hbV _ (Nat.le_refl _)) (hNd.out V hbV _ (Nat.le_refl _)) hSn)
    clear hV hSn h52 hSh hNd
    have hbV' := Lib.hid hbV
    clear hbV
    refine wpAnyH_ready (rs := [9]) (by kernel_rfl) (by simp) ?_
    refine AllReadyH.cons rfl (fun K hK => ?_) AllReadyH.nil
    go_simp
    refine hc.out.mono ?_
    rintro e w2 ⟨rfl, hk2⟩
    refine hK.out _ _ (Kq.trans (Kq.of_below hbV'.out) hk2) (fun hHeld => ?_)
    clear hK K hc hk2
    simp only [List.setIfInBounds_toArray, List.set_cons_zero, List.set_cons_succ]
    refine wpAnyH_take (i := 10) (v := .bool r) rfl (by as_aux_lemma => kernel_rfl) (by as_aux_lemma => kernel_rfl) (by as_aux_lemma => kernel_rfl) (fun _ _ _ h => h) (Or.inl ⟨by rfl, ?_⟩) hHeld ?_
    · intro w' hSw; go_simp
    simp only [Act.put, List.setIfInBounds_toArray, List.set_cons_zero, List.set_cons_succ, List.getElem_toArray, List.getElem_cons_succ, List.getElem_cons_zero]
    refine wpAnyH_take (i := 11) (v := .bool r) rfl (by as_aux_lemma => kernel_rfl) (by as_aux_lemma => kernel_rfl) (by as_aux_lemma => kernel_rfl) (fun _ _ _ h => h) (Or.inl ⟨by rfl, ?_⟩) hHeld ?_
    · intro w' hSw; go_simp
    simp only [Act.put, List.setIfInBounds_toArray, List.set_cons_zero, List.set_cons_succ, List.getElem_toArray, List.getElem_cons_succ, List.getElem_cons_zero]
    refine wpAnyH_done (by kernel_rfl) ?_ _
    refine NoPanic.normal ?_
    go_wp2_with fail
    go_ret
    exact ⟨rfl, hKb.out _ hHeld⟩
  · have q := Decidable.not_not.1 q
    subst q
    have hns : ns = [] := List.length_eq_zero_iff.1 hn'.out.symm
    have hpr : prB s s.n s.os.length ns = false := by rw [hns]; exact prB_nil _ _ _
    rw [hpr]
    have hfin := Lib.hid (fun (k : Nat) => below_drewN (hKb.out W (Kq.refl _ _)) k)
    clear hSh hNd hKb hs' hn' hpr hns
    go_enter Try.func31, Try.ntmps31
    go_upto_region 1 with fail
    rw [← hW]
    clear hW
    go_quiet (fail)
    go_wp2_with fail
    go_ret
    exact ⟨rfl, hfin.out _⟩
end Go.Proofs.Ytjkbhdlbomcbeaa

namespace Go.Proofs.Ytjkbhdlbomcbeaa
open Go.RowKit Go.Shelf Shf

theorem h77 : H77 := fun _ _ _ hs hf h => spans77 hs hf h
theorem pr_prod (js : List J) (h : ∀ j ∈ js, j.f ≤ lat j) : ∀ n, n ≤ js.length → ((pr n fun i => starts (js.getD i J0) : Nat) : Int) = prodL (js.take n)
  | 0, _ => rfl
  | n + 1, hn => by
    have hlt : n < js.length := by omega
    have ih := pr_prod js h n (by omega)
    rw [List.take_succ_eq_append_getElem hlt, prodL_app, ← ih]
    simp only [pr, prodL]
    rw [List.getD_eq_getElem?_getD, List.getElem?_eq_getElem hlt]
    have := h _ (List.getElem_mem hlt)
    simp only [Option.getD_some]
    unfold starts
    rw [Int.natCast_mul, Int.mul_one, Int.toNat_of_nonneg (by omega)]
theorem wt_ways {s : Sh} (hw : ∀ i, i < s.n → (s.job i).f ≤ lat (s.job i)) (h : (allT (rsOf s)).length ≤ 4096) : wt s ≤ 4096 := by
  have h1 := ways_len hw
  have h2 := pr_prod s.js (jobs_ok hw) s.js.length (Nat.le_refl _)
  rw [List.take_length] at h2
  have h3 : (wt s : Int) = prodL s.js := h2
  omega
theorem refProves31r {w : World} {B nj m n jc oc pc : Nat} {ja oa pa : Option Addr} {P : Int} {js : List J} {os : List (Int × Int)} {ns : List Nd} (hv : validB P js os = true) (hj : OwnJ w B (.slice ja nj jc) js) (ho : OwnO w B (.slice oa m oc) os) (hp : OwnN w B (.slice pa n pc) ns) (h5 : ns.length ≤ 20000) {d : Bool} (hd : prB (shOf P js os) (shOf P js os).n (shOf P js os).os.length ns = d) :
    Calls Try.prog 31 #[.agg #[.int .i64 P, .slice ja nj jc, .slice oa m oc], .slice pa n pc] w fun e w' => e = .returned (.bool d) ∧ Below w.heap.size w w' := by
  have hval := valid_sh hv
  have := refProves31 (s := shOf P js os) hval.1.loose hj (by rw [hval.2]; exact ho) hp h5
  subst hd
  exact this
def RefuseE (w : World) (err : Int) (e : Ending) (w' : World) : Prop := ∃ a c, e = .returned (.tuple #[.slice a 0 c, .int .i64 err]) ∧ Below w.heap.size w w'
def RefuseC (w : World) (P : Int) (js : List J) (os : List (Int × Int)) (e : Ending) (w' : World) : Prop := ∃ (a : Option Addr) (c : Nat) (ns : List Nd), e = .returned (.tuple #[.slice a ns.length c, .int .i64 0]) ∧ ns.length ≤ 20000 ∧ OwnN w' w.heap.size (.slice a ns.length c) ns ∧ prB (shOf P js os) (shOf P js os).n (shOf P js os).os.length ns = true ∧ Below w.heap.size w w'
theorem refuseE {w : World} {v : Value} {P : Int} {js : List J} {os : List (Int × Int)} (h : ShV w v P js os) (h7 : js.length ≤ 7) (h21 : os.length ≤ 21) {err : Int} (he : (validB P js os = false ∧ err = 1) ∨ (validB P js os = true ∧ (∃ S, Sched (shOf P js os) S) ∧ err = 5)) : Calls Try.prog 30 #[v] w (RefuseE w err) := by
  refine (refuse30 h77 h h7 h21).mono ?_
  rintro e w' ⟨v, ns, err', rfl, hO, hI, hb⟩
  have hy : ns = [] ∧ err' = err := by
    rcases hI with ⟨h1, h2, h3⟩ | ⟨h1, ⟨h2, h3, h4⟩ | ⟨h2, _⟩⟩ <;> rcases he with ⟨g1, g2⟩ | ⟨g1, g2, g3⟩
    · exact ⟨h2, by rw [h3, g2]⟩
    · rw [h1] at g1; cases g1
    · rw [h1] at g1; cases g1
    · exact ⟨h3, by rw [h4, g3]⟩
    · rw [h1] at g1; cases g1
    · exact absurd g2 h2
  obtain ⟨rfl, rfl⟩ := hy
  obtain ⟨a, c, rfl, _⟩ := own_cells hO
  exact ⟨a, c, rfl, hb⟩
theorem refuseC {w : World} {v : Value} {P : Int} {js : List J} {os : List (Int × Int)} (h : ShV w v P js os) (h7 : js.length ≤ 7) (h21 : os.length ≤ 21) (hv : validB P js os = true) (hs : ¬ ∃ S, Sched (shOf P js os) S) (hw : wt (shOf P js os) ≤ 4096) : Calls Try.prog 30 #[v] w (RefuseC w P js os) := by
  refine (refuse30 h77 h h7 h21).mono ?_
  rintro e w' ⟨v, ns, err', rfl, hO, hI, hb⟩
  rcases hI with ⟨h1, _⟩ | ⟨_, ⟨h2, _⟩ | ⟨_, ⟨_, _, h3⟩ | ⟨rfl, h4, h5⟩⟩⟩
  · rw [hv] at h1; cases h1
  · exact absurd h2 hs
  · omega
  · obtain ⟨a, c, rfl, _⟩ := own_cells hO
    exact ⟨a, c, ns, rfl, h4, hO, h5, hb⟩
set_option maxHeartbeats 8000000 in
set_option maxRecDepth 100000 in
theorem walk6 {w : World} {v : Value} {P : Int} {js : List J} {os : List (Int × Int)} (h : InSh w v P js os) :
    Calls Try.prog 6 #[v] w fun e w' => e = .returned (.bool true) ∧ Below w.heap.size w w' := by
  have hfw := fun (W : World) (hb : Below w.heap.size w W) => few15 (w := W) (v := v) (P := P) (js := js) (os := os) (by
    obtain ⟨jv, ov, e, h1, h2, h3, h4⟩ := h
    exact ⟨jv, ov, e, h1.below hb, h2.below hb, h3, h4⟩)
  obtain ⟨jv, ov, rfl, hj, ho, hjm, hom⟩ := h
  obtain ⟨ja, jn, jc, rfl⟩ : ∃ a n c, jv = .slice a n c := by obtain ⟨_, a, c, e, _⟩ := hj; exact ⟨_, _, _, e⟩
  obtain ⟨oa, om, oc, rfl⟩ : ∃ a n c, ov = .slice a n c := by obtain ⟨_, a, c, e, _⟩ := ho; exact ⟨_, _, _, e⟩
  obtain ⟨js', hjs⟩ : ∃ x, x = js.take 7 := ⟨_, rfl⟩
  obtain ⟨os', hos⟩ : ∃ x, x = os.take 21 := ⟨_, rfl⟩
  rw [← hjs, ← hos] at hfw
  have h7 := Lib.hid (show js'.length ≤ 7 by rw [hjs, List.length_take]; omega)
  have h21 := Lib.hid (show os'.length ≤ 21 by rw [hos, List.length_take]; omega)
  have hb0 := Lib.hid (below_alloc1 w (.cells #[.int .i64 P, .slice ja jn jc, .slice oa om oc] 25))
  have hf0 := Lib.hid (hfw _ hb0.out)
  clear hfw hj ho hjm hom hjs hos
  go_enter Try.func6, Try.ntmps6
  go_upto_region 2 with (go_at_call 15; refine (hf0.out).mono ?_; rintro e w1 ⟨jv', ov', rfl, oj, oo, hb1⟩; obtain ⟨ja', jl, jc', rfl, -⟩ := own_len oj; obtain ⟨oa', ol, oc', rfl, -⟩ := own_len oo)
  obtain ⟨W4, hW4⟩ : ∃ W4, W4 = w1.alloc (Obj.cells #[Value.int IntKind.i64 P, Value.slice ja' jl jc', Value.slice oa' ol oc'] 25) := ⟨_, rfl⟩
  have hT := Lib.hid (show Three W4 w1.heap.size (.int .i64 P) (.slice ja' jl jc') (.slice oa' ol oc') by rw [hW4]; exact Three.new w1 _ _ _ 25)
  have hz := Lib.hid (show w1.heap.size < W4.heap.size by rw [hW4]; simp)
  have hb1W := (show Below w1.heap.size w1 W4 by rw [hW4]; exact below_alloc1 w1 _)
  have hbW := Lib.hid (below_call (below_call hb0.out hb1) hb1W)
  have hsh := Lib.hid (fun (W : World) (hb : Below W4.heap.size W4 W) => (show ShV W (.agg #[.int .i64 P, .slice ja' jl jc', .slice oa' ol oc']) P js' os' from ⟨_, _, rfl, oj.reads.below (below_call hb1W hb), oo.reads.below (below_call hb1W hb)⟩))
  rw [← hW4]
  obtain ⟨⟨y0, y1, y2⟩, -⟩ := hT.out
  have hoj := Lib.hid (fun (W : World) (hb : Below W4.heap.size W4 W) => oj.below (below_call hb1W hb))
  have hoo := Lib.hid (fun (W : World) (hb : Below W4.heap.size W4 W) => own_below oo (below_call hb1W hb))
  clear hW4 hb1 hb1W oj oo
  cases hv : validB P js' os' with
  | false =>
    have hV0 := Lib.hid (valid17' (hsh.out W4 (Below.refl _ _)) h7.out h21.out hv)
    have hF := Lib.hid (fun (W : World) (hb : Below W4.heap.size W4 W) => refuseE (hsh.out W hb) h7.out h21.out (err := 1) (.inl ⟨hv, rfl⟩))
    have hV1 := Lib.hid (fun (W : World) (hb : Below W4.heap.size W4 W) => valid17' (hsh.out W hb) h7.out h21.out hv)
    clear hv hoj hoo
    go_wp2_with (
      first
      | (go_at_call 17; refine (hV0.out).mono ?_; rintro e w5 ⟨rfl, hbw5⟩
         have hbw5' := Lib.hid (below_call (Below.refl _ _) hbw5)
         obtain ⟨⟨y0, y1, y2⟩, -⟩ := hT.out.keep hbw5'.out hz.out
         have hF5 := Lib.hid (hF.out _ hbw5'.out)
         clear hbw5 hV0)
      | (go_at_call 30; refine (hF5.out).mono ?_; rintro e w6 ⟨fa, fc, rfl, hbw6⟩
         have hbw6' := Lib.hid (below_call hbw5'.out hbw6)
         obtain ⟨⟨y0, y1, y2⟩, -⟩ := hT.out.keep hbw6'.out hz.out
         have hV6 := Lib.hid (hV1.out _ hbw6'.out)
         clear hbw6 hF5)
      | (go_at_call 17; refine (hV6.out).mono ?_; rintro e w7 ⟨rfl, hbw7⟩
         have hbw7' := Lib.hid (below_call hbw6'.out hbw7)
         obtain ⟨⟨y0, y1, y2⟩, -⟩ := hT.out.keep hbw7'.out hz.out
         have hLv := Lib.hid (lives18 (w := w7))
         clear hbw7 hV6)
      | (go_at_call 18; refine (hLv.out).mono ?_; rintro e w9 ⟨rfl, hbw9⟩
         have hbw9' := Lib.hid (below_call hbw7'.out hbw9)
         obtain ⟨⟨y0, y1, y2⟩, -⟩ := hT.out.keep hbw9'.out hz.out
         skip
         clear hbw9 hLv))
    go_ret
    exact ⟨rfl, below_call hbW.out hbw9'.out⟩
  | true =>
    obtain ⟨hVs, hos'⟩ := valid_sh hv
    have hlo := Lib.hid hVs.loose
    have hwd := Lib.hid (fun (i : Nat) (hi : i < (shOf P js' os').n) => hVs.lat hi)
    have hv' := Lib.hid hv
    have hsh2 := Lib.hid (fun (W : World) (hb : Below W4.heap.size W4 W) => (show ShV W (.agg #[.int .i64 P, .slice ja' jl jc', .slice oa' ol oc']) (shOf P js' os').P (shOf P js' os').js (osI (shOf P js' os')) from by rw [hos']; exact hsh.out W hb))
    have hjl : jl = js'.length := by
      obtain ⟨jv2, ov2, e, ⟨ao, c, e2, _⟩, _⟩ := hsh.out W4 (Below.refl _ _)
      cases e
      cases e2
      rfl
    have hjl' := Lib.hid hjl
    clear hVs hos' hv hjl
    have hV0 := Lib.hid (valid17' (hsh.out W4 (Below.refl _ _)) h7.out h21.out hv'.out)
    have hV1 := Lib.hid (fun (W : World) (hb : Below W4.heap.size W4 W) => valid17' (hsh.out W hb) h7.out h21.out hv'.out)
    obtain ⟨N, hN⟩ : ∃ N, N = waysM 4097 js' js'.length := ⟨_, rfl⟩
    have hWy := Lib.hid (fun (W : World) (hb : Below W4.heap.size W4 W) => ways20 (hsh.out W hb) h7.out (fun i hi => ⟨hlo.out.jobs i hi, hwd.out i hi⟩) hN)
    by_cases hbig : 4096 < N
    · have hbb : decide (4096 < N) = true := by simpa using hbig
      clear hN
      go_wp2_with (
        first
        | (go_at_call 17; refine (hV0.out).mono ?_; rintro e w5 ⟨rfl, hbw5⟩
           have hbw5' := Lib.hid (below_call (Below.refl _ _) hbw5)
           obtain ⟨⟨y0, y1, y2⟩, -⟩ := hT.out.keep hbw5'.out hz.out
           have hW5 := Lib.hid (hWy.out _ hbw5'.out)
           clear hbw5 hV0)
        | (go_at_call 20; refine (hW5.out).mono ?_; rintro e w6 ⟨rfl, hbw6⟩
           have hbw6' := Lib.hid (below_call hbw5'.out hbw6)
           obtain ⟨⟨y0, y1, y2⟩, -⟩ := hT.out.keep hbw6'.out hz.out
           have hLv := Lib.hid (lives18 (w := w6))
           clear hbw6 hW5)
        | (go_at_call 18; refine (hLv.out).mono ?_; rintro e w9 ⟨rfl, hbw9⟩
           have hbw9' := Lib.hid (below_call hbw6'.out hbw9)
           obtain ⟨⟨y0, y1, y2⟩, -⟩ := hT.out.keep hbw9'.out hz.out
           skip
           clear hbw9 hLv))
      go_ret
      exact ⟨rfl, below_call hbW.out hbw9'.out⟩
    · have hbb : decide (4096 < N) = false := by simpa using hbig
      have hlen := Lib.hid (ways_few (s := shOf P js' os') hwd.out (by show waysM 4097 js' js'.length ≤ 4096; omega))
      have hall := Lib.hid (fun (W : World) (hb : Below W4.heap.size W4 W) => all23 hlo.out hwd.out (hsh2.out W hb) hlen.out)
      clear hN
      by_cases hs : ∃ S, Sched (shOf P js' os') S
      · have hne := Lib.hid (show 0 < (allL (shOf P js' os') (allT (rsOf (shOf P js' os')))).length from by
          obtain ⟨S, hS⟩ := hs
          exact List.length_pos_of_mem (allL_some hlo.out hwd.out hS))
        have hF := Lib.hid (fun (W : World) (hb : Below W4.heap.size W4 W) => refuseE (hsh.out W hb) h7.out h21.out (err := 5) (.inr ⟨hv'.out, hs, rfl⟩))
        obtain ⟨L, hL⟩ : ∃ L, L = allL (shOf P js' os') (allT (rsOf (shOf P js' os'))) := ⟨_, rfl⟩
        rw [← hL] at hne hall
        clear hs hL hoj hoo
        go_wp2_with (
          first
          | (go_at_call 17; refine (hV0.out).mono ?_; rintro e w5 ⟨rfl, hbw5⟩
             have hbw5' := Lib.hid (below_call (Below.refl _ _) hbw5)
             obtain ⟨⟨y0, y1, y2⟩, -⟩ := hT.out.keep hbw5'.out hz.out
             have hW5 := Lib.hid (hWy.out _ hbw5'.out)
             clear hbw5 hV0)
          | (go_at_call 20; refine (hW5.out).mono ?_; rintro e w6 ⟨rfl, hbw6⟩
             have hbw6' := Lib.hid (below_call hbw5'.out hbw6)
             obtain ⟨⟨y0, y1, y2⟩, -⟩ := hT.out.keep hbw6'.out hz.out
             have hF6 := Lib.hid (hF.out _ hbw6'.out)
             clear hbw6 hW5)
          | (go_at_call 30; refine (hF6.out).mono ?_; rintro e w7 ⟨fa, fc, rfl, hbw7⟩
             have hbw7' := Lib.hid (below_call hbw6'.out hbw7)
             obtain ⟨⟨y0, y1, y2⟩, -⟩ := hT.out.keep hbw7'.out hz.out
             have hV7 := Lib.hid (hV1.out _ hbw7'.out)
             clear hbw7 hF6)
          | (go_at_call 17; refine (hV7.out).mono ?_; rintro e w8 ⟨rfl, hbw8⟩
             have hbw8' := Lib.hid (below_call hbw7'.out hbw8)
             obtain ⟨⟨y0, y1, y2⟩, -⟩ := hT.out.keep hbw8'.out hz.out
             have hAa := Lib.hid (hall.out _ hbw8'.out)
             clear hbw8 hV7)
          | (go_at_call 23; refine (hAa.out).mono ?_; rintro e w9 ⟨u, rfl, hG, hbw9⟩
             have hbw9' := Lib.hid (below_call hbw8'.out hbw9)
             obtain ⟨⟨y0, y1, y2⟩, -⟩ := hT.out.keep hbw9'.out hz.out
             obtain ⟨ta, tn, tc, rfl, htn⟩ := hG.shape.len2
             have htn1 : 0 < tn := by rw [htn]; exact hne.out
             have htn2 : (0 : Int) < (tn : Int) := by omega
             have htn3 : ¬ ((tn : Int) = 0) := by omega
             have hLv := Lib.hid (lives18 (w := w9))
             clear hG htn
             clear hbw9 hAa)
          | (go_at_call 18; refine (hLv.out).mono ?_; rintro e wf ⟨rfl, hbwf⟩
             have hbwf' := Lib.hid (below_call hbw9'.out hbwf)
             obtain ⟨⟨y0, y1, y2⟩, -⟩ := hT.out.keep hbwf'.out hz.out
             skip
             clear hbwf hLv))
        go_ret
        exact ⟨rfl, below_call hbW.out hbwf'.out⟩
      · have hL0 : allL (shOf P js' os') (allT (rsOf (shOf P js' os'))) = [] := by
          refine List.eq_nil_iff_forall_not_mem.2 fun t ht => hs ⟨_, ((mem_allL hwd.out).1 ht).2⟩
        rw [hL0] at hall
        have hF := Lib.hid (fun (W : World) (hb : Below W4.heap.size W4 W) => refuseC (hsh.out W hb) h7.out h21.out hv'.out hs (wt_ways hwd.out hlen.out))
        have hpr := Lib.hid (fun (W : World) (hb : Below W4.heap.size W4 W) (pa : Option Addr) (n pc : Nat) (ns : List Nd) (B : Nat) (hp : OwnN W B (.slice pa n pc) ns) (h5 : ns.length ≤ 20000) (hd : prB (shOf P js' os') (shOf P js' os').n (shOf P js' os').os.length ns = true) =>
          refProves31r (w := W) (B := 0) hv'.out (own_base (hoj.out W hb) (Nat.zero_le _)) (own_base (hoo.out W hb) (Nat.zero_le _)) (own_base hp (Nat.zero_le _)) h5 hd)
        clear hs hL0 hoj hoo
        go_wp2_with (
          first
          | (go_at_call 17; refine (hV0.out).mono ?_; rintro e w5 ⟨rfl, hbw5⟩
             have hbw5' := Lib.hid (below_call (Below.refl _ _) hbw5)
             obtain ⟨⟨y0, y1, y2⟩, -⟩ := hT.out.keep hbw5'.out hz.out
             have hW5 := Lib.hid (hWy.out _ hbw5'.out)
             clear hbw5 hV0)
          | (go_at_call 20; refine (hW5.out).mono ?_; rintro e w6 ⟨rfl, hbw6⟩
             have hbw6' := Lib.hid (below_call hbw5'.out hbw6)
             obtain ⟨⟨y0, y1, y2⟩, -⟩ := hT.out.keep hbw6'.out hz.out
             have hF6 := Lib.hid (hF.out _ hbw6'.out)
             clear hbw6 hW5)
          | (go_at_call 30; refine (hF6.out).mono ?_; rintro e w7 ⟨pa, pc, ns, rfl, hq5, hON, hpn, hbw7⟩
             have hbw7' := Lib.hid (below_call hbw6'.out hbw7)
             obtain ⟨⟨y0, y1, y2⟩, -⟩ := hT.out.keep hbw7'.out hz.out
             have hq5' := Lib.hid hq5
             have hON' := Lib.hid hON
             have hpn' := Lib.hid hpn
             obtain ⟨q, hq⟩ : ∃ q, q = ns.length := ⟨_, rfl⟩
             have hq' := Lib.hid hq
             rw [← hq] at hq5 ⊢
             have hqI : ((q : Int) ≤ 20000) := by omega
             have hqJ : decide ((q : Int) ≤ 20000) = true := by simpa using hqI
             have hcw7' := Lib.hid (Below.refl w7.heap.size w7)
             have hV7 := Lib.hid (hV1.out _ hbw7'.out)
             clear hON hpn hq
             clear hbw7 hF6)
          | (go_at_call 17; refine (hV7.out).mono ?_; rintro e w8 ⟨rfl, hbw8⟩
             have hbw8' := Lib.hid (below_call hbw7'.out hbw8)
             obtain ⟨⟨y0, y1, y2⟩, -⟩ := hT.out.keep hbw8'.out hz.out
             have hcw8' := Lib.hid (below_call hcw7'.out hbw8); have hAa := Lib.hid (hall.out _ hbw8'.out)
             clear hbw8 hV7)
          | (go_at_call 23; refine (hAa.out).mono ?_; rintro e w9 ⟨u, rfl, hG, hbw9⟩
             have hbw9' := Lib.hid (below_call hbw8'.out hbw9)
             obtain ⟨⟨y0, y1, y2⟩, -⟩ := hT.out.keep hbw9'.out hz.out
             have hcw9' := Lib.hid (below_call hcw8'.out hbw9)
             obtain ⟨ta, tn, tc, rfl, htn⟩ := hG.shape.len2
             obtain rfl : tn = 0 := htn
             have hP9 := Lib.hid (hpr.out w9 hbw9'.out pa ns.length pc ns _ (own_below hON'.out hcw9'.out) hq5'.out hpn'.out)
             rw [← hq'.out] at hP9
             clear hG
             clear hbw9 hAa)
          | (go_at_call 31; refine (hP9.out).mono ?_; rintro e wa ⟨rfl, hbwa⟩
             have hbwa' := Lib.hid (below_call hbw9'.out hbwa)
             obtain ⟨⟨y0, y1, y2⟩, -⟩ := hT.out.keep hbwa'.out hz.out
             have hLv := Lib.hid (lives18 (w := wa))
             clear hbwa hP9)
          | (go_at_call 18; refine (hLv.out).mono ?_; rintro e wf ⟨rfl, hbwf⟩
             have hbwf' := Lib.hid (below_call hbwa'.out hbwf)
             obtain ⟨⟨y0, y1, y2⟩, -⟩ := hT.out.keep hbwf'.out hz.out
             skip
             clear hbwf hLv))
        go_ret
        exact ⟨rfl, below_call hbW.out hbwf'.out⟩
end Go.Proofs.Ytjkbhdlbomcbeaa
