import Derived.Test.YtjkbhdlbomcbeaaVm
import Derived.Test.YtjkbhdlbomcbeaaV13
import Derived.Test.YtjkbhdlbomcbeaaV14
import Derived.Test.YtjkbhdlbomcbeaaV15
import Derived.Test.YtjkbhdlbomcbeaaV16
import Derived.Test.YtjkbhdlbomcbeaaV17
namespace Go.Proofs.Ytjkbhdlbomcbeaa
open Go.RowKit
theorem ReadsG.below {w w' : World} {v : Value} {xss : List (List Int)} (h : ReadsG w v xss) (hb : Below w.heap.size w w') : ReadsG w' v xss := by
  obtain ⟨ao, c, rfl, hc, h⟩ := h
  refine ⟨ao, c, rfl, hc, fun hne => ?_⟩
  obtain ⟨g, o, rfl, hg, hc⟩ := h hne
  refine ⟨g, o, rfl, Nat.lt_of_lt_of_le hg hb.size, fun j hj => ?_⟩
  obtain ⟨u, h1, h2⟩ := hc j hj
  exact ⟨u, (hb.cell (p := ⟨g, o + j, none⟩) hg).trans h1, h2.below hb⟩
theorem Row.ints {w : World} {B g n : Nat} {xs : List Int} (h : Row w B g n xs) : Ints w B (.slice (some ⟨g, 0, none⟩) n n) xs := by
  unfold Ints; rw [h.2]; exact h.1
theorem Row.lt {w : World} {B g n : Nat} {xs : List Int} (h : Row w B g n xs) : B ≤ g ∧ g < w.heap.size := by
  rcases h.1.2 with ⟨h', _⟩ | ⟨g', cap', cur, h', hB, hg, _⟩
  · simp at h'
  · simp only [Value.slice.injEq, Option.some.injEq, Addr.mk.injEq, and_true, true_and] at h'
    obtain ⟨rfl, rfl⟩ := h'
    exact ⟨hB, (Array.getElem?_eq_some_iff.1 hg).1⟩
theorem Row.reads {w : World} {B g n : Nat} {xs : List Int} (h : Row w B g n xs) : Reads w (.slice (some ⟨g, 0, none⟩) n n) xs := h.ints.shape
theorem OwnG.lit (w : World) (B : Nat) (hB : B ≤ w.heap.size) : OwnG (w.alloc (.cells #[] 26)) B (.slice (some ⟨w.heap.size, 0, none⟩) 0 0) [] :=
  ⟨[], World.ownsRow_made w #[] 0 hB (by unfold maxLen; omega) (by simp), rfl, fun j hj => by simp at hj⟩
theorem Ints.alloc {B : Nat} {v : Value} {xs : List Int} {w : World} (h : Ints w B v xs) (o : Obj) : Ints (w.alloc o) B v xs := World.ownsRow.alloc h o
theorem OwnG.alloc {B : Nat} {v : Value} {xs : List (List Int)} {w : World} (h : OwnG w B v xs) (o : Obj) : OwnG (w.alloc o) B v xs := h.below (below_alloc1 w o)
theorem InRow.below {w w' : World} {v : Value} {xs : List Int} (h : InRow w v xs) (hb : Below w.heap.size w w') : InRow w' v xs := ⟨h.1.below hb, h.2⟩
theorem InRows.below {w w' : World} {v : Value} {xss : List (List Int)} (h : InRows w v xss) (hb : Below w.heap.size w w') : InRows w' v xss := by
  obtain ⟨ao, c, rfl, hc, hm, h⟩ := h
  refine ⟨ao, c, rfl, hc, hm, fun hne => ?_⟩
  obtain ⟨g, o, rfl, hg, hc⟩ := h hne
  refine ⟨g, o, rfl, Nat.lt_of_lt_of_le hg hb.size, fun j hj => ?_⟩
  obtain ⟨u, h1, h2⟩ := hc j hj
  exact ⟨u, (hb.cell (p := ⟨g, o + j, none⟩) hg).trans h1, h2.below hb⟩
end Go.Proofs.Ytjkbhdlbomcbeaa

namespace Go.Proofs.Ytjkbhdlbomcbeaa
open Go.RowKit Shf
theorem OwnO.below {w w' : World} {B : Nat} {v : Value} {os : List (Int × Int)} (h : OwnO w B v os) (hb : Below w.heap.size w w') : OwnO w' B v os := own_below h hb
end Go.Proofs.Ytjkbhdlbomcbeaa

namespace Go.Proofs.Ytjkbhdlbomcbeaa
open Go.RowKit Shf
theorem Mod.frozen {b ge : Nat} {w w' : World} (h : Mod b ge w w') {p : Addr} (hp : p.block < w.heap.size) (h1 : p.block ≠ b) (h2 : p.block ≠ ge) : w'.frozen? p = w.frozen? p := World.frozen?_of_block (w := w) (h.block p.block hp h1 h2)
end Go.Proofs.Ytjkbhdlbomcbeaa

namespace Go.Proofs.Ytjkbhdlbomcbeaa
open Go.RowKit Go.Shelf Shf
set_option maxRecDepth 100000 in
theorem interval47 {w : World} (a b : Int) {d : Bool} (hd : intB a b = d) : Calls Try.prog 47 #[.int .i64 a, .int .i64 b] w fun e w' => e = .returned (.bool d) ∧ w = w' := by
  subst hd
  by_cases h1 : 0 ≤ a
  · have h1' : decide (a ≥ 0) = true := by simpa using h1
    by_cases h2 : a < b
    · go_enter Try.func47, Try.ntmps47
      go_wp2
      go_ret
      exact ⟨ret_b (by unfold intB; simp [h1, h2]), rfl⟩
    · have h2' : decide (a < b) = false := by simpa using h2
      go_enter Try.func47, Try.ntmps47
      go_wp2
      go_ret
      exact ⟨ret_b (by unfold intB; rw [h2']; simp), rfl⟩
  · have h1' : decide (a ≥ 0) = false := by simpa using h1
    go_enter Try.func47, Try.ntmps47
    go_wp2
    go_ret
    exact ⟨ret_b (by unfold intB; rw [show decide (0 ≤ a) = false by simpa using h1]; rfl), rfl⟩
end Go.Proofs.Ytjkbhdlbomcbeaa

namespace Go.Proofs.Ytjkbhdlbomcbeaa
open Go.RowKit Go.Shelf Shf
theorem val_form (o : Option Tr) : (o = none ∧ valO o = .nilIface) ∨ ∃ t ty v, o = some t ∧ valO o = .iface ty v ∧ t.val = .iface ty v := by
  cases o with
  | none => exact .inl ⟨rfl, rfl⟩
  | some t => cases t <;> exact .inr ⟨_, _, _, rfl, rfl, rfl⟩
theorem Rd.keep {w0 w w' : World} {b ge n : Nat} {P : Int} {jv ov pv : Value} {sn : Nat → Bool} (h : Rd w0 w b ge n P jv ov pv sn) (hb : Below w.heap.size w w') : Rd w0 w' b ge n P jv ov pv sn :=
  ⟨below_call h.below hb, h.hb, h.hge, Nat.lt_of_lt_of_le h.hbw hb.size, Nat.lt_of_lt_of_le h.hgw hb.size, h.hne, (hb.cell (p := ⟨b, 0, none⟩) h.hbw).trans h.c0, (hb.cell (p := ⟨b, 1, none⟩) h.hbw).trans h.c1, (hb.cell (p := ⟨b, 2, none⟩) h.hbw).trans h.c2, (hb.cell (p := ⟨b, 3, none⟩) h.hbw).trans h.c3, (hb.cell (p := ⟨b, 4, none⟩) h.hbw).trans h.c4,
    fun i hi => (hb.cell (p := ⟨ge, i, none⟩) h.hgw).trans (h.seen i hi), fun j => (hb.frozen (p := ⟨ge, j, none⟩) h.hgw).trans (h.fg j)⟩
theorem Rd.see {w0 w : World} {b ge n : Nat} {P : Int} {jv ov pv : Value} {sn : Nat → Bool} (h : Rd w0 w b ge n P jv ov pv sn) {i : Nat} (hi : i < n) : Rd w0 (w.setCell ⟨ge, i, none⟩ (.bool true)) b ge n P jv ov pv (seeN sn i) := by
  have hS : ∀ o', (w.setCell ⟨ge, i, none⟩ (.bool true)).cell? ⟨b, o', none⟩ = w.cell? ⟨b, o', none⟩ := fun o' => World.cell?_setCell_other _ _ _ _ (by have := h.hne; simp <;> omega)
  refine ⟨below_set h.below h.hge, h.hb, h.hge, by rw [World.size_setCell]; exact h.hbw, by rw [World.size_setCell]; exact h.hgw, h.hne, (hS 0).trans h.c0, (hS 1).trans h.c1, (hS 2).trans h.c2, (hS 3).trans h.c3, (hS 4).trans h.c4, fun k hk => ?_, fun j => by rw [World.frozen?_setCell]; exact h.fg j⟩
  unfold seeN
  by_cases e : k = i
  · subst e
    rw [if_pos rfl]
    exact World.cell?_setCell_same' _ _ _ (by rw [h.seen k hk]; rfl)
  · rw [if_neg e, World.cell?_setCell_other _ _ _ _ (by simp <;> omega)]
    exact h.seen k hk
theorem Kp.refl (ge : Nat) (w : World) : Kp ge w w := ⟨Nat.le_refl _, fun _ _ _ => rfl⟩
set_option maxHeartbeats 8000000 in
set_option maxRecDepth 100000 in
theorem node71 {w0 : World} {b ge nj jc m oc : Nat} {ja oa : Option Addr} {P : Int} {pv : Value} {ns : List Nd} (hp : ReadsNd w0 pv ns) :
    ∀ (fuel i : Nat) (w : World) (sn : Nat → Bool), ns.length ≤ i + fuel → Rd w0 w b ge ns.length P (.slice ja nj jc) (.slice oa m oc) pv sn →
    Calls Try.prog 71 #[.pointer (some ⟨b, 0, none⟩), .int .i64 i] w (NodeEnd w0 w b ge ns.length P (.slice ja nj jc) (.slice oa m oc) pv (pz ns nj m (fuel + 1) i sn)) := by
  obtain ⟨pa, pc, rfl, hpc, hpat⟩ := hp
  obtain ⟨n, hn⟩ : ∃ n, n = ns.length := ⟨_, rfl⟩
  intro fuel
  induction fuel with
  | zero =>
    intro i w sn hfi hR
    have hz : pz ns nj m (0 + 1) i sn = (none, sn) := by rw [pz, if_pos (.inl (by omega))]
    rw [hz]
    have c3 := hR.c3
    have c4 := hR.c4
    rw [← hn] at hR c3 c4 hfi ⊢
    have hd1 : decide (n ≤ i) = true := by simp; omega
    have hR' := Lib.hid hR
    clear hpat hn hz hR
    go_enter Try.func71, Try.ntmps71
    go_wp2_with fail
    go_ret
    exact ⟨rfl, hR'.out, Kp.refl _ _⟩
  | succ fuel ih =>
    intro i w sn hfi hR
    by_cases hin : i < ns.length
    · cases hsn : sn i with
      | true =>
        have hz : pz ns nj m (fuel + 1 + 1) i sn = (none, sn) := by rw [pz, if_pos (.inr hsn)]
        rw [hz]
        have c3 := hR.c3
        have c4 := hR.c4
        have s0 := hR.seen i hin
        rw [hsn] at s0
        rw [← hn] at hR c3 c4 hin ⊢
        have hd1 : decide (n ≤ i) = false := by simp; omega
        have hin' : (i : Int) < (n : Int) := by omega
        have hR' := Lib.hid hR
        clear hpat hn hz hR ih
        go_enter Try.func71, Try.ntmps71
        go_wp2_with fail
        go_ret
        exact ⟨rfl, hR'.out, Kp.refl _ _⟩
      | false =>
        obtain ⟨g, rfl, hg, n0, n1, n2, n3, n4, n5⟩ := hpat i hin
        have hz := pz_step (nj := nj) (no := m) (fuel := fuel + 1) hin hsn
        obtain ⟨⟨k, j, a, bb, l, r⟩, hx⟩ : ∃ x, x = ns.getD i N0 := ⟨_, rfl⟩
        rw [← hx] at n0 n1 n2 n3 n4 n5 hz
        simp only at n0 n1 n2 n3 n4 n5
        have p0 := (hR.below.cell (p := ⟨g, i * 6, none⟩) hg).trans n0
        have p1 := (hR.below.cell (p := ⟨g, i * 6 + 1, none⟩) hg).trans n1
        have p2 := (hR.below.cell (p := ⟨g, i * 6 + 2, none⟩) hg).trans n2
        have p3 := (hR.below.cell (p := ⟨g, i * 6 + 3, none⟩) hg).trans n3
        have p4 := (hR.below.cell (p := ⟨g, i * 6 + 4, none⟩) hg).trans n4
        have p5 := (hR.below.cell (p := ⟨g, i * 6 + 5, none⟩) hg).trans n5
        have hgg : g ≠ ge := by have := hR.hge; omega
        have c3 := hR.c3
        have c4 := hR.c4
        have s0 := hR.seen i hin
        rw [hsn] at s0
        have f0 := hR.fg i
        obtain ⟨W, hW⟩ : ∃ W, W = (w.setCell ⟨ge, i, none⟩ (.bool true)).alloc (.cells #[.int .i64 k, .int .i64 j, .int .i64 a, .int .i64 bb, .int .i64 l, .int .i64 r] 72) := ⟨_, rfl⟩
        have hRW := Lib.hid (show Rd w0 W b ge ns.length P (.slice ja nj jc) (.slice oa m oc) (.slice (some ⟨g, 0, none⟩) ns.length pc) (seeN sn i) by rw [hW]; exact (hR.see hin).keep (below_alloc1 _ _))
        have hnw := show W.cell? ⟨w.heap.size, 0, none⟩ = some (.int .i64 k) ∧ W.cell? ⟨w.heap.size, 1, none⟩ = some (.int .i64 j) ∧ W.cell? ⟨w.heap.size, 2, none⟩ = some (.int .i64 a) ∧ W.cell? ⟨w.heap.size, 3, none⟩ = some (.int .i64 bb) ∧ W.cell? ⟨w.heap.size, 4, none⟩ = some (.int .i64 l) ∧ W.cell? ⟨w.heap.size, 5, none⟩ = some (.int .i64 r) from by
          have h := nd_new (w.setCell ⟨ge, i, none⟩ (.bool true)) (.int .i64 k) (.int .i64 j) (.int .i64 a) (.int .i64 bb) (.int .i64 l) (.int .i64 r)
          rw [World.size_setCell] at h
          rw [hW]; exact h
        have hS : ∀ b' o', b' ≠ ge → (w.setCell ⟨ge, i, none⟩ (.bool true)).cell? ⟨b', o', none⟩ = w.cell? ⟨b', o', none⟩ := fun b' o' h => World.cell?_setCell_other _ _ _ _ (by simp <;> omega)
        have y0 := (hS g _ hgg).trans p0
        have y1 := (hS g _ hgg).trans p1
        have y2 := (hS g _ hgg).trans p2
        have y3 := (hS g _ hgg).trans p3
        have y4 := (hS g _ hgg).trans p4
        have y5 := (hS g _ hgg).trans p5
        have x3 := (hS b 3 hR.hne).trans c3
        have e1 := fun w : World => eq72 k j a bb l r 1 j a 0 l r w
        have e2 := fun w : World => eq72 k j a bb l r 2 0 a bb 0 0 w
        have e3 := fun w : World => eq72 k j a bb l r 3 j 0 0 0 0 w
        have hgd := guard72
        simp only [beq_self_eq_true, Bool.true_and, Bool.and_true] at e1 e2 e3
        obtain ⟨d1, hd1⟩ : ∃ d, d = (k == 1 && bb == 0) := ⟨_, rfl⟩
        obtain ⟨d2, hd2⟩ : ∃ d, d = (k == 2 && (j == 0 && (l == 0 && r == 0))) := ⟨_, rfl⟩
        obtain ⟨d3, hd3⟩ : ∃ d, d = (k == 3 && (a == 0 && (bb == 0 && (l == 0 && r == 0)))) := ⟨_, rfl⟩
        have hz2 : pz ns nj m (fuel + 1 + 1) i sn = (if d1 then (if spOk nj i ⟨k, j, a, bb, l, r⟩ then ((match (pz ns nj m (fuel + 1) l.toNat (seeN sn i)).1, (pz ns nj m (fuel + 1) r.toNat (pz ns nj m (fuel + 1) l.toNat (seeN sn i)).2).1 with
            | some x, some y => some (.split j a x y)
            | _, _ => none), (pz ns nj m (fuel + 1) r.toNat (pz ns nj m (fuel + 1) l.toNat (seeN sn i)).2).2) else (none, seeN sn i))
          else if d2 then (if intB a bb then some (.energy a bb) else none, seeN sn i) else if d3 then (if decide (0 ≤ j) && decide (j < m) then some (.late j) else none, seeN sn i) else (none, seeN sn i)) := by
          rw [hz, hd1, hd2, hd3]; rfl
        obtain ⟨R, hRR⟩ : ∃ R, R = pz ns nj m (fuel + 1 + 1) i sn := ⟨_, rfl⟩
        rw [← hRR]
        rw [hz2] at hRR
        have hRR' := Lib.hid hRR
        obtain ⟨G, hG⟩ : ∃ G, G = w.heap.size := ⟨_, rfl⟩
        rw [← hG] at hnw
        obtain ⟨m0, m1, m2, m3, m4, m5⟩ := hnw
        have hGW := Lib.hid (show G < W.heap.size by rw [hW, hG]; simp)
        have hKW := Lib.hid (show Kp ge w W by rw [hW]; exact (Kp.set ge i w _).trans (Kp.of_below (below_alloc1 _ _)))
        have hKq := Lib.hid (fun (q : Nat) => hKW.out.trans (Kp.of_below (below_drewN (Below.refl W.heap.size W) q)))
        have hGe := Lib.hid (show G ≠ ge by rw [hG]; have := hR.hgw; omega)
        have z1 := hRW.out.c1
        have z2 := hRW.out.c2
        have hIH := Lib.hid ih
        have hin' : (i : Int) < (ns.length : Int) := by omega
        have hdn : decide (ns.length ≤ i) = false := by simp; omega
        have hfi' := Lib.hid hfi
        rw [← hn] at c3 c4 hin hin' hdn x3 hRW hIH hfi' ⊢
        have hd1' := Lib.hid hd1
        rw [← hd1] at e1
        rw [← hd2] at e2
        rw [← hd3] at e3
        clear hR hpat n0 n1 n2 n3 n4 n5 p0 p1 p2 p3 p4 p5 hx hz hz2 hRR hS hgg hd1 hd2 hd3 hn ih hfi
        go_enter Try.func71, Try.ntmps71
        go_upto_region 5 with fail
        rw [← hW, ← hG]
        clear hW hG y0 y1 y2 y3 y4 y5 x3 c3 c4 s0 f0
        cases d1 with
        | true =>
          cases hok : spOk nj i ⟨k, j, a, bb, l, r⟩ with
          | true =>
            unfold spOk at hok
            simp only [Bool.and_eq_true, decide_eq_true_eq] at hok
            obtain ⟨h0, h1, h2, h3⟩ := hok
            obtain ⟨A, rfl⟩ : ∃ A : Nat, l = (A : Int) := ⟨l.toNat, by omega⟩
            obtain ⟨B, rfl⟩ : ∃ B : Nat, r = (B : Int) := ⟨r.toNat, by omega⟩
            have hok2 : spOk nj i ⟨k, j, a, bb, A, B⟩ = true := by unfold spOk; simp only [Bool.and_eq_true, decide_eq_true_eq]; exact ⟨h0, h1, h2, h3⟩
            have g0 : decide (j < 0) = false := by simp; omega
            have g1 : decide ((nj : Int) ≤ j) = false := by simp; omega
            have g2 : decide ((A : Int) ≤ (i : Int)) = false := by simp; omega
            have g3 : decide ((B : Int) ≤ (i : Int)) = false := by simp; omega
            have g4 : ¬ A ≤ i := by omega
            have g5 : ¬ B ≤ i := by omega
            obtain ⟨p, hp⟩ : ∃ p, p = pz ns nj m (fuel + 1) A (seeN sn i) := ⟨_, rfl⟩
            obtain ⟨q, hq2⟩ : ∃ q, q = pz ns nj m (fuel + 1) B p.2 := ⟨_, rfl⟩
            have hR3 := Lib.hid (show R = ((match p.1, q.1 with | some x, some y => some (.split j a x y) | _, _ => none), q.2) from by
              rw [hRR'.out, hok2, hq2, hp]; rfl)
            have hfA := Lib.hid (show n ≤ A + fuel by have := hfi'.out; omega)
            have hfB := Lib.hid (show n ≤ B + fuel by have := hfi'.out; omega)
            have hcA := Lib.hid (fun (X : World) (hX : Rd w0 X b ge n P (.slice ja nj jc) (.slice oa m oc) (.slice (some ⟨g, 0, none⟩) n pc) (seeN sn i)) => hIH.out A X (seeN sn i) hfA.out hX)
            have hcB := Lib.hid (fun (X : World) (hX : Rd w0 X b ge n P (.slice ja nj jc) (.slice oa m oc) (.slice (some ⟨g, 0, none⟩) n pc) p.2) => hIH.out B X p.2 hfB.out hX)
            rw [← hp] at hcA
            rw [← hq2] at hcB
            have hmG := Lib.hid (show G < W.heap.size from hGW.out)
            clear hp hq2 hok2 hIH
            go_upto_region 7 with fail
            go_quiet (fail)
            obtain ⟨Y, hY⟩ : ∃ Y, Y = W.drewN nq := ⟨_, rfl⟩
            have hYb := Lib.hid (show Below W.heap.size W Y by rw [hY]; exact below_drewN (Below.refl _ _) nq)
            rw [← hY]
            clear hY
            have k1 := (hYb.out.cell (p := ⟨G, 1, none⟩) hmG.out).trans m1
            have k2 := (hYb.out.cell (p := ⟨G, 2, none⟩) hmG.out).trans m2
            have k4 := (hYb.out.cell (p := ⟨G, 4, none⟩) hmG.out).trans m4
            have k5 := (hYb.out.cell (p := ⟨G, 5, none⟩) hmG.out).trans m5
            have hRY := Lib.hid (hRW.out.keep hYb.out)
            have hGY := Lib.hid (Nat.lt_of_lt_of_le hmG.out hYb.out.size)
            have hcA0 := Lib.hid (hcA.out Y hRY.out)
            clear m0 m1 m2 m3 m4 m5 z1 z2 e1 e2 e3
            have hKY := Lib.hid (hKW.out.trans (Kp.of_below hYb.out))
            have hvp := val_form p.1
            have hvq := val_form q.1
            rcases hvp with ⟨p1, v1⟩ | ⟨tp, typ, vp, p1, v1, v3⟩
            · rcases hvq with ⟨q1, q2⟩ | ⟨tq, tyq, vq, q1, q2, q3⟩
              · skip
                have hfin := Lib.hid (show R = (none, q.2) from by rw [hR3.out, p1, q1])
                have hv1 := Lib.hid v1
                have hv2 := Lib.hid q2
                clear v1 q2 p1 q1
                go_wp2_with (
                  first
                  | (go_at_call 71; refine (hcA0.out).mono ?_; rintro e w2 ⟨rfl, hR2, hK2⟩
                     have k1 := (hK2.cell (k := 1) hGY.out hGe.out).trans k1
                     have k2 := (hK2.cell (k := 2) hGY.out hGe.out).trans k2
                     have k5 := (hK2.cell (k := 5) hGY.out hGe.out).trans k5
                     have hK2' := Lib.hid hK2
                     have hcB0 := Lib.hid (hcB.out w2 hR2)
                     rw [hv1.out]
                     clear hR2 hcA0 hK2)
                  | (go_at_call 71; refine (hcB0.out).mono ?_; rintro e w3 ⟨rfl, hR4, hK3⟩
                     have k1 := (hK3.cell (k := 1) (Nat.lt_of_lt_of_le hGY.out hK2'.out.size) hGe.out).trans k1
                     have k2 := (hK3.cell (k := 2) (Nat.lt_of_lt_of_le hGY.out hK2'.out.size) hGe.out).trans k2
                     have hK3' := Lib.hid hK3
                     have hR4' := Lib.hid hR4
                     rw [hv2.out]
                     clear hR4 hK3 hcB0))
                go_ret
                rw [hfin.out]
                exact ⟨rfl, hR4'.out, hKY.out.trans (hK2'.out.trans hK3'.out)⟩
              · clear q3
                have hfin := Lib.hid (show R = (none, q.2) from by rw [hR3.out, p1, q1])
                have hv1 := Lib.hid v1
                have hv2 := Lib.hid q2
                clear v1 q2 p1 q1
                go_wp2_with (
                  first
                  | (go_at_call 71; refine (hcA0.out).mono ?_; rintro e w2 ⟨rfl, hR2, hK2⟩
                     have k1 := (hK2.cell (k := 1) hGY.out hGe.out).trans k1
                     have k2 := (hK2.cell (k := 2) hGY.out hGe.out).trans k2
                     have k5 := (hK2.cell (k := 5) hGY.out hGe.out).trans k5
                     have hK2' := Lib.hid hK2
                     have hcB0 := Lib.hid (hcB.out w2 hR2)
                     rw [hv1.out]
                     clear hR2 hcA0 hK2)
                  | (go_at_call 71; refine (hcB0.out).mono ?_; rintro e w3 ⟨rfl, hR4, hK3⟩
                     have k1 := (hK3.cell (k := 1) (Nat.lt_of_lt_of_le hGY.out hK2'.out.size) hGe.out).trans k1
                     have k2 := (hK3.cell (k := 2) (Nat.lt_of_lt_of_le hGY.out hK2'.out.size) hGe.out).trans k2
                     have hK3' := Lib.hid hK3
                     have hR4' := Lib.hid hR4
                     rw [hv2.out]
                     clear hR4 hK3 hcB0))
                go_ret
                rw [hfin.out]
                exact ⟨rfl, hR4'.out, hKY.out.trans (hK2'.out.trans hK3'.out)⟩
            · rcases hvq with ⟨q1, q2⟩ | ⟨tq, tyq, vq, q1, q2, q3⟩
              · clear v3
                have hfin := Lib.hid (show R = (none, q.2) from by rw [hR3.out, p1, q1])
                have hv1 := Lib.hid v1
                have hv2 := Lib.hid q2
                clear v1 q2 p1 q1
                go_wp2_with (
                  first
                  | (go_at_call 71; refine (hcA0.out).mono ?_; rintro e w2 ⟨rfl, hR2, hK2⟩
                     have k1 := (hK2.cell (k := 1) hGY.out hGe.out).trans k1
                     have k2 := (hK2.cell (k := 2) hGY.out hGe.out).trans k2
                     have k5 := (hK2.cell (k := 5) hGY.out hGe.out).trans k5
                     have hK2' := Lib.hid hK2
                     have hcB0 := Lib.hid (hcB.out w2 hR2)
                     rw [hv1.out]
                     clear hR2 hcA0 hK2)
                  | (go_at_call 71; refine (hcB0.out).mono ?_; rintro e w3 ⟨rfl, hR4, hK3⟩
                     have k1 := (hK3.cell (k := 1) (Nat.lt_of_lt_of_le hGY.out hK2'.out.size) hGe.out).trans k1
                     have k2 := (hK3.cell (k := 2) (Nat.lt_of_lt_of_le hGY.out hK2'.out.size) hGe.out).trans k2
                     have hK3' := Lib.hid hK3
                     have hR4' := Lib.hid hR4
                     rw [hv2.out]
                     clear hR4 hK3 hcB0))
                go_ret
                rw [hfin.out]
                exact ⟨rfl, hR4'.out, hKY.out.trans (hK2'.out.trans hK3'.out)⟩
              · have hx1 := Lib.hid v3
                have hx2 := Lib.hid q3
                clear v3 q3
                have hfin := Lib.hid (show R = (some (.split j a tp tq), q.2) from by rw [hR3.out, p1, q1])
                have hv1 := Lib.hid v1
                have hv2 := Lib.hid q2
                clear v1 q2 p1 q1
                go_wp2_with (
                  first
                  | (go_at_call 71; refine (hcA0.out).mono ?_; rintro e w2 ⟨rfl, hR2, hK2⟩
                     have k1 := (hK2.cell (k := 1) hGY.out hGe.out).trans k1
                     have k2 := (hK2.cell (k := 2) hGY.out hGe.out).trans k2
                     have k5 := (hK2.cell (k := 5) hGY.out hGe.out).trans k5
                     have hK2' := Lib.hid hK2
                     have hcB0 := Lib.hid (hcB.out w2 hR2)
                     rw [hv1.out]
                     clear hR2 hcA0 hK2)
                  | (go_at_call 71; refine (hcB0.out).mono ?_; rintro e w3 ⟨rfl, hR4, hK3⟩
                     have k1 := (hK3.cell (k := 1) (Nat.lt_of_lt_of_le hGY.out hK2'.out.size) hGe.out).trans k1
                     have k2 := (hK3.cell (k := 2) (Nat.lt_of_lt_of_le hGY.out hK2'.out.size) hGe.out).trans k2
                     have hK3' := Lib.hid hK3
                     have hR4' := Lib.hid hR4
                     rw [hv2.out]
                     clear hR4 hK3 hcB0))
                go_ret
                rw [hfin.out]
                exact ⟨by rw [valO, Tr.val, hx1.out, hx2.out]; rfl, hR4'.out, hKY.out.trans (hK2'.out.trans hK3'.out)⟩
          | false =>
            have hfin := Lib.hid (show R = (none, seeN sn i) from by rw [hRR'.out, hok]; rfl)
            have hRq := Lib.hid (fun (q : Nat) => hRW.out.keep (below_drewN (Below.refl W.heap.size W) q))
            have hno : ¬ (0 ≤ j ∧ j < (nj : Int) ∧ (i : Int) < l ∧ (i : Int) < r) := fun ⟨h0, h1, h2, h3⟩ => by
              have : spOk nj i ⟨k, j, a, bb, l, r⟩ = true := by unfold spOk; simp only [Bool.and_eq_true, decide_eq_true_eq]; exact ⟨h0, h1, h2, h3⟩
              rw [this] at hok; cases hok
            clear hok hIH
            by_cases q0 : j < 0
            · have q1 : decide (j < 0) = true := by simpa using q0
              clear hno
              go_wp2_with fail
              go_quiet (fail)
              go_wp2_with fail
              go_ret
              rw [hfin.out]
              exact ⟨rfl, hRq.out _, hKq.out _⟩
            · have q1 : decide (j < 0) = false := by simpa using q0
              by_cases q2 : (nj : Int) ≤ j
              · have q3 : decide ((nj : Int) ≤ j) = true := by simpa using q2
                clear hno
                go_wp2_with fail
                go_quiet (fail)
                go_wp2_with fail
                go_ret
                rw [hfin.out]
                exact ⟨rfl, hRq.out _, hKq.out _⟩
              · have q3 : decide ((nj : Int) ≤ j) = false := by simpa using q2
                by_cases q4 : l ≤ (i : Int)
                · have q5 : decide (l ≤ (i : Int)) = true := by simpa using q4
                  clear hno
                  go_wp2_with fail
                  go_quiet (fail)
                  go_wp2_with fail
                  go_ret
                  rw [hfin.out]
                  exact ⟨rfl, hRq.out _, hKq.out _⟩
                · have q5 : decide (l ≤ (i : Int)) = false := by simpa using q4
                  have q6 : r ≤ (i : Int) := by omega
                  have q7 : decide (r ≤ (i : Int)) = true := by simpa using q6
                  clear hno
                  go_wp2_with fail
                  go_quiet (fail)
                  go_wp2_with fail
                  go_ret
                  rw [hfin.out]
                  exact ⟨rfl, hRq.out _, hKq.out _⟩
        | false =>
          clear hIH
          cases d2 with
          | true =>
            cases hi2 : intB a bb with
            | true =>
              have hI := Lib.hid (fun (W : World) => interval47 (w := W) a bb hi2)
              have hfin := Lib.hid (show R = (some (.energy a bb), seeN sn i) from by rw [hRR'.out, hi2]; rfl)
              clear hi2
              go_wp2_with (go_at_call 47; refine (hI.out _).mono ?_; rintro e w2 ⟨rfl, rfl⟩)
              go_ret
              rw [hfin.out]
              exact ⟨rfl, hRW.out, hKW.out⟩
            | false =>
              have hI := Lib.hid (fun (W : World) => interval47 (w := W) a bb hi2)
              have hfin := Lib.hid (show R = (none, seeN sn i) from by rw [hRR'.out, hi2]; rfl)
              clear hi2
              go_wp2_with (go_at_call 47; refine (hI.out _).mono ?_; rintro e w2 ⟨rfl, rfl⟩)
              go_ret
              rw [hfin.out]
              exact ⟨rfl, hRW.out, hKW.out⟩
          | false =>
            cases d3 with
            | false =>
              have hfin := Lib.hid (show R = (none, seeN sn i) from hRR'.out)
              go_wp2_with fail
              go_ret
              rw [hfin.out]
              exact ⟨rfl, hRW.out, hKW.out⟩
            | true =>
              have hRq := Lib.hid (fun (q : Nat) => hRW.out.keep (below_drewN (Below.refl W.heap.size W) q))
              by_cases q0 : j < 0
              · have q1 : decide (0 ≤ j) = false := by simpa using q0
                have hfin := Lib.hid (show R = (none, seeN sn i) from by rw [hRR'.out, q1]; rfl)
                go_wp2_with fail
                go_quiet (fail)
                go_wp2_with fail
                go_ret
                rw [hfin.out]
                exact ⟨rfl, hRq.out _, hKq.out _⟩
              · have q1 : decide (0 ≤ j) = true := by simp; omega
                have q2 : 0 ≤ j := by omega
                by_cases q3 : j < (m : Int)
                · have q4 : decide (j < (m : Int)) = true := by simpa using q3
                  have hfin := Lib.hid (show R = (some (.late j), seeN sn i) from by rw [hRR'.out, q1, q4]; rfl)
                  go_wp2_with fail
                  go_quiet (fail)
                  go_wp2_with fail
                  go_ret
                  rw [hfin.out]
                  exact ⟨rfl, hRq.out _, hKq.out _⟩
                · have q4 : decide (j < (m : Int)) = false := by simpa using q3
                  have hfin := Lib.hid (show R = (none, seeN sn i) from by rw [hRR'.out, q1, q4]; rfl)
                  go_wp2_with fail
                  go_quiet (fail)
                  go_wp2_with fail
                  go_ret
                  rw [hfin.out]
                  exact ⟨rfl, hRq.out _, hKq.out _⟩
    · have hz : pz ns nj m (fuel + 1 + 1) i sn = (none, sn) := by rw [pz, if_pos (.inl (by omega))]
      rw [hz]
      have c3 := hR.c3
      have c4 := hR.c4
      rw [← hn] at hR c3 c4 hin ⊢
      have hd1 : decide (n ≤ i) = true := by simp; omega
      have hR' := Lib.hid hR
      clear hpat hn hz hR ih
      go_enter Try.func71, Try.ntmps71
      go_wp2_with fail
      go_ret
      exact ⟨rfl, hR'.out, Kp.refl _ _⟩
end Go.Proofs.Ytjkbhdlbomcbeaa

namespace Go.Proofs.Ytjkbhdlbomcbeaa
open Go.RowKit Go.Shelf Shf
theorem pz_wf (ns : List Nd) (nj no : Nat) : ∀ (f i : Nat) (sn : Nat → Bool) (t : Tr), (pz ns nj no f i sn).1 = some t → WfT nj no t := by
  intro f
  induction f with
  | zero => intro i sn t h; rw [pz] at h; cases h
  | succ f ih =>
    intro i sn t h
    rw [pz] at h
    split at h
    · cases h
    · simp only at h
      split at h
      · split at h
        · rename_i hok
          simp only at h
          unfold spOk at hok
          simp only [Bool.and_eq_true, decide_eq_true_eq] at hok
          split at h
          · rename_i x y hx hy
            cases h
            exact ⟨hok.1, hok.2.1, ih _ _ _ hx, ih _ _ _ hy⟩
          · cases h
        · cases h
      · split at h
        · split at h
          · rename_i hi
            cases h
            exact hi
          · cases h
        · split at h
          · split at h
            · rename_i hl
              simp only [Bool.and_eq_true, decide_eq_true_eq] at hl
              cases h
              exact hl
            · cases h
          · cases h
set_option maxHeartbeats 4000000 in
set_option maxRecDepth 100000 in
theorem proves32 {w : World} {v pv : Value} {P : Int} {js : List J} {os : List (Int × Int)} {ns : List Nd} (h : ShV w v P js os) (h7 : js.length ≤ 7) (h21 : os.length ≤ 21) (hp : ReadsNd w pv ns) :
    Calls Try.prog 32 #[v, pv] w fun e w' => e = .returned (.tuple #[.bool (provesB P js os ns), .int .i64 (provesE P js os ns)]) ∧ Below w.heap.size w w' := by
  obtain ⟨A, hA⟩ : ∃ A, A = provesB P js os ns := ⟨_, rfl⟩
  obtain ⟨E, hE⟩ : ∃ E, E = provesE P js os ns := ⟨_, rfl⟩
  rw [← hA, ← hE]
  unfold provesB at hA
  unfold provesE at hE
  obtain ⟨jv, ov, rfl, rj, ro⟩ := h
  obtain ⟨ja, jc, rfl, -⟩ := rj.at
  obtain ⟨oa, oc, rfl, -⟩ := ro.at
  have hpr := Lib.hid (fun (W : World) (hb : Below w.heap.size w W) => hp.below hb)
  obtain ⟨pa, pc, rfl, -⟩ := hp
  have hb0 := Lib.hid (below_alloc1 w (.cells #[.int .i64 P, .slice ja js.length jc, .slice oa os.length oc] 25))
  have hsh := Lib.hid (fun (W : World) (hb : Below w.heap.size w W) => (show ShV W (.agg #[.int .i64 P, .slice ja js.length jc, .slice oa os.length oc]) P js os from ⟨_, _, rfl, rj.below hb, ro.below hb⟩))
  cases hv : validB P js os with
  | false =>
    rw [hv] at hA hE
    simp only [Bool.false_and, Bool.false_eq_true, if_false] at hA hE
    have hn := Lib.hid (new37' (rj.below hb0.out) (ro.below hb0.out) h7 h21 hv)
    obtain ⟨m, hm⟩ : ∃ m, m = os.length := ⟨_, rfl⟩
    obtain ⟨n, hn2⟩ : ∃ n, n = js.length := ⟨_, rfl⟩
    obtain ⟨q, hq⟩ : ∃ q, q = ns.length := ⟨_, rfl⟩
    rw [← hm, ← hn2] at hn hb0
    rw [← hm, ← hn2, ← hq]
    subst hA hE
    clear hv rj ro hsh hpr hm hn2 hq h7 h21
    go_enter Try.func32, Try.ntmps32
    go_wp2_with (
      go_at_call 37; refine (hn.out).mono ?_; rintro e w1 ⟨rfl, hb1⟩
      have hb1' := Lib.hid (below_call (below_call hb0.out hb1) (below_alloc1 _ (.cells #[.int .i64 0, .slice none 0 0, .slice none 0 0] 81)))
      clear hb1)
    go_ret2
    exact ⟨rfl, hb1'.out⟩
  | true =>
    rw [hv] at hA hE
    simp only [Bool.true_and, if_true] at hA hE
    have hn := Lib.hid (new37' (rj.below hb0.out) (ro.below hb0.out) h7 h21 hv)
    obtain ⟨hV, hos⟩ := valid_sh hv
    by_cases hq : 20000 < ns.length
    · rw [if_pos hq] at hE
      rw [show decide (ns.length ≤ 20000) = false from by simp; omega] at hA
      simp only [Bool.false_and] at hA
      have hd1 : decide (20000 < ns.length) = true := by simpa using hq
      have hd2 : decide ((20000 : Int) < (ns.length : Int)) = true := by simp; omega
      obtain ⟨m, hm⟩ : ∃ m, m = os.length := ⟨_, rfl⟩
      obtain ⟨n, hn2⟩ : ∃ n, n = js.length := ⟨_, rfl⟩
      obtain ⟨q, hq2⟩ : ∃ q, q = ns.length := ⟨_, rfl⟩
      rw [← hm, ← hn2] at hn hb0
      rw [← hq2] at hd1 hd2 hq
      rw [← hm, ← hn2, ← hq2]
      subst hA hE
      clear hv rj ro hsh hpr hm hn2 hq2 h7 h21 hV hos
      go_enter Try.func32, Try.ntmps32
      go_wp2_with (
        go_at_call 37; refine (hn.out).mono ?_; rintro e w1 ⟨rfl, hb1⟩
        have hb1' := Lib.hid (below_call (below_call hb0.out hb1) (below_alloc1 _ (.cells #[.int .i64 P, .slice ja n jc, .slice oa m oc] 81)))
        clear hb1)
      go_ret2
      exact ⟨rfl, hb1'.out⟩
    · rw [if_neg hq] at hE
      rw [show decide (ns.length ≤ 20000) = true from by simp; omega] at hA
      simp only [Bool.true_and] at hA
      have hd1 : decide (20000 < ns.length) = false := by simpa using hq
      have hd2 : decide ((20000 : Int) < (ns.length : Int)) = false := by simp; omega
      unfold prB at hA
      have hwf := pz_wf ns js.length os.length (ns.length + 1) 0 (fun _ => false)
      have hps := Lib.hid (fun (W : World) (hb : Below w.heap.size w W) => parse53 (w := W) (P := P) (ja := ja) (oa := oa) (pa := pa) (n := js.length) (jc := jc) (m := os.length) (oc := oc) (q := ns.length) (pc := pc) (r := valO (pz ns js.length os.length (ns.length + 1) 0 fun _ => false).1) (by omega)
        (fun W3 b ge hR => (node71 (hpr.out W hb) ns.length 0 W3 (fun _ => false) (by omega) hR).mono (fun e w' he => ⟨he.1, he.2.1.below⟩)))
      obtain ⟨o, ho⟩ : ∃ o, o = (pz ns js.length os.length (ns.length + 1) 0 fun _ => false).1 := ⟨_, rfl⟩
      rw [← ho] at hA hps hwf
      have hosl : (shOf P js os).os.length = os.length := by simp [shOf]
      have hjsl : (shOf P js os).n = js.length := rfl
      rcases val_form o with ⟨e1, e2⟩ | ⟨t, ty, tv, e1, e2, e3⟩
      · rw [e1] at hA
        rw [e2] at hps
        simp only [prO] at hA
        obtain ⟨m, hm⟩ : ∃ m, m = os.length := ⟨_, rfl⟩
        obtain ⟨n, hn2⟩ : ∃ n, n = js.length := ⟨_, rfl⟩
        obtain ⟨q, hq2⟩ : ∃ q, q = ns.length := ⟨_, rfl⟩
        rw [← hm, ← hn2] at hn hb0 hps
        rw [← hq2] at hd1 hd2 hps
        rw [← hm, ← hn2, ← hq2]
        subst hA hE
        clear hv rj ro hsh hpr hm hn2 hq2 h7 h21 hV hos hq hwf ho hosl hjsl e1 e2
        go_enter Try.func32, Try.ntmps32
        go_wp2_with (
          first
          | (go_at_call 37; refine (hn.out).mono ?_; rintro e w1 ⟨rfl, hb1⟩
             have hT1 := Lib.hid (Three.new w1 (.int .i64 P) (.slice ja n jc) (.slice oa m oc) 81)
             have hs1 := Lib.hid (show w1.heap.size < (w1.alloc (.cells #[.int .i64 P, .slice ja n jc, .slice oa m oc] 81)).heap.size by simp)
             have hb1' := Lib.hid (below_call (below_call hb0.out hb1) (below_alloc1 _ (.cells #[.int .i64 P, .slice ja n jc, .slice oa m oc] 81)))
             have hc1 := Lib.hid (hps.out _ hb1'.out)
             clear hb1)
          | (go_at_call 53; refine (hc1.out).mono ?_; rintro e w2 ⟨rfl, hb2⟩
             have hb2' := Lib.hid (below_call hb1'.out hb2)
             obtain ⟨⟨z0, z1, z2⟩, -⟩ := hT1.out.keep hb2 hs1.out
             clear hb2))
        go_ret2
        exact ⟨rfl, hb2'.out⟩
      · rw [e1] at hA
        have hw := hwf t e1
        have hrf := Lib.hid (fun (W : World) (hb : Below w.heap.size w W) => refT t (s := shOf P js os) hV.loose (by rw [hosl]; exact hw) W _ (by rw [hos]; exact hsh.out W hb))
        have e4 : (Value.iface ty tv) = .iface (tyT t) t.arg := by rw [← e3, val_is]
        have e5 : ty = tyT t := by cases e4; rfl
        have e6 : tv = t.arg := by cases e4; rfl
        rw [e5, e6] at e2
        clear e3 e4 e5 e6
        rw [e2] at hps
        simp only [prO] at hA
        have hme := methT t
        have hca := callT t
        obtain ⟨y, hy⟩ : ∃ y, y = tyT t := ⟨_, rfl⟩
        obtain ⟨g, hg⟩ : ∃ g, g = t.arg := ⟨_, rfl⟩
        obtain ⟨f, hf⟩ : ∃ f, f = fnT t := ⟨_, rfl⟩
        obtain ⟨d, hd⟩ : ∃ d, d = rf t (shOf P js os) := ⟨_, rfl⟩
        rw [← hy, ← hg, ← hf] at hme
        rw [← hf] at hca
        rw [← hf, ← hg, ← hd] at hrf
        rw [← hy, ← hg] at hps
        rw [← hd] at hA
        obtain ⟨m, hm⟩ : ∃ m, m = os.length := ⟨_, rfl⟩
        obtain ⟨n, hn2⟩ : ∃ n, n = js.length := ⟨_, rfl⟩
        obtain ⟨q, hq2⟩ : ∃ q, q = ns.length := ⟨_, rfl⟩
        rw [← hm, ← hn2] at hn hb0 hps hrf
        rw [← hq2] at hd1 hd2 hps
        rw [← hm, ← hn2, ← hq2]
        subst hA hE
        clear hv rj ro hsh hpr hm hn2 hq2 h7 h21 hV hos hq hwf ho hosl hjsl e1 e2 hw hy hg hf hd
        go_enter Try.func32, Try.ntmps32
        go_wp2_with (
          first
          | (go_at_call 37; refine (hn.out).mono ?_; rintro e w1 ⟨rfl, hb1⟩
             have hT1 := Lib.hid (Three.new w1 (.int .i64 P) (.slice ja n jc) (.slice oa m oc) 81)
             have hs1 := Lib.hid (show w1.heap.size < (w1.alloc (.cells #[.int .i64 P, .slice ja n jc, .slice oa m oc] 81)).heap.size by simp)
             have hb1' := Lib.hid (below_call (below_call hb0.out hb1) (below_alloc1 _ (.cells #[.int .i64 P, .slice ja n jc, .slice oa m oc] 81)))
             have hc1 := Lib.hid (hps.out _ hb1'.out)
             clear hb1)
          | (go_at_call 53; refine (hc1.out).mono ?_; rintro e w2 ⟨rfl, hb2⟩
             have hb2' := Lib.hid (below_call hb1'.out hb2)
             obtain ⟨⟨z0, z1, z2⟩, -⟩ := hT1.out.keep hb2 hs1.out
             have hl2 := Lib.hid (hrf.out _ hb2'.out)
             clear hb2 hc1)
          | (refine (hl2.out).mono ?_; rintro e w3 ⟨rfl, hb3⟩
             have hb3' := Lib.hid (below_call hb2'.out hb3)
             clear hb3 hl2))
        go_ret2
        exact ⟨rfl, hb3'.out⟩
end Go.Proofs.Ytjkbhdlbomcbeaa

namespace Go.Proofs.Ytjkbhdlbomcbeaa
open Go.RowKit Go.Shelf Shf
theorem sm_add (f g : Nat → Int) : ∀ n, sm n (fun i => f i + g i) = sm n f + sm n g
  | 0 => rfl
  | n + 1 => by simp only [sm]; rw [sm_add f g n]; omega
theorem sm_zero {f : Nat → Int} : ∀ n, (∀ i, i < n → f i = 0) → sm n f = 0
  | 0, _ => rfl
  | n + 1, h => by simp only [sm]; rw [sm_zero n (fun i hi => h i (by omega)), h n (by omega)]; rfl
theorem sm_swap (f : Nat → Nat → Int) : ∀ a b, sm a (fun t => sm b (fun i => f i t)) = sm b (fun i => sm a (fun t => f i t))
  | 0, b => (sm_zero b (fun _ _ => rfl)).symm
  | a + 1, b => by simp only [sm]; rw [sm_swap f a b, sm_add]
theorem sm_act {j : J} {x : Int} (hx : 0 ≤ x) (hl : 0 ≤ j.l) : ∀ n : Nat, sm n (fun t => act j x (t : Int)) = (min ((n : Int)) (x + j.l) - min (n : Int) x) * j.p
  | 0 => by
    have e : min ((0 : Nat) : Int) (x + j.l) - min ((0 : Nat) : Int) x = 0 := by omega
    rw [e]; simp [sm]
  | n + 1 => by
    simp only [sm]
    rw [sm_act hx hl n]
    unfold act
    by_cases h : x ≤ (n : Int) ∧ (n : Int) < x + j.l
    · rw [if_pos h]
      have e : min (((n + 1 : Nat)) : Int) (x + j.l) - min ((n + 1 : Nat) : Int) x = (min ((n : Int)) (x + j.l) - min (n : Int) x) + 1 := by omega
      rw [e, Int.add_mul, Int.one_mul]
    · rw [if_neg h]
      have e : min (((n + 1 : Nat)) : Int) (x + j.l) - min ((n + 1 : Nat) : Int) x = (min ((n : Int)) (x + j.l) - min (n : Int) x) := by omega
      rw [e, Int.add_zero]
end Go.Proofs.Ytjkbhdlbomcbeaa

namespace Go.Proofs.Ytjkbhdlbomcbeaa
open Go.RowKit Go.Shelf Shf
theorem need_le {j : J} (hj : JobIn j) {x : Int} (h1 : j.f ≤ x) (h2 : x ≤ lat j) {a b : Nat} (hab : a < b) : needJ j a b ≤ sm b (fun t => act j x (t : Int)) - sm a (fun t => act j x (t : Int)) := by
  unfold JobIn at hj
  unfold lat at h2
  rw [sm_act (by omega) (by omega), sm_act (by omega) (by omega), ← Int.sub_mul, Int.mul_comm]
  unfold needJ lat
  refine Int.mul_le_mul_of_nonneg_left ?_ (by omega)
  omega
theorem sm_sub (f g : Nat → Int) : ∀ n, sm n (fun i => f i - g i) = sm n f - sm n g
  | 0 => rfl
  | n + 1 => by simp only [sm]; rw [sm_sub f g n]; omega
theorem needs_le {s : Sh} (hs : Loose s) {S : Nat → Int} (h : Sched s S) {a b : Nat} (hab : a < b) : needS s.js a b s.n ≤ sm b (fun t => loadAt s S (t : Int)) - sm a (fun t => loadAt s S (t : Int)) := by
  unfold loadAt
  rw [sm_swap (fun i t => act (s.job i) (S i) (t : Int)), sm_swap (fun i t => act (s.job i) (S i) (t : Int)), ← sm_sub]
  exact sm_le _ fun i hi => need_le (hs.jobs i hi) (h.range i hi).1 (h.range i hi).2 hab
theorem sm_more {f : Nat → Int} {c : Int} (a : Nat) : ∀ d, (∀ i, a ≤ i → i < a + d → f i ≤ c) → sm (a + d) f - sm a f ≤ c * d
  | 0, _ => by simp
  | d + 1, h => by
    have h1 := sm_more a d (fun i h1 h2 => h i h1 (by omega))
    have h2 := h (a + d) (by omega) (by omega)
    rw [← Nat.add_assoc]
    simp only [sm]
    rw [show ((d + 1 : Nat) : Int) = (d : Int) + 1 from by omega, Int.mul_add, Int.mul_one]
    omega
/-- A shaft with a schedule has no overfull interval. -/
theorem never_over {s : Sh} (hs : Loose s) {S : Nat → Int} (h : Sched s S) {a b : Nat} (hab : a < b) (hb : b ≤ 24) : ovB s.P s.js a b = false := by
  have h1 := needs_le hs h hab
  have h2 := sm_more (f := fun t => loadAt s S (t : Int)) (c := s.P) a (b - a) (fun i h1 h2 => h.load i (by omega) (by omega))
  rw [show a + (b - a) = b from by omega] at h2
  unfold ovB
  rw [decide_eq_false_iff_not]
  have e : ((b - a : Nat) : Int) = (b : Int) - a := by omega
  rw [e] at h2
  show ¬ s.P * ((b : Int) - a) < needS s.js a b s.n
  omega
end Go.Proofs.Ytjkbhdlbomcbeaa

namespace Go.Proofs.Ytjkbhdlbomcbeaa
open Go.RowKit Go.Shelf Shf
/-- What is refuted has no schedule. -/
theorem rf_sound : ∀ (t : Tr) {s : Sh}, Loose s → WfT s.n s.os.length t → rf t s = true → ¬ ∃ S, Sched s S := by
  intro t
  induction t with
  | split j a l r ihl ihr =>
    intro s hs hw hr ⟨S, hS⟩
    obtain ⟨h0, h1, h2, h3⟩ := hw
    simp only [rf, Bool.and_eq_true, decide_eq_true_eq] at hr
    obtain ⟨r1, r2, r3, r4⟩ := hr
    have hj : j.toNat < s.n := by omega
    by_cases hc : S j.toNat ≤ a
    · exact ihl (loose_till hs hj r1 (by omega)) (by rw [till_n]; exact h2) r3 ⟨S, (sched_till hj (by omega) S).2 ⟨hS, hc⟩⟩
    · exact ihr (loose_later hs hj r1 r2) (by rw [later_n]; exact h3) r4 ⟨S, (sched_later hj (by omega) S).2 ⟨hS, by omega⟩⟩
  | energy a b =>
    intro s hs hw hr ⟨S, hS⟩
    have hI := intB_iff.1 hw
    obtain ⟨x, rfl⟩ : ∃ x : Nat, a = x := ⟨a.toNat, by omega⟩
    obtain ⟨y, rfl⟩ : ∃ y : Nat, b = y := ⟨b.toNat, by omega⟩
    have := never_over hs hS (a := x) (b := y) (by omega) (by omega)
    simp only [rf] at hr
    rw [this] at hr; cases hr
  | late k =>
    intro s hs hw hr ⟨S, hS⟩
    obtain ⟨h0, h1⟩ := hw
    have hk : k.toNat < s.os.length := by omega
    simp only [rf, lateO, decide_eq_true_eq] at hr
    have hm := os_mem hk
    have ho := hS.order _ hm
    have hb := hs.orders _ hm
    have g1 := hS.range _ hb.1
    have g2 := hS.range _ hb.2.1
    omega
end Go.Proofs.Ytjkbhdlbomcbeaa
