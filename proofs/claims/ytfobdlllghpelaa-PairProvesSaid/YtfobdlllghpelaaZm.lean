import Derived.Test.YtfobdlllghpelaaZl
import Derived.Test.YtfobdlllghpelaaY
import Derived.Deep.RegionHeld3
namespace Go.Proofs.Ytfobdlllghpelaa
open Go.RowKit Go.Shelf Pair
attribute [local go_sem] Oper.semAt_some

def Cuts8 (w0 : World) (x : List (List Int)) (y z : List Int) (wx : World) (p q r : Value) : Prop := OwnG wx w0.heap.size p x ∧ Ints wx w0.heap.size q y ∧ Ints wx w0.heap.size r z ∧ Below w0.heap.size w0 wx

set_option maxHeartbeats 4000000 in
set_option maxRecDepth 100000 in
theorem walk8 {w : World} {v c0 c1 : Value} {xss : List (List Int)} {ys zs : List Int} (hg : InRows w v xss) (h0 : InRow w c0 ys) (h1 : InRow w c1 zs) (s : Int) :
    Calls Try.prog 8 #[v, .agg #[c0, c1], .int .i64 s] w fun e w' => e = .returned (.bool true) ∧ Below w.heap.size w w' := by
  obtain ⟨w0, hw0⟩ : ∃ w0, w0 = w.alloc (.cells #[c0, c1] 43) := ⟨_, rfl⟩
  have hb0 : Below w.heap.size w w0 := by rw [hw0]; exact below_alloc1 w _
  have e0 : w0.cell? ⟨w.heap.size, 0, none⟩ = some c0 := by rw [hw0, World.cell?_alloc_at (hn := rfl)]; rfl
  have e1 : w0.cell? ⟨w.heap.size, 1, none⟩ = some c1 := by rw [hw0, World.cell?_alloc_at (hn := rfl)]; rfl
  have hsz : w.heap.size < w0.heap.size := by rw [hw0]; simp
  obtain ⟨g0, hg0⟩ : ∃ g, g = w.heap.size := ⟨_, rfl⟩
  rw [← hg0] at e0 e1 hsz
  have hF := Lib.hid (fun (W : World) (h : Below w0.heap.size w0 W) => (few18 (hg.below (below_call hb0 h))).mono fun e w' he => (show ∃ v', e = .returned v' ∧ OwnG w' w0.heap.size v' (fewOf xss) ∧ Below W.heap.size W w' ∧ Below w0.heap.size w0 w' from by
    obtain ⟨v', r, ho, hb⟩ := he
    exact ⟨v', r, ho.base h.size, hb, below_call h hb⟩))
  have hY := Lib.hid (fun (W : World) (h : Below w0.heap.size w0 W) => (cut35 (h0.below (below_call hb0 h)) 9 (by omega)).mono fun e w' he => (show ∃ v', e = .returned v' ∧ Ints w' w0.heap.size v' (ys.take 9) ∧ Below W.heap.size W w' ∧ Below w0.heap.size w0 w' from by
    obtain ⟨v', r, ho, hb⟩ := he
    exact ⟨v', r, ho.base h.size, hb, below_call h hb⟩))
  have hZ := Lib.hid (fun (W : World) (h : Below w0.heap.size w0 W) => (cut35 (h1.below (below_call hb0 h)) 9 (by omega)).mono fun e w' he => (show ∃ v', e = .returned v' ∧ Ints w' w0.heap.size v' (zs.take 9) ∧ Below W.heap.size W w' ∧ Below w0.heap.size w0 w' from by
    obtain ⟨v', r, ho, hb⟩ := he
    exact ⟨v', r, ho.base h.size, hb, below_call h hb⟩))
  have hY9 : (ys.take 9).length ≤ 1000 := by rw [List.length_take]; omega
  have hZ9 : (zs.take 9).length ≤ 1000 := by rw [List.length_take]; omega
  obtain ⟨cs, hcs⟩ : ∃ cs, cs = fewOf xss := ⟨_, rfl⟩
  have hcst := Lib.hid (fun (w : World) (B : Nat) (v : Value) (h : OwnG w B v cs) => (show Cst w v cs by rw [hcs] at h ⊢; exact few_cst h))
  rw [← hcs] at hF
  obtain ⟨R, hR⟩ : ∃ R, R = ys.take 9 := ⟨_, rfl⟩
  obtain ⟨L, hL⟩ : ∃ L, L = zs.take 9 := ⟨_, rfl⟩
  rw [← hR] at hY hY9
  rw [← hL] at hZ hZ9
  obtain ⟨go, gc, rfl, _⟩ := hg
  obtain ⟨_, _, yo, yc, rfl, _⟩ := h0
  obtain ⟨_, _, zo, zc, rfl, _⟩ := h1
  have hb0' := Lib.hid hb0
  clear hcs hR hL hb0
  obtain ⟨yl, hyl⟩ : ∃ yl, yl = ys.length := ⟨_, rfl⟩
  obtain ⟨zl, hzl⟩ : ∃ zl, zl = zs.length := ⟨_, rfl⟩
  rw [← hyl] at e0 hY hw0 ⊢
  rw [← hzl] at e1 hZ hw0 ⊢
  clear hyl hzl
  have hw0' := Lib.hid hw0
  have hg0' := Lib.hid hg0
  clear hw0 hg0
  have hlv := Lib.hid (fun (w : World) => lives22 (w := w))
  go_enter Try.func8, Try.ntmps8
  go_wp2_with fail
  rw [← hw0'.out, ← hg0'.out]
  go_upto_region 1 with fail
  go_cut [7, 8, 9] from 13 to 20 (fun p q r wx => Cuts8 w0 cs R L wx p q r)
  case first =>
    refine wp_region_noPanic ?_
    have hbase := Below.refl w0.heap.size w0
    go_region_held3 (fun w' => w'.cell? ⟨g0, 0, none⟩ = some (.slice yo yl yc) ∧ w'.cell? ⟨g0, 1, none⟩ = some (.slice zo zl zc))
      (first
        | exact ⟨e0, e1⟩
        | exact ⟨(hcF.cell (p := ⟨g0, 0, none⟩) hsz).trans e0, (hcF.cell (p := ⟨g0, 1, none⟩) hsz).trans e1⟩
        | exact ⟨(hcY.cell (p := ⟨g0, 0, none⟩) hsz).trans e0, (hcY.cell (p := ⟨g0, 1, none⟩) hsz).trans e1⟩
        | exact ⟨(hcZ.cell (p := ⟨g0, 0, none⟩) hsz).trans e0, (hcZ.cell (p := ⟨g0, 1, none⟩) hsz).trans e1⟩)
      (first
        | (go_at_call 18; refine (hF.out _ ?_).mono ?_; (first | exact hbase | exact hbase.drew | exact hcY | exact hcZ | exact hcY.drew | exact hcZ.drew); rintro e wF ⟨vF, rfl, hoF, hbF, hcF⟩)
        | (go_at_call_of 35 (Value.slice yo yl yc); refine (hY.out _ ?_).mono ?_; (first | exact hbase | exact hbase.drew | exact hcF | exact hcZ | exact hcF.drew | exact hcZ.drew); rintro e wY ⟨vY, rfl, hoY, hbY, hcY⟩)
        | (go_at_call_of 35 (Value.slice zo zl zc); refine (hZ.out _ ?_).mono ?_; (first | exact hbase | exact hbase.drew | exact hcF | exact hcY | exact hcF.drew | exact hcY.drew); rintro e wZ ⟨vZ, rfl, hoZ, hbZ, hcZ⟩))
    all_goals refine NoPanic.normal ?_
    all_goals go_wp2_with fail
    all_goals go_meet
    all_goals refine ⟨?_, ?_, ?_, ?_⟩
    all_goals
      first
        | with_reducible exact hoF
        | with_reducible exact hoY
        | with_reducible exact hoZ
        | with_reducible exact hcF
        | with_reducible exact hcY
        | with_reducible exact hcZ
        | exact hoF.below hbY
        | exact hoF.below hbZ
        | exact hoY.below hbF
        | exact hoY.below hbZ
        | exact hoZ.below hbF
        | exact hoZ.below hbY
        | exact (hoF.below hbY).below hbZ
        | exact (hoF.below hbZ).below hbY
        | exact (hoY.below hbF).below hbZ
        | exact (hoY.below hbZ).below hbF
        | exact (hoZ.below hbF).below hbY
        | exact (hoZ.below hbY).below hbF
  case rest =>
    obtain ⟨ho, hy, hz, hbx⟩ := hcut
    have hc1 := Lib.hid (hcst.out _ _ _ ho)
    have hR1 := Lib.hid hy.shape
    have hL1 := Lib.hid hz.shape
    have hb1' := Lib.hid (below_call hb0'.out hbx)
    obtain ⟨vo, vc, rfl, _⟩ := ho.shape
    obtain ⟨ro, rc, rfl, _⟩ := hy.shape
    obtain ⟨lo, lc, rfl, _⟩ := hz.shape
    clear ho hy hz hbx e0 e1 hF hY hZ
    obtain ⟨b, hb⟩ : ∃ b, b = validC cs := ⟨_, rfl⟩
    have hc := Lib.hid (fun (w : World) (v : Value) (h : Cst w v cs) => costs21 h)
    rw [← hb] at hc
    cases b with
    | false =>
      have hk := Lib.hid (fun (w : World) (v a b : Value) (h : Cst w v cs) => proves36_bad (a := a) (b := b) h hb.symm s)
      clear hb
      go_wp2_with fail
      refine (hk.out _ _ _ _ hc1.out).mono ?_
      rintro e w2 ⟨rfl, rfl⟩
      go_wp2_with fail
      refine (hc.out _ _ hc1.out).mono ?_
      rintro e w3 ⟨rfl, rfl⟩
      go_wp2_with fail
      refine (hlv.out _).mono ?_
      rintro e w3 ⟨rfl, hb3⟩
      have hb3' := Lib.hid (below_call hb1'.out hb3)
      clear hb3
      go_wp2_with fail
      go_ret
      exact ⟨rfl, hb3'.out⟩
    | true =>
      have hgd := good_of hb.symm
      obtain ⟨n, hn⟩ : ∃ n, n = cs.length := ⟨_, rfl⟩
      rw [← hn] at hgd hc1 ⊢
      have hk := Lib.hid (fun (w : World) (v a b : Value) (h : Cst w v cs) (ha : Reads w a R) (hb' : Reads w b L) => proves36 h hb.symm hgd ha hb' hY9 hZ9 s)
      have hp1 := Lib.hid (fun (w : World) (a : Value) (ha : Reads w a R) => prices33 ha hY9 n)
      have hp2 := Lib.hid (fun (w : World) (a : Value) (ha : Reads w a L) => prices33 ha hZ9 n)
      have hr := Lib.hid (fun (hp : prB n R = true) (hq : prB n L = true) (w : World) (v a b : Value) (h : Cst w v cs) (ha : Reads w a R) (hb' : Reads w b L) => refProves34 h hgd ha hb' hp hq s)
      obtain ⟨p, hp⟩ : ∃ p, p = prB n R := ⟨_, rfl⟩
      obtain ⟨q, hq⟩ : ∃ q, q = prB n L := ⟨_, rfl⟩
      obtain ⟨t, ht⟩ : ∃ t, t = pvB cs n R L s := ⟨_, rfl⟩
      rw [← hp] at hk hp1 hr
      rw [← hq] at hk hp2 hr
      rw [← ht] at hk hr
      clear hb hgd hp hq ht hn
      cases p with
      | false =>
        simp only [Bool.false_and, Bool.false_eq_true, if_false] at hk
        go_wp2_with fail
        refine (hk.out _ _ _ _ hc1.out hR1.out hL1.out).mono ?_
        rintro e w2 ⟨rfl, rfl⟩
        go_wp2_with fail
        refine (hc.out _ _ hc1.out).mono ?_
        rintro e w3 ⟨rfl, rfl⟩
        go_wp2_with fail
        refine (hp1.out _ _ hR1.out).mono ?_
        rintro e w3 ⟨rfl, rfl⟩
        go_wp2_with fail
        refine (hlv.out _).mono ?_
        rintro e w3 ⟨rfl, hb3⟩
        have hb3' := Lib.hid (below_call hb1'.out hb3)
        clear hb3
        go_wp2_with fail
        go_ret
        exact ⟨rfl, hb3'.out⟩
      | true =>
        cases q with
        | false =>
          simp only [Bool.false_and, Bool.and_false, Bool.false_eq_true, if_false] at hk
          go_wp2_with fail
          refine (hk.out _ _ _ _ hc1.out hR1.out hL1.out).mono ?_
          rintro e w2 ⟨rfl, rfl⟩
          go_wp2_with fail
          refine (hc.out _ _ hc1.out).mono ?_
          rintro e w3 ⟨rfl, rfl⟩
          go_wp2_with fail
          refine (hp1.out _ _ hR1.out).mono ?_
          rintro e w3 ⟨rfl, rfl⟩
          go_wp2_with fail
          refine (hp2.out _ _ hL1.out).mono ?_
          rintro e w3 ⟨rfl, rfl⟩
          go_wp2_with fail
          refine (hlv.out _).mono ?_
          rintro e w3 ⟨rfl, hb3⟩
          have hb3' := Lib.hid (below_call hb1'.out hb3)
          clear hb3
          go_wp2_with fail
          go_ret
          exact ⟨rfl, hb3'.out⟩
        | true =>
          have hr2 := Lib.hid (fun (w : World) (v a b : Value) (h : Cst w v cs) (ha : Reads w a R) (hb' : Reads w b L) => hr.out rfl rfl w v a b h ha hb')
          clear hr
          simp only [Bool.true_and, if_true] at hk
          cases t
          all_goals
            go_wp2_with fail
            refine (hk.out _ _ _ _ hc1.out hR1.out hL1.out).mono ?_
            rintro e w2 ⟨rfl, rfl⟩
            go_wp2_with fail
            refine (hc.out _ _ hc1.out).mono ?_
            rintro e w3 ⟨rfl, rfl⟩
            go_wp2_with fail
            refine (hp1.out _ _ hR1.out).mono ?_
            rintro e w3 ⟨rfl, rfl⟩
            go_wp2_with fail
            refine (hp2.out _ _ hL1.out).mono ?_
            rintro e w3 ⟨rfl, rfl⟩
            go_wp2_with fail
            refine (hr2.out _ _ _ _ hc1.out hR1.out hL1.out).mono ?_
            rintro e w3 ⟨rfl, hb2⟩
            have hb2' := Lib.hid (below_call hb1'.out hb2)
            clear hb2
            go_wp2_with fail
            refine (hlv.out _).mono ?_
            rintro e w4 ⟨rfl, hb3⟩
            have hb3' := Lib.hid (below_call hb2'.out hb3)
            clear hb3
            go_wp2_with fail
            go_ret
            exact ⟨rfl, hb3'.out⟩
end Go.Proofs.Ytfobdlllghpelaa
