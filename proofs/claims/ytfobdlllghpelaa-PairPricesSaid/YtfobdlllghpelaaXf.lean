import Derived.Test.YtfobdlllghpelaaXe
namespace Go.Proofs.Ytfobdlllghpelaa
open Go.RowKit Go.Shelf Pair
attribute [local go_sem] Oper.semAt_some

set_option maxHeartbeats 4000000 in
set_option maxRecDepth 100000 in
theorem walk7 {w : World} {v : Value} {xss : List (List Int)} (hg : InRows w v xss) :
    Calls Try.prog 7 #[v] w fun e w' => e = .returned (.bool true) ∧ Below w.heap.size w w' := by
  have hf := Lib.hid (few18 hg)
  have h6 := Lib.hid (few_six (gs := xss))
  obtain ⟨cs, hcs⟩ : ∃ cs, cs = fewOf xss := ⟨_, rfl⟩
  have hcst := Lib.hid (fun (w : World) (B : Nat) (v : Value) (h : OwnG w B v cs) => (show Cst w v cs by rw [hcs] at h ⊢; exact few_cst h))
  rw [← hcs] at hf h6
  obtain ⟨go, gc, rfl, _⟩ := hg
  clear hcs
  have hlv := Lib.hid (fun (w : World) => lives22 (w := w))
  obtain ⟨b, hb⟩ : ∃ b, b = validC cs := ⟨_, rfl⟩
  cases b with
  | false =>
    have hk := Lib.hid (fun (w : World) (v : Value) (h : Cst w v cs) => prices32_bad h hb.symm)
    have hc := Lib.hid (fun (w : World) (v : Value) (h : Cst w v cs) => costs21 h)
    rw [← hb] at hc
    clear hb h6
    go_enter Try.func7, Try.ntmps7
    go_wp2_with fail
    refine (hf.out).mono ?_
    rintro e w1 ⟨v1, rfl, hv1, hb1⟩
    have hc1 := Lib.hid (hcst.out _ _ _ hv1)
    have hb1' := Lib.hid hb1
    obtain ⟨vo, vc, rfl, _⟩ := hv1.shape
    clear hv1 hb1
    go_wp2_with fail
    refine (hk.out _ _ hc1.out).mono ?_
    rintro e w2 ⟨rfl, hb2⟩
    have hc2 := Lib.hid (hc1.out.below hb2)
    have hb2' := Lib.hid (below_call hb1'.out hb2)
    clear hb2 hc1 hb1'
    go_wp2_with fail
    refine (hc.out _ _ hc2.out).mono ?_
    rintro e w3 ⟨rfl, rfl⟩
    go_wp2_with fail
    refine (hlv.out _).mono ?_
    rintro e w3 ⟨rfl, hb3⟩
    have hb3' := Lib.hid (below_call hb2'.out hb3)
    clear hb3
    go_wp2_with fail
    go_ret
    exact ⟨rfl, hb3'.out⟩
  | true =>
    have hgd := good_of hb.symm
    have hn6 := h6.out hb.symm
    obtain ⟨n, hn⟩ : ∃ n, n = cs.length := ⟨_, rfl⟩
    rw [← hn] at hgd hn6
    have hn8 := hgd.eight
    obtain ⟨x, hx1, hx2, hx3, hx4⟩ := cheap_first (cs := cs) hn8
    have hch := cheap_of hx2 hx4
    have hk := Lib.hid (fun (w : World) (v : Value) (h : Cst w v cs) => prices32 h hb.symm hgd hx1 hch)
    have hr := Lib.hid (fun (w : World) (v : Value) (h : Cst w v cs) => refCheapest29 h hgd hn6)
    rw [hx4] at hr
    obtain ⟨S, hS⟩ : ∃ S, S = sumM cs 0 x := ⟨_, rfl⟩
    rw [← hS] at hk
    have hS' := Lib.hid hS
    have hp := Lib.hid (fun (w : World) (v : Value) (xs : List Int) (hv : Reads w v xs) (h : prB n xs = true) => (show Calls Try.prog 33 #[v, .int .i64 n] w fun e w' => e = .returned (.bool true) ∧ w = w' by
      have := prices33 hv (by have := (prB_at h).1; omega) n; rwa [h] at this))
    have hpv := Lib.hid (fun (w : World) (v a b : Value) (R L : List Int) (h : Cst w v cs) (ha : Reads w a R) (hb : Reads w b L) (h1 : prB n R = true) (h2 : prB n L = true) (h3 : allPr cs n R L (List.range' 0 n) = true) (h4 : totPr R L n = S) => (show Calls Try.prog 34 #[v, a, b, .int .i64 S] w fun e w' => e = .returned (.bool true) ∧ Below w.heap.size w w' by
      have := refProves34 h hgd ha hb h1 h2 S
      have hp : pvB cs n R L S = true := by unfold pvB; rw [h3, h4]; simp
      rwa [hp] at this))
    have hc := Lib.hid (fun (w : World) (v : Value) (h : Cst w v cs) => costs21 h)
    rw [← hb] at hc
    have hn' := Lib.hid hn
    clear hb hgd h6 hx1 hx2 hx3 hx4 hch hS hn
    go_enter Try.func7, Try.ntmps7
    go_wp2_with fail
    refine (hf.out).mono ?_
    rintro e w1 ⟨v1, rfl, hv1, hb1⟩
    have hc1 := Lib.hid (hcst.out _ _ _ hv1)
    have hb1' := Lib.hid hb1
    obtain ⟨vo, vc, rfl, _⟩ := hv1.shape
    rw [← hn'.out] at hc1 ⊢
    clear hv1 hb1
    go_wp2_with fail
    refine (hk.out _ _ hc1.out).mono ?_
    rintro e w2 ⟨gU, gV, U, V, rfl, hU, hV, p1, p2, p3, p4, hb2⟩
    have hU2 := Lib.hid hU.reads
    have hV2 := Lib.hid hV.reads
    have hc2 := Lib.hid (hc1.out.below hb2)
    have hb2' := Lib.hid (below_call hb1'.out hb2)
    have hps := Lib.hid (And.intro p1 (And.intro p2 (And.intro p3 p4)))
    clear hb2 hc1 hb1' hU hV p1 p2 p3 p4
    go_wp2_with fail
    refine (hc.out _ _ hc2.out).mono ?_
    rintro e w3 ⟨rfl, rfl⟩
    go_wp2_with fail
    refine (hr.out _ _ hc2.out).mono ?_
    rintro e w3 ⟨u3, m3, rfl, ⟨⟨ad3, c3, rfl⟩, hu3, rfl⟩, hb3⟩
    rw [← hS'.out]
    have hU3 := Lib.hid (hU2.out.below hb3)
    have hV3 := Lib.hid (hV2.out.below hb3)
    have hc3 := Lib.hid (hc2.out.below hb3)
    have hb3' := Lib.hid (below_call hb2'.out hb3)
    have k1 := Lib.hid (hp.out w3 _ U hU3.out hps.out.1)
    have k2 := Lib.hid (hp.out w3 _ V hV3.out hps.out.2.1)
    have k3 := Lib.hid (hpv.out w3 _ _ _ U V hc3.out hU3.out hV3.out hps.out.1 hps.out.2.1 hps.out.2.2.1 hps.out.2.2.2)
    clear hb3 hu3 hc2 hb2' hU2 hV2
    go_wp2_with fail
    refine (k1.out).mono ?_
    rintro e w4 ⟨rfl, rfl⟩
    go_wp2_with fail
    refine (k2.out).mono ?_
    rintro e w4 ⟨rfl, rfl⟩
    go_wp2_with fail
    refine (k3.out).mono ?_
    rintro e w4 ⟨rfl, hb4⟩
    have hb4' := Lib.hid (below_call hb3'.out hb4)
    clear hb4
    go_wp2_with fail
    refine (hlv.out _).mono ?_
    rintro e w5 ⟨rfl, hb5⟩
    have hb5' := Lib.hid (below_call hb4'.out hb5)
    clear hb5
    go_wp2_with fail
    go_ret
    exact ⟨rfl, hb5'.out⟩
end Go.Proofs.Ytfobdlllghpelaa
