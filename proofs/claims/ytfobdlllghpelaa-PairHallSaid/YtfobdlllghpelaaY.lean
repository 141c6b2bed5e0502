import Derived.Test.YtfobdlllghpelaaX
namespace Go.Proofs.Ytfobdlllghpelaa
open Go.RowKit Go.Shelf Pair
attribute [local go_sem] Oper.semAt_some

set_option maxHeartbeats 4000000 in
set_option maxRecDepth 100000 in
theorem walk6 {w : World} {v : Value} {xss : List (List Int)} (hg : InRows w v xss) (lim : Int) :
    Calls Try.prog 6 #[v, .int .i64 lim] w fun e w' => e = .returned (.bool true) ∧ Below w.heap.size w w' := by
  have hf := Lib.hid (few18 hg)
  obtain ⟨cs, hcs⟩ : ∃ cs, cs = fewOf xss := ⟨_, rfl⟩
  have hcst := Lib.hid (fun (w : World) (B : Nat) (v : Value) (h : OwnG w B v cs) => (show Cst w v cs by rw [hcs] at h ⊢; exact few_cst h))
  rw [← hcs] at hf
  obtain ⟨go, gc, rfl, _⟩ := hg
  clear hcs
  have hlv := Lib.hid (fun (w : World) => lives22 (w := w))
  obtain ⟨b, hb⟩ : ∃ b, b = validC cs := ⟨_, rfl⟩
  cases b with
  | false =>
    have hk := Lib.hid (fun (w : World) (v : Value) (h : Cst w v cs) => lacks30_bad h hb.symm lim)
    have hc := Lib.hid (fun (w : World) (v : Value) (h : Cst w v cs) => costs21 h)
    rw [← hb] at hc
    clear hb
    go_enter Try.func6, Try.ntmps6
    go_wp2_with fail
    refine (hf.out).mono ?_
    rintro e w1 ⟨v1, rfl, hv1, hb1⟩
    have hc1 := Lib.hid (hcst.out _ _ _ hv1)
    have hb1' := Lib.hid hb1
    obtain ⟨vo, vc, rfl, _⟩ := hv1.shape
    clear hv1 hb1
    go_wp2_with fail
    refine (hk.out _ _ hc1.out).mono ?_
    rintro e w2 ⟨rfl, hb2⟩
    have hc2 := Lib.hid (hc1.out.below hb2)
    have hb2' := Lib.hid (below_call hb1'.out hb2)
    clear hb2 hc1 hb1'
    go_wp2_with fail
    refine (hc.out _ _ hc2.out).mono ?_
    rintro e w3 ⟨rfl, rfl⟩
    go_wp2_with fail
    refine (hlv.out _).mono ?_
    rintro e w3 ⟨rfl, hb3⟩
    have hb3' := Lib.hid (below_call hb2'.out hb3)
    clear hb3
    go_wp2_with fail
    go_ret
    exact ⟨rfl, hb3'.out⟩
  | true =>
    have hgd := good_of hb.symm
    obtain ⟨n, hn⟩ : ∃ n, n = cs.length := ⟨_, rfl⟩
    rw [← hn] at hgd
    have hk := Lib.hid (fun (w : World) (v : Value) (h : Cst w v cs) => lacks30 h hb.symm hgd lim)
    have hr := Lib.hid (fun (w : World) (v : Value) (h : Cst w v cs) => refLacks31 h hgd lim)
    have hc := Lib.hid (fun (w : World) (v : Value) (h : Cst w v cs) => costs21 h)
    rw [← hb] at hc
    obtain ⟨o, ho⟩ : ∃ o, o = lkM (alwL cs 0 lim n) (2 ^ n) := ⟨_, rfl⟩
    rw [← ho] at hk hr
    clear hb hgd hn ho
    have hnil := nil_eq
    cases o with
    | none =>
      go_enter Try.func6, Try.ntmps6
      go_wp2_with fail
      refine (hf.out).mono ?_
      rintro e w1 ⟨v1, rfl, hv1, hb1⟩
      have hc1 := Lib.hid (hcst.out _ _ _ hv1)
      have hb1' := Lib.hid hb1
      obtain ⟨vo, vc, rfl, _⟩ := hv1.shape
      clear hv1 hb1
      go_wp2_with fail
      refine (hk.out _ _ hc1.out).mono ?_
      rintro e w2 ⟨⟨vl, rfl, hl⟩, hb2⟩
      obtain rfl : vl = .slice none 0 0 := hl
      have hc2 := Lib.hid (hc1.out.below hb2)
      have hb2' := Lib.hid (below_call hb1'.out hb2)
      clear hb2 hc1 hb1'
      rw [if_pos rfl]
      go_wp2_with fail
      refine (hc.out _ _ hc2.out).mono ?_
      rintro e w3 ⟨rfl, rfl⟩
      go_wp2_with fail
      refine (hr.out _ _ hc2.out).mono ?_
      rintro e w3 ⟨vr, rfl, hvr, hb3⟩
      obtain rfl : vr = .slice none 0 0 := hvr
      have hb3' := Lib.hid (below_call hb2'.out hb3)
      clear hb3
      go_wp2_with fail
      refine (hlv.out _).mono ?_
      rintro e w4 ⟨rfl, hb4⟩
      have hb4' := Lib.hid (below_call hb3'.out hb4)
      clear hb4
      go_wp2_with fail
      go_ret
      exact ⟨rfl, hb4'.out⟩
    | some l =>
      go_enter Try.func6, Try.ntmps6
      go_wp2_with fail
      refine (hf.out).mono ?_
      rintro e w1 ⟨v1, rfl, hv1, hb1⟩
      have hc1 := Lib.hid (hcst.out _ _ _ hv1)
      have hb1' := Lib.hid hb1
      obtain ⟨vo, vc, rfl, _⟩ := hv1.shape
      clear hv1 hb1
      go_wp2_with fail
      refine (hk.out _ _ hc1.out).mono ?_
      rintro e w2 ⟨⟨vl, rfl, hl⟩, hb2⟩
      obtain ⟨gl, cl, rfl, hl1⟩ := list_val hl.1 hl.2.2
      have hl8 := hl.2.1
      have hl2 := Lib.hid hl1
      have hc2 := Lib.hid (hc1.out.below hb2)
      have hb2' := Lib.hid (below_call hb1'.out hb2)
      clear hb2 hc1 hb1' hl hl1
      rw [if_neg (by simp)]
      go_wp2_with fail
      refine (hc.out _ _ hc2.out).mono ?_
      rintro e w3 ⟨rfl, rfl⟩
      go_wp2_with fail
      refine (hr.out _ _ hc2.out).mono ?_
      rintro e w3 ⟨vr, rfl, hvr, hb3⟩
      obtain ⟨gr, cr, rfl, _, _, hr1⟩ := int_val hvr.1 hvr.2.2
      have hb3' := Lib.hid (below_call hb2'.out hb3)
      have hsm := Lib.hid (same25 (hl2.out.below hb3) hr1 (by rw [natI_len]; omega))
      clear hb3 hvr hr1
      go_wp2_with fail
      refine (hsm.out).mono ?_
      rw [sameL_self]
      rintro e w4 ⟨rfl, hb4⟩
      have hb4' := Lib.hid (below_call hb3'.out hb4)
      clear hb4
      go_wp2_with fail
      refine (hlv.out _).mono ?_
      rintro e w5 ⟨rfl, hb5⟩
      have hb5' := Lib.hid (below_call hb4'.out hb5)
      clear hb5
      go_wp2_with fail
      go_ret
      exact ⟨rfl, hb5'.out⟩
end Go.Proofs.Ytfobdlllghpelaa
