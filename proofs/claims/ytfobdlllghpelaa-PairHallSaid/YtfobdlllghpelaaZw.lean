import Derived.Test.YtfobdlllghpelaaZv
namespace Go.Proofs.Ytfobdlllghpelaa
open Go.RowKit Go.Shelf Pair
attribute [local go_sem] Oper.semAt_some

theorem nbS_take {cs : List (List Int)} {lim : Int} {l : List Nat} {r j : Nat} (h : r < l.length) : nbS cs lim (l.take (r + 1)) j = (nbS cs lim (l.take r) j || decide (costAt cs (l.getD r 0) j ≤ lim)) := by
  unfold nbS
  rw [List.take_succ_eq_append_getElem h, List.any_append]
  simp [List.getD_eq_getElem?_getD, h]
theorem found_row {w : World} {B n : Nat} {l : List Nat} {pv : Value} (h : Found w B n (some l) (.returned pv)) : ∃ g, pv = .slice (some ⟨g, 0, none⟩) n n ∧ Row w B g n (natI l) := by
  obtain ⟨g, h1, h2⟩ := h
  injection h1 with h1
  exact ⟨g, h1, h2⟩

set_option maxHeartbeats 4000000 in
set_option maxRecDepth 100000 in
theorem walk12 {w : World} {v : Value} {xs : List Nat} {n0 y0 : Int} (hn0 : (Lit.int .u8 n0).wf = true) (hx : InNats .u16 65535 w v xs) (hy0 : (Lit.int .u16 y0).wf = true) :
    Calls Try.prog 12 #[.int .u8 n0, v, .int .u16 y0] w fun e w' => e = .returned (.bool true) ∧ Below w.heap.size w w' := by
  obtain ⟨a, rfl, ha⟩ := wf8 hn0
  obtain ⟨y, rfl, hy⟩ := wf16 hy0
  have hmd := Lib.hid (made45 hx a 8 30 ha (by omega) (by omega) (by omega))
  obtain ⟨n, hn⟩ : ∃ n, n = sizeM a 8 := ⟨_, rfl⟩
  have hn1 : 1 ≤ n := by rw [hn]; exact size_one a 8
  have hn8 : n ≤ 8 := by rw [hn]; exact size_le a 8 (by omega)
  have hgd := made_good (xs := xs) (m := 30) hn1 hn8 (by omega)
  have hvd := made_valid (xs := xs) (m := 30) hn1 hn8 (by omega)
  have hcst := Lib.hid (fun (w : World) (B : Nat) (v : Value) (h : OwnG w B v (madeC xs 30 n n)) => made_cst (m := 30) hn8 h)
  rw [← hn] at hmd
  obtain ⟨cs, hcs⟩ : ∃ cs, cs = madeC xs 30 n n := ⟨_, rfl⟩
  rw [← hcs] at hmd hgd hvd hcst
  clear hn hcs
  obtain ⟨lim, hlim⟩ : ∃ l : Nat, l = y % 31 := ⟨_, rfl⟩
  have hrm : Int.tmod (y : Int) 31 = (lim : Int) := by rw [hlim]; exact tmod_nat y 31
  have hl31 : lim ≤ 31 := by omega
  clear hlim
  have hlen := hgd.len
  have hsq := Lib.hid (fun (w : World) (v : Value) (h : Cst w v cs) => h.sq hgd)
  have hwo := Lib.hid (fun (w : World) (v : Value) (h : Cst w v cs) => worst19 h hvd hgd)
  have hwf := Lib.hid (fun (m : Nat) (h : Least (fun m => decide (0 < waysM cs 0 m n)) 1000 m) => worst_fact hgd h)
  have hwp := Lib.hid (fun (m : Nat) (h : Least (fun m => decide (0 < waysM cs 0 m n)) 1000 m) => worst_pair hgd h)
  have hlk := Lib.hid (fun (lim : Int) (w : World) (v : Value) (h : Cst w v cs) => lacks30 h hvd hgd lim)
  have hls := Lib.hid (fun (lim : Int) (h : ¬ 0 < waysM cs 0 lim n) => (show ∃ l, lkM (alwL cs 0 lim n) (2 ^ n) = some l from by
    cases e : lkM (alwL cs 0 lim n) (2 ^ n) with
    | some l => exact ⟨l, rfl⟩
    | none => exact absurd ((hall_iff hgd).2 (lkM_none.1 e)) h))
  have hln := Lib.hid (fun (lim : Int) (h : 0 < waysM cs 0 lim n) => lkM_none.2 ((hall_iff hgd).1 h))
  have hlf := Lib.hid (fun (l : List Nat) (h : lkM (alwL cs 0 lim n) (2 ^ n) = some l) => lacks_fact hgd h)
  have hct := Lib.hid (fun (w : World) (v : Value) (h : Cst w v cs) => count40 h hvd hgd (lim : Int))
  have hwb : waysM cs 0 lim n ≤ 16777216 := ways_bd hn8
  have hpr := Lib.hid (fun (w : World) (u : Value) (l : List Nat) (h1 : l.length = n) (h2 : l.Nodup) (h3 : ∀ a ∈ l, a < n) (hu : Reads w u (natI l)) => (show Calls Try.prog 44 #[u, .int .i64 n] w fun e w' => e = .returned (.bool true) ∧ Below w.heap.size w w' by
    have := refPairing44 hu (by rw [natI_len, h1]; omega) n (by omega)
    rwa [pairB_of h1 h2 h3] at this))
  have hfl := Lib.hid (fun (w : World) (v u : Value) (h : Cst w v cs) (l : List Nat) (h1 : l.length = n) (h3 : ∀ a ∈ l, a < n) (hu : Reads w u (natI l)) => falling46 (h.sq hgd) hgd hu h1 h3)
  have hlv := Lib.hid (fun (w : World) => lives22 (w := w))
  obtain ⟨⟨xo, xc, rfl, _⟩, -⟩ := hx
  clear hgd hvd hn0 hy0
  go_enter Try.func12, Try.ntmps12
  go_wp2_with fail
  refine (hmd.out).mono ?_
  rintro e w1 ⟨v1, rfl, hv1, hb1⟩
  have hc1 := Lib.hid (hcst.out _ _ _ hv1)
  have hb1' := Lib.hid hb1
  have hvl := (hcst.out _ _ _ hv1).reads
  obtain ⟨vo, vc, hve, _⟩ := hvl
  rw [hlen] at hve
  subst hve
  clear hv1 hb1 hmd hlen hcst
  go_wp2_with fail
  refine (hwo.out _ _ hc1.out).mono ?_
  rintro e w2 ⟨m, pv, rfl, hm, hpv, hb2⟩
  obtain ⟨hm1, hm2, hm3, hm4⟩ := hwf.out m hm
  obtain ⟨l0, q1, q2, q3, q4, q5, q6⟩ := hwp.out m hm
  rw [q1] at hpv
  obtain ⟨gp, rfl, hrow⟩ := found_row hpv
  have hr2 := Lib.hid hrow.reads
  have hc2 := Lib.hid (hc1.out.below hb2)
  have hb2' := Lib.hid (below_call hb1'.out hb2)
  obtain ⟨lA, hlA⟩ := hls.out _ hm3
  have hlA' := Lib.hid (hlk.out ((m : Int) - 1) w2 _ hc2.out)
  rw [hlA] at hlA'
  have hlB := Lib.hid (fun (w : World) (v : Value) (h : Cst w v cs) => hlk.out (m : Int) w v h)
  rw [hln.out _ hm2] at hlB
  have hm4' := Lib.hid (hm4 (lim : Int))
  have hlN := Lib.hid (hln.out (lim : Int))
  have hlS := Lib.hid (hls.out (lim : Int))
  have hp2' := Lib.hid (hpr.out · · l0 q2 q3 q4)
  have hf2' := Lib.hid (hfl.out · · · · l0 q2 q4)
  obtain ⟨F, hF⟩ : ∃ F, F = falling (costsN cs l0) := ⟨_, rfl⟩
  rw [← hF] at hf2' q5 q6
  have hn1' : n ≠ 0 := by omega
  clear hm hpv hrow hb2 hc1 hb1' hm2 hm3 hm4 q1 q2 q3 q4 hF hlA hwo hwf hwp hls hln hpr hfl
  have hl5 : ∀ l : List Nat, (if (some l : Option (List Nat)) = none then (5 : Int) else 0) = 0 := fun l => if_neg (by simp)
  go_wp2_with fail
  refine (hlA'.out).mono ?_
  rintro e w3 ⟨⟨v3, rfl, hv3⟩, hb3⟩
  rw [hl5]
  obtain ⟨g3, cap3, rfl, _⟩ := list_val hv3.1 hv3.2.2
  have hr3 := Lib.hid (hr2.out.below hb3)
  have hc3 := Lib.hid (hc2.out.below hb3)
  have hb3' := Lib.hid (below_call hb2'.out hb3)
  clear hv3 hb3 hc2 hb2' hr2 hlA'
  go_wp2_with fail
  refine (hlB.out _ _ hc3.out).mono ?_
  rintro e w4 ⟨⟨v4, rfl, hv4⟩, hb4⟩
  obtain rfl : v4 = .slice none 0 0 := hv4
  rw [if_pos rfl]
  have hr4 := Lib.hid (hr3.out.below hb4)
  have hc4 := Lib.hid (hc3.out.below hb4)
  have hb4' := Lib.hid (below_call hb3'.out hb4)
  clear hb4 hc3 hb3' hr3 hlB
  have hlC := Lib.hid (hlk.out (lim : Int) w4 _ hc4.out)
  obtain ⟨W, hW⟩ : ∃ W, W = waysM cs 0 lim n := ⟨_, rfl⟩
  rw [← hW] at hwb hlN hlS hct hm4'
  clear hW
  by_cases hWp : 0 < W
  · have hnone := hlN.out hWp
    rw [hnone] at hlC
    have hml := hm4'.out.2 hWp
    have hml2 : decide (m ≤ lim) = true := by simp; omega
    have hWp2 : (0 : Int) < (W : Int) := by omega
    clear hnone hlN hlS hm4' hlf
    go_wp2_with fail
    refine (hlC.out).mono ?_
    rintro e w5 ⟨⟨v5, rfl, hv5⟩, hb5⟩
    obtain rfl : v5 = .slice none 0 0 := hv5
    rw [if_pos rfl]
    have hc5 := Lib.hid (hc4.out.below hb5)
    have hr5 := Lib.hid (hr4.out.below hb5)
    have hb5' := Lib.hid (below_call hb4'.out hb5)
    clear hb5 hc4 hb4' hr4 hlC
    go_wp2_with fail
    refine (hct.out _ _ hc5.out).mono ?_
    rintro e w6 ⟨rfl, hb6⟩
    have hc6 := Lib.hid (hc5.out.below hb6)
    have hr6 := Lib.hid (hr5.out.below hb6)
    have hb6' := Lib.hid (below_call hb5'.out hb6)
    clear hb6 hc5 hb5' hr5
    have hp6 := Lib.hid (hp2'.out w6 _ hr6.out)
    go_wp2_with fail
    refine (hp6.out).mono ?_
    rintro e w7 ⟨rfl, hb7⟩
    have hc7 := Lib.hid (hc6.out.below hb7)
    have hr7 := Lib.hid (hr6.out.below hb7)
    have hb7' := Lib.hid (below_call hb6'.out hb7)
    clear hb7 hc6 hb6' hr6 hp6
    have hf7 := Lib.hid (hf2'.out w7 _ _ hc7.out hr7.out)
    go_wp2_with fail
    refine (hf7.out).mono ?_
    rintro e w8 ⟨v8, rfl, hv8, hb8⟩
    obtain ⟨g8, cap8, rfl, _, c8, _⟩ := int_val hv8 (by intro e; rw [e] at q5; simp at q5; omega)
    have c80 := c8 0 (by omega)
    rw [q5]
    rw [q6] at c80
    have hc8 := Lib.hid (hc7.out.below hb8)
    have hb8' := Lib.hid (below_call hb7'.out hb8)
    clear hb8 hc7 hr7 hv8 c8 hf7 hb7'
    go_wp2_with fail
    refine (hlv.out _).mono ?_
    rintro e w9 ⟨rfl, hb9⟩
    have hc9 := Lib.hid (hc8.out.below hb9)
    have hb9' := Lib.hid (below_call hb8'.out hb9)
    clear hb9 hc8 hb8' c80
    go_wp2_with fail
    go_ret
    exact ⟨rfl, hb9'.out⟩
  · obtain ⟨l, hl⟩ := hlS.out hWp
    rw [hl] at hlC
    obtain ⟨R, hR1, hR2, hR3⟩ := hlf.out l hl
    have hml : ¬ (m : Int) ≤ (lim : Int) := fun h => hWp (hm4'.out.1 h)
    have hml2 : decide (m ≤ lim) = false := by simp; omega
    have hW0 : W = 0 := by omega
    subst hW0
    have hl8 : l.length ≤ 8 := by rw [hR2]; exact bl_len R
    have hris := Lib.hid (show Rises n l by rw [hR2]; exact bl_rises hR1)
    clear hl hlN hlS hm4' hlf hR1 hR2 hWp hlk
    go_wp2_with fail
    refine (hlC.out).mono ?_
    rintro e w5 ⟨⟨v5, rfl, hv5⟩, hb5⟩
    rw [hl5]
    obtain ⟨gl, cl, rfl, hL5⟩ := list_val hv5.1 hv5.2.2
    have hL5 := Lib.hid hL5
    have hc5 := Lib.hid (hc4.out.below hb5)
    have hr5 := Lib.hid (hr4.out.below hb5)
    have hb5' := Lib.hid (below_call hb4'.out hb5)
    clear hb5 hc4 hb4' hr4 hlC hv5
    go_wp2_with fail
    refine (hct.out _ _ hc5.out).mono ?_
    rintro e w6 ⟨rfl, hb6⟩
    have hc6 := Lib.hid (hc5.out.below hb6)
    have hr6 := Lib.hid (hr5.out.below hb6)
    have hL6 := Lib.hid (hL5.out.below hb6)
    have hb6' := Lib.hid (below_call hb5'.out hb6)
    clear hb6 hc5 hb5' hr5
    have hp6 := Lib.hid (hp2'.out w6 _ hr6.out)
    go_wp2_with fail
    refine (hp6.out).mono ?_
    rintro e w7 ⟨rfl, hb7⟩
    have hc7 := Lib.hid (hc6.out.below hb7)
    have hr7 := Lib.hid (hr6.out.below hb7)
    have hL7 := Lib.hid (hL6.out.below hb7)
    have hb7' := Lib.hid (below_call hb6'.out hb7)
    clear hb7 hc6 hb6' hr6 hp6
    have hf7 := Lib.hid (hf2'.out w7 _ _ hc7.out hr7.out)
    go_wp2_with fail
    refine (hf7.out).mono ?_
    rintro e w8 ⟨v8, rfl, hv8, hb8⟩
    obtain ⟨g8, cap8, rfl, _, c8, _⟩ := int_val hv8 (by intro e; rw [e] at q5; simp at q5; omega)
    have c80 := c8 0 (by omega)
    rw [q5]
    rw [q6] at c80
    have hc8 := Lib.hid (hc7.out.below hb8)
    have hL8 := Lib.hid (hL7.out.below hb8)
    have hb8' := Lib.hid (below_call hb7'.out hb8)
    clear hb8 hc7 hr7 hv8 c8 hf7 hb7'
    go_wp2_with fail
    refine (hlv.out _).mono ?_
    rintro e w9 ⟨rfl, hb9⟩
    have hc9 := Lib.hid (hc8.out.below hb9)
    have hL9 := Lib.hid (hL8.out.below hb9)
    have hb9' := Lib.hid (below_call hb8'.out hb9)
    clear hb9 hc8 hb8' c80
    have hsq9 := Lib.hid (hsq.out _ _ hc9.out)
    obtain ⟨k, hk⟩ : ∃ k, k = l.length := ⟨_, rfl⟩
    rw [← hk] at hL9 hR3 hl8 ⊢
    have hk' := Lib.hid hk
    have hH := Lib.hid (show ∀ j, hdN cs lim l (j + 1) = hdN cs lim l j + (if nbS cs lim l j then 1 else 0) from fun j => hdN_succ cs lim l j)
    have hR3' := Lib.hid hR3
    clear hk hc9 hL5 hL6 hL7 hL8 hsq hct hp2' hf2' hlv hR3
    go_wp2_with fail
    go_loopw [20, 21] (fun hv jv wr => ∃ j h : Nat, j ≤ n ∧ h ≤ j ∧ jv = .int .i64 j ∧ hv = .int .i64 h ∧ Hid (h = hdN cs lim l j) ∧ Hid (Below w9.heap.size w9 wr)) (fun _ jv _ => n - (intOf jv).toNat)
    case atStart => exact ⟨0, 0, Nat.zero_le _, Nat.le_refl _, rfl, rfl, Lib.hid rfl, Lib.hid (Below.refl _ _)⟩
    case round =>
      obtain ⟨j, h, hj, hhj, rfl, rfl, hh, hbw⟩ := hrel
      by_cases hjn : j < n
      · have hstep := Lib.hid (hH.out j)
        rw [← hh.out] at hstep
        go_wp2_with fail
        go_loopw [22, 23] (fun bv rv wr => ∃ (r : Nat) (b : Bool), r ≤ k ∧ rv = .int .i64 r ∧ bv = .bool b ∧ Hid (b = nbS cs lim (l.take r) j) ∧ Hid (Below w9.heap.size w9 wr)) (fun _ rv _ => k - (intOf rv).toNat)
        case atStart => exact ⟨0, false, Nat.zero_le _, rfl, rfl, Lib.hid rfl, hbw⟩
        case round =>
          clear hbw
          obtain ⟨r, b, hr, rfl, rfl, hb, hbw⟩ := hrel
          by_cases hrk : r < k
          · have hrl : r < l.length := by rw [← hk'.out]; exact hrk
            obtain ⟨g5, o5, e5, hg5, hc5⟩ := hL9.out.at ((natI_len l).trans hk'.out.symm) hrk
            injection e5 with e5
            injection e5 with e5a e5b
            subst e5a e5b
            have cc := (hbw.out.cell (p := ⟨gl, 0 + r, none⟩) hg5).trans (hc5 r hrk)
            rw [natI_at l r hrl, Nat.zero_add] at cc
            have hx := hris.out.1 r hrl
            have hnb := Lib.hid (nbS_take (cs := cs) (lim := (lim : Int)) (j := j) hrl)
            rw [← hb.out] at hnb
            obtain ⟨x, hxq⟩ : ∃ x, x = l.getD r 0 := ⟨_, rfl⟩
            rw [← hxq] at cc hx hnb
            have hxq' := hxq
            obtain ⟨g1, o1, rfl, hg1, g2, o2, rc, c1, hg2, hc2⟩ := hsq9.out.at hx
            have cc1 := (hbw.out.cell (p := ⟨g1, o1 + x, none⟩) hg1).trans c1
            have cc2 := (hbw.out.cell (p := ⟨g2, o2 + j, none⟩) hg2).trans (hc2 j hjn)
            have hx0 : decide ((x : Int) < 0) = false := decide_eq_false (by omega)
            have hxn : decide (n ≤ x) = false := decide_eq_false (by omega)
            obtain ⟨y, hyq⟩ : ∃ y, y = costAt cs x j := ⟨_, rfl⟩
            rw [← hyq] at cc2 hnb
            clear hyq hc5 c1 hc2 hxq hb
            have hbw1 := Lib.hid (fun q => below_drewN hbw.out q)
            by_cases hr0 : r = 0
            · subst hr0
              clear hxq'
              have hk0 : (0 : Int) < (k : Int) := by omega
              cases b with
              | true =>
                have hnb2 := Lib.hid (show true = nbS cs lim (l.take (0 + 1)) j by rw [hnb.out]; rfl)
                go_wp2_with fail
                go_quiet (fail)
                go_wp2_with fail
                go_roundw
                case rel => exact ⟨0 + 1, true, by omega, by go_num, rfl, hnb2, Lib.hid (hbw1.out _)⟩
                case measure => simp [intOf]; omega
              | false =>
                have hnb2 := Lib.hid (show decide (y ≤ (lim : Int)) = nbS cs lim (l.take (0 + 1)) j by rw [hnb.out]; rfl)
                go_wp2_with fail
                go_quiet (fail)
                go_wp2_with fail
                go_roundw
                case rel => exact ⟨0 + 1, _, by omega, by go_num, rfl, hnb2, Lib.hid (hbw1.out _)⟩
                case measure => simp [intOf]; omega
            · obtain ⟨q, hq⟩ : ∃ q, q + 1 = r := ⟨r - 1, by omega⟩
              have hql : q < l.length := by omega
              have hz := hris.out.2 r (by omega) hrl
              obtain ⟨g6, o6, e6, hg6, hc6⟩ := hL9.out.at ((natI_len l).trans hk'.out.symm) (show q < k by omega)
              injection e6 with e6
              injection e6 with e6a e6b
              subst e6a e6b
              have c6 := (hbw.out.cell (p := ⟨gl, 0 + q, none⟩) hg5).trans (hc6 q (by omega))
              rw [natI_at l q hql, Nat.zero_add] at c6
              rw [show r - 1 = q by omega, ← hxq'] at hz
              obtain ⟨z, hzq⟩ : ∃ z, z = l.getD q 0 := ⟨_, rfl⟩
              rw [← hzq] at c6 hz
              have hsub : (r : Int) - 1 = (q : Int) := by omega
              have hqk : q < k := by omega
              have hr1 : 0 < r := by omega
              have hr2 : decide ((0 : Int) < (r : Int)) = true := decide_eq_true (by omega)
              have hxz : decide (x ≤ z) = false := decide_eq_false (by omega)
              clear hzq hc6 hr0 hq hz hxq'
              cases b with
              | true =>
                have hnb2 := Lib.hid (show true = nbS cs lim (l.take (r + 1)) j by rw [hnb.out]; rfl)
                go_wp2_with fail
                go_quiet (fail)
                go_wp2_with fail
                go_roundw
                case rel => exact ⟨r + 1, true, by omega, by go_num, rfl, hnb2, Lib.hid (hbw1.out _)⟩
                case measure => simp [intOf]; omega
              | false =>
                have hnb2 := Lib.hid (show decide (y ≤ (lim : Int)) = nbS cs lim (l.take (r + 1)) j by rw [hnb.out]; rfl)
                go_wp2_with fail
                go_quiet (fail)
                go_wp2_with fail
                go_roundw
                case rel => exact ⟨r + 1, _, by omega, by go_num, rfl, hnb2, Lib.hid (hbw1.out _)⟩
                case measure => simp [intOf]; omega
          · have hall := Lib.hid (show b = nbS cs lim l j by rw [hb.out, List.take_of_length_le (by rw [← hk'.out]; omega)])
            obtain rfl : k = r := by omega
            cases b with
            | true =>
              have hst2 := Lib.hid (show h + 1 = hdN cs lim l (j + 1) by rw [hstep.out, ← hall.out]; rfl)
              go_wp2_with fail
              go_roundw
              case rel => exact ⟨j + 1, h + 1, by omega, by omega, by go_num, by go_num, hst2, hbw⟩
              case measure => simp [intOf]; omega
            | false =>
              have hst2 := Lib.hid (show h = hdN cs lim l (j + 1) by rw [hstep.out, ← hall.out]; rfl)
              go_wp2_with fail
              go_roundw
              case rel => exact ⟨j + 1, h, by omega, by omega, by go_num, rfl, hst2, hbw⟩
              case measure => simp [intOf]; omega
      · obtain rfl : n = j := by omega
        have hfin : h + 1 = k := by rw [hh.out]; exact hR3'.out
        have hk1 : (k : Int) - 1 = (h : Int) := by omega
        go_wp2_with fail
        go_ret
        exact ⟨rfl, below_call hb9'.out hbw.out⟩
end Go.Proofs.Ytfobdlllghpelaa
