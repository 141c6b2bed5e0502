import Derived.Test.YtfobdlllghpelaaXe
import Derived.Test.YtfobdlllghpelaaZs
namespace Go.Proofs.Ytfobdlllghpelaa
open Go.RowKit Go.Shelf Pair
attribute [local go_sem] Oper.semAt_some

/-- No prices have a greater sum than a pairing costs. -/
theorem no_greater {cs : List (List Int)} {n : Nat} {p : List Nat} {U V : List Int} {s : Int} (hc : PermL n p) (hs : sumM cs 0 p < s) : pvB cs n U V s = false := by
  rw [Bool.eq_false_iff]
  intro h
  unfold pvB at h
  simp only [Bool.and_eq_true, decide_eq_true_eq] at h
  obtain ⟨h1, h2⟩ := h
  have hp : Perm n p := ⟨hc.1, hc.2.2, hc.2.1⟩
  have h3 := prices_bound hp (u := fun i => U.getD i 0) (v := fun j => V.getD j 0) (c := fun i j => costAt cs i j) (fun i j hi hj => by
    unfold allPr rowPr at h1
    simp only [List.all_eq_true, List.mem_range', decide_eq_true_eq] at h1
    have := h1 i ⟨i, hi, by omega⟩ j ⟨j, hj, by omega⟩
    exact this)
  rw [← total_add, ← totPr_total] at h3
  rw [sumM_total, hc.1] at hs
  simp only [Nat.zero_add] at hs
  omega
/-- A row of one's own of `n` numbers within a bound. -/
def Own14 (w : World) (B n : Nat) (v : Value) (b : Int) : Prop := ∃ xs : List Int, Ints w B v xs ∧ xs.length = n ∧ ∀ i, -b ≤ xs.getD i 0 ∧ xs.getD i 0 ≤ b
theorem own14_parts {w : World} {B n : Nat} {v : Value} {b : Int} (h : Own14 w B n v b) (hn : 1 ≤ n) : ∃ g cap, v = .slice (some ⟨g, 0, none⟩) n cap ∧ B ≤ g ∧ g < w.heap.size ∧ ∃ xs : List Int, xs.length = n ∧ (∀ i, -b ≤ xs.getD i 0 ∧ xs.getD i 0 ≤ b) ∧ Reads w v xs ∧ (∀ j, j < n → w.cell? ⟨g, j, none⟩ = some (.int .i64 (xs.getD j 0))) ∧ (∀ j, w.frozen? ⟨g, j, none⟩ = false) ∧
    ∀ j y, -(b + 128) ≤ y ∧ y ≤ b + 128 → 0 ≤ b → Own14 (w.setCell ⟨g, j, none⟩ (.int .i64 y)) B n v (b + 128) := by
  obtain ⟨xs, h1, h2, h3⟩ := h
  obtain ⟨g, cap, rfl, q1, q2, q3, q4, q5⟩ := ints_parts h1 (by intro e; rw [e] at h2; simp at h2; omega)
  refine ⟨g, cap, by rw [h2], q1, q2, xs, h2, h3, h1.shape, fun j hj => q3 j (by omega), q4, fun j y hy hb => ⟨xs.set j y, q5 j y, by rw [List.length_set]; exact h2, fun i => ?_⟩⟩
  rw [List.getD_eq_getElem?_getD, List.getElem?_set]
  by_cases e : j = i
  · rw [if_pos e]
    split
    · exact hy
    · simp; omega
  · rw [if_neg e, ← List.getD_eq_getElem?_getD]
    have := h3 i
    omega
theorem Own14.other {w : World} {B n g i : Nat} {v u : Value} {b : Int} (h : Own14 w B n v b) (hg : v.ownBlock ≠ some g) (_ : 0 ≤ b) : Own14 (w.setCell ⟨g, i, none⟩ u) B n v (b + 128) := by
  obtain ⟨xs, h1, h2, h3⟩ := h
  exact ⟨xs, own_set_other h1 hg, h2, fun i => by have := h3 i; omega⟩
theorem Own14.below {w w' : World} {B n : Nat} {v : Value} {b : Int} (h : Own14 w B n v b) (hb : Below w.heap.size w w') : Own14 w' B n v b := by
  obtain ⟨xs, h1, h2, h3⟩ := h
  exact ⟨xs, h1.below hb, h2, h3⟩

set_option maxHeartbeats 4000000 in
set_option maxRecDepth 100000 in
theorem walk14 {w : World} {v u : Value} {xs : List Nat} {ds : List Int} {n0 : Int} (hn0 : (Lit.int .u8 n0).wf = true) (hx : InNats .u16 65535 w v xs) (hu : InI8 w u ds) :
    Calls Try.prog 14 #[.int .u8 n0, v, u] w fun e w' => e = .returned (.bool true) ∧ Below w.heap.size w w' := by
  obtain ⟨a, rfl, ha⟩ := wf8 hn0
  have hmd := Lib.hid (made45 hx a 8 50 ha (by omega) (by omega) (by omega))
  obtain ⟨n, hn⟩ : ∃ n, n = sizeM a 8 := ⟨_, rfl⟩
  have hn1 : 1 ≤ n := by rw [hn]; exact size_one a 8
  have hn8 : n ≤ 8 := by rw [hn]; exact size_le a 8 (by omega)
  have hgd := made_good (xs := xs) (m := 50) hn1 hn8 (by omega)
  have hvd := made_valid (xs := xs) (m := 50) hn1 hn8 (by omega)
  have hcst := Lib.hid (fun (w : World) (B : Nat) (v : Value) (h : OwnG w B v (madeC xs 50 n n)) => made_cst (m := 50) hn8 h)
  rw [← hn] at hmd
  obtain ⟨cs, hcs⟩ : ∃ cs, cs = madeC xs 50 n n := ⟨_, rfl⟩
  rw [← hcs] at hmd hgd hvd hcst
  clear hn hcs
  have hlen := hgd.len
  obtain ⟨x, hx1, hx2, hx3, hx4⟩ := cheap_first (cs := cs) hn8
  have hch := cheap_of hx2 hx4
  have hxp := hch.1
  have hk1 := Lib.hid (fun (w : World) (v : Value) (h : Cst w v cs) => cheapest28 h hvd hgd x hx1)
  rw [← hx3] at hk1
  have hk2 := Lib.hid (fun (w : World) (v : Value) (h : Cst w v cs) => prices32 h hvd hgd hx1 hch)
  have hpr := Lib.hid (fun (w : World) (u : Value) (hu : Reads w u (natI x)) => (show Calls Try.prog 44 #[u, .int .i64 n] w fun e w' => e = .returned (.bool true) ∧ Below w.heap.size w w' by
    have := refPairing44 hu (by rw [natI_len, hxp.1]; omega) n (by omega)
    rwa [pairB_of hxp.1 hxp.2.1 hxp.2.2] at this))
  have hsm := Lib.hid (fun (w : World) (v u : Value) (h : Cst w v cs) (hu : Reads w u (natI x)) => sum47 (h.sq hgd) hgd hu hxp.1 hxp.2.2)
  have hSb : 0 ≤ sumM cs 0 x ∧ sumM cs 0 x ≤ 8000 := by
    rw [hx3]
    have := optI_bd hgd.bd n (2 ^ n - 1) (Nat.le_refl _)
    omega
  have hpv := Lib.hid (fun (w : World) (v a b : Value) (R L : List Int) (s : Int) (h : Cst w v cs) (ha : Reads w a R) (hb : Reads w b L) (h1 : R.length ≤ 1000) (h2 : L.length ≤ 1000) => proves36 h hvd hgd ha hb h1 h2 s)
  have hng := Lib.hid (fun (R L : List Int) => no_greater (cs := cs) (U := R) (V := L) (s := sumM cs 0 x + 1) hxp (by omega))
  obtain ⟨S, hS⟩ : ∃ S, S = sumM cs 0 x := ⟨_, rfl⟩
  rw [← hS] at hk1 hk2 hsm hSb hng
  have hxl := Lib.hid (show (natI x).length = n by rw [natI_len, hxp.1])
  have hlv := Lib.hid (fun (w : World) => lives22 (w := w))
  obtain ⟨⟨xo, xc, rfl, _⟩, -⟩ := hx
  obtain ⟨⟨uo, uc, rfl, huc, hum, hu1⟩, hu2⟩ := hu
  obtain ⟨dl, hdl⟩ : ∃ dl, dl = ds.length := ⟨_, rfl⟩
  rw [← hdl] at huc hum ⊢
  unfold maxLen at hum
  have hdl' := Lib.hid hdl
  have hu1' := Lib.hid hu1
  have hu2' := Lib.hid hu2
  have hlen' := Lib.hid hlen
  have h2n : (2 : Int) * (n : Int) ≤ 16 := by omega
  clear hgd hvd hn0 hx1 hx2 hx3 hx4 hch hxp hS hdl hu1 hu2 hlen
  go_enter Try.func14, Try.ntmps14
  go_wp2_with fail
  refine (hmd.out).mono ?_
  rintro e w1 ⟨v1, rfl, hv1, hb1⟩
  have hc1 := Lib.hid (hcst.out _ _ _ hv1)
  have hb1' := Lib.hid hb1
  have hvl := (hcst.out _ _ _ hv1).reads
  obtain ⟨vo, vc, hve, _⟩ := hvl
  rw [hlen'.out] at hve
  subst hve
  clear hv1 hb1 hmd
  go_wp2_with fail
  refine (hk1.out _ _ hc1.out).mono ?_
  rintro e w2 ⟨⟨g2, rfl, hrow2⟩, hb2⟩
  have hp2 := Lib.hid hrow2.reads
  have hc2 := Lib.hid (hc1.out.below hb2)
  have hb2' := Lib.hid (below_call hb1'.out hb2)
  clear hb2 hc1 hb1' hrow2 hk1
  go_wp2_with fail
  refine (hk2.out _ _ hc2.out).mono ?_
  rintro e w3 ⟨gU, gV, U, V, rfl, hU, hV, p1, p2, p3, p4, hb3⟩
  have hU3 := Lib.hid hU.reads
  have hV3 := Lib.hid hV.reads
  have hp3 := Lib.hid (hp2.out.below hb3)
  have hc3 := Lib.hid (hc2.out.below hb3)
  have hb3' := Lib.hid (below_call hb2'.out hb3)
  have hUl := Lib.hid (prB_at p1)
  have hVl := Lib.hid (prB_at p2)
  have hp1 := Lib.hid (And.intro p1 (And.intro p2 (And.intro p3 p4)))
  clear hb3 hc2 hb2' hU hV p1 p2 p3 p4 hp2 hk2
  have hq := Lib.hid (hpr.out w3 _ hp3.out)
  go_wp2_with fail
  refine (hq.out).mono ?_
  rintro e w4 ⟨rfl, hb4⟩
  have hU4 := Lib.hid (hU3.out.below hb4)
  have hV4 := Lib.hid (hV3.out.below hb4)
  have hp4 := Lib.hid (hp3.out.below hb4)
  have hc4 := Lib.hid (hc3.out.below hb4)
  have hb4' := Lib.hid (below_call hb3'.out hb4)
  clear hb4 hc3 hb3' hU3 hV3 hp3 hq
  have hq := Lib.hid (hsm.out w4 _ _ hc4.out hp4.out)
  go_wp2_with fail
  refine (hq.out).mono ?_
  rintro e w5 ⟨rfl, hb5⟩
  have hU5 := Lib.hid (hU4.out.below hb5)
  have hV5 := Lib.hid (hV4.out.below hb5)
  have hc5 := Lib.hid (hc4.out.below hb5)
  have hb5' := Lib.hid (below_call hb4'.out hb5)
  clear hb5 hc4 hb4' hU4 hV4 hp4 hq hsm hpr
  go_wp2_with fail
  refine (hlv.out _).mono ?_
  rintro e w6 ⟨rfl, hb6⟩
  have hU6 := Lib.hid (hU5.out.below hb6)
  have hV6 := Lib.hid (hV5.out.below hb6)
  have hc6 := Lib.hid (hc5.out.below hb6)
  have hb6' := Lib.hid (below_call hb5'.out hb6)
  clear hb6 hc5 hb5' hU5 hV5
  have hq1 := Lib.hid (show Calls Try.prog 36 #[.slice vo n vc, .slice (some ⟨gU, 0, none⟩) n n, .slice (some ⟨gV, 0, none⟩) n n, .int .i64 S] w6 fun e w' => e = .returned (.tuple #[.bool true, .int .i64 0]) ∧ w6 = w' by
    have := hpv.out w6 _ _ _ U V S hc6.out hU6.out hV6.out (by rw [hUl.out.1]; omega) (by rw [hVl.out.1]; omega)
    have hp : pvB cs n U V S = true := by unfold pvB; rw [hp1.out.2.2.1, hp1.out.2.2.2]; simp
    rw [hp1.out.1, hp1.out.2.1, hp] at this
    exact this)
  have hq2 := Lib.hid (show Calls Try.prog 36 #[.slice vo n vc, .slice (some ⟨gU, 0, none⟩) n n, .slice (some ⟨gV, 0, none⟩) n n, .int .i64 (S + 1)] w6 fun e w' => e = .returned (.tuple #[.bool false, .int .i64 0]) ∧ w6 = w' by
    have := hpv.out w6 _ _ _ U V (S + 1) hc6.out hU6.out hV6.out (by rw [hUl.out.1]; omega) (by rw [hVl.out.1]; omega)
    rw [hp1.out.1, hp1.out.2.1, hng.out U V] at this
    exact this)
  go_wp2_with fail
  refine (hq1.out).mono ?_
  rintro e w7 ⟨rfl, rfl⟩
  go_wp2_with fail
  refine (hq2.out).mono ?_
  rintro e w7 ⟨rfl, rfl⟩
  clear hq1 hq2
  have hlit := Lib.hid (Ints.lit w6 w6.heap.size (Nat.le_refl _))
  have hUx := Lib.hid (hU6.out.below (below_alloc1 w6 (.cells #[] 3)))
  have hUn := Lib.hid hUl.out.1
  have hVn := Lib.hid hVl.out.1
  have hb67 := Lib.hid (below_alloc1 w6 (.cells #[] 3))
  go_wp2_with (first
    | (at_builtin; refine app_ints hlit.out hUx.out (.inr ⟨_, _, _, rfl⟩) (by rw [hUn.out]; simp; omega) (by simp) rfl _ _ rfl rfl rfl ?_; intro vR w8 hR hbR; have hR' := Lib.hid hR; have hbR' := Lib.hid (hb67.out.trans hbR); have hlit2 := Lib.hid (Ints.lit w8 w8.heap.size (Nat.le_refl _)); have hVx := Lib.hid ((hV6.out.below hbR'.out).below (below_alloc1 w8 (.cells #[] 3))); have hb89 := Lib.hid (below_alloc1 w8 (.cells #[] 3)); clear hR hbR)
    | (at_builtin; refine app_ints hlit2.out hVx.out (.inr ⟨_, _, _, rfl⟩) (by rw [hVn.out]; simp; omega) (by simp) rfl _ _ rfl rfl rfl ?_; intro vC w9 hC hbC))
  have hbC' := Lib.hid (hb89.out.trans hbC)
  have hRo := Lib.hid (show Own14 w9 w6.heap.size n vR 1000000000 from ⟨U, by have := hR'.out.below hbC'.out; rwa [List.nil_append] at this, hUn.out, fun i => by
    by_cases hi : i < n
    · exact hUl.out.2 i hi
    · rw [List.getD_eq_getElem?_getD, List.getElem?_eq_none (by rw [hUn.out]; omega)]; simp⟩)
  have hCo := Lib.hid (show Own14 w9 w8.heap.size n vC 1000000000 from ⟨V, by have := hC; rwa [List.nil_append] at this, hVn.out, fun i => by
    by_cases hi : i < n
    · exact hVl.out.2 i hi
    · rw [List.getD_eq_getElem?_getD, List.getElem?_eq_none (by rw [hVn.out]; omega)]; simp⟩)
  obtain ⟨gR, cR, rfl, r1, r2, _⟩ := own14_parts hRo.out hn1
  obtain ⟨gC, cC, rfl, c1, c2, _⟩ := own14_parts hCo.out hn1
  have hRlt : gR < w8.heap.size := (World.ownsRow.lt hR'.out gR rfl).2
  have hne : gR ≠ gC := by omega
  have hne2 : gC ≠ gR := Ne.symm hne
  have hs8 := hbR'.out.size
  have hCo' := Lib.hid (show Own14 w9 w6.heap.size n (.slice (some ⟨gC, 0, none⟩) n cC) 1000000000 from by
    obtain ⟨xs, q1, q2, q3⟩ := hCo.out
    exact ⟨xs, q1.base hs8, q2, q3⟩)
  have hb69 := Lib.hid (below_call hbR'.out hbC'.out)
  clear hC hbC hlit hlit2 hUx hVx hR' hRlt r1 r2 c1 c2 hs8 hCo hU6 hV6
  go_wp2_with fail
  go_loopw [20] (fun iv wr => ∃ i : Nat, i ≤ 2 * n ∧ i ≤ dl ∧ iv = .int .i64 i ∧ Hid (Own14 wr w6.heap.size n (.slice (some ⟨gR, 0, none⟩) n cR) (1000000000 + 128 * (i : Int))) ∧ Hid (Own14 wr w6.heap.size n (.slice (some ⟨gC, 0, none⟩) n cC) (1000000000 + 128 * (i : Int))) ∧ Hid (Below w6.heap.size w6 wr)) (fun iv _ => 16 - (intOf iv).toNat)
  case atStart => exact ⟨0, Nat.zero_le _, Nat.zero_le _, rfl, hRo, hCo', hb69⟩
  case round =>
    obtain ⟨i, hi2, hid, rfl, hR, hC, hbw⟩ := hrel
    clear hRo hCo' hb69
    have hend := Lib.hid (show ∃ b : Bool, Calls Try.prog 36 #[.slice vo n vc, .slice (some ⟨gR, 0, none⟩) n cR, .slice (some ⟨gC, 0, none⟩) n cC, .int .i64 (S + 1)] wr fun e w' => e = .returned (.tuple #[.bool false, .int .i64 (if b then 0 else 2)]) ∧ wr = w' from by
      obtain ⟨_, _, e1, _, _, R, hRl, _, hRr, _⟩ := own14_parts hR.out hn1
      obtain ⟨_, _, e2, _, _, L, hLl, _, hLr, _⟩ := own14_parts hC.out hn1
      refine ⟨prB n R && prB n L, ?_⟩
      have := hpv.out wr _ _ _ R L (S + 1) (hc6.out.below hbw.out) hRr hLr (by omega) (by omega)
      rw [hng.out R L, Bool.and_false] at this
      exact this)
    by_cases hgo : i < dl ∧ i < 2 * n
    · obtain ⟨hg1, hg2⟩ := hgo
      have hg2' : (i : Int) < 2 * (n : Int) := by omega
      have hdi : i < ds.length := by rw [← hdl'.out]; exact hg1
      obtain ⟨gu, ou, rfl, hgu, hcu⟩ := hu1'.out (fun e => by rw [e] at hdi; simp at hdi)
      have cd := ((below_call hb6'.out hbw.out).cell (p := ⟨gu, ou + i, none⟩) hgu).trans (hcu i hdi)
      have hdb := hu2'.out i
      obtain ⟨d, hdq⟩ : ∃ d, d = ds.getD i 0 := ⟨_, rfl⟩
      rw [← hdq] at cd hdb
      clear hcu hdq hend
      by_cases hin : i < n
      · obtain ⟨gx, cx, e1, gB, _, R, hRl, hRb, _, hRc, hRf, hRs⟩ := own14_parts hR.out hn1
        obtain ⟨rfl, rfl⟩ : gR = gx ∧ cR = cx := by cases e1; exact ⟨rfl, rfl⟩
        have cr := hRc i hin
        have fr := hRf i
        have hrb := hRb i
        obtain ⟨y, hyq⟩ : ∃ y, y = R.getD i 0 := ⟨_, rfl⟩
        rw [← hyq] at cr hrb
        have hsum : IntKind.i64.wrap (y + d) = y + d := IntWalk.i64_in _ (by omega)
        have hR2 := Lib.hid (show Own14 (wr.setCell ⟨gR, i, none⟩ (.int .i64 (y + d))).drew w6.heap.size n (.slice (some ⟨gR, 0, none⟩) n cR) (1000000000 + 128 * ((i + 1 : Nat) : Int)) from by
          have := hRs i (y + d) (by omega) (by omega)
          rw [show (1000000000 : Int) + 128 * ((i + 1 : Nat) : Int) = 1000000000 + 128 * (i : Int) + 128 by omega]
          exact this.below (Below.refl _ _).drew)
        have hC2 := Lib.hid (show Own14 (wr.setCell ⟨gR, i, none⟩ (.int .i64 (y + d))).drew w6.heap.size n (.slice (some ⟨gC, 0, none⟩) n cC) (1000000000 + 128 * ((i + 1 : Nat) : Int)) from by
          have := hC.out.other (g := gR) (i := i) (u := .int .i64 (y + d)) (by intro e; simp [Value.ownBlock] at e; exact hne2 e) (by omega)
          rw [show (1000000000 : Int) + 128 * ((i + 1 : Nat) : Int) = 1000000000 + 128 * (i : Int) + 128 by omega]
          exact this.below (Below.refl _ _).drew)
        have hb2 := Lib.hid ((below_set (k := i) (u := .int .i64 (y + d)) hbw.out gB).drew)
        clear hRc hRf hRs hRb hRl hyq hR hC
        go_wp2_with fail
        refine wp_region_still_tail 11 (by kernel_rfl) (by kernel_rfl) ?_
        simp only [List.take_succ_cons, List.take_zero, List.drop_succ_cons, List.drop_zero]
        iterate 11 still_step
        refine wpStill_nil ?_
        go_wp2_with fail
        go_roundw
        case rel => exact ⟨i + 1, by omega, by omega, by go_num, hR2, hC2, hb2⟩
        case measure => simp [intOf]; omega
      · obtain ⟨j, hj⟩ : ∃ j, j = i - n := ⟨_, rfl⟩
        have hjn : j < n := by omega
        have hsub : (i : Int) - (n : Int) = (j : Int) := by omega
        have hwj : IntKind.i64.wrap (j : Int) = (j : Int) := IntWalk.i64_in _ (by omega)
        obtain ⟨gx, cx, e1, gB, _, R, hRl, hRb, _, hRc, hRf, hRs⟩ := own14_parts hC.out hn1
        obtain ⟨rfl, rfl⟩ : gC = gx ∧ cC = cx := by cases e1; exact ⟨rfl, rfl⟩
        have cr := hRc j hjn
        have fr := hRf j
        have hrb := hRb j
        obtain ⟨y, hyq⟩ : ∃ y, y = R.getD j 0 := ⟨_, rfl⟩
        rw [← hyq] at cr hrb
        have hsum : IntKind.i64.wrap (y + d) = y + d := IntWalk.i64_in _ (by omega)
        have hC2 := Lib.hid (show Own14 (wr.setCell ⟨gC, j, none⟩ (.int .i64 (y + d))).drew w6.heap.size n (.slice (some ⟨gC, 0, none⟩) n cC) (1000000000 + 128 * ((i + 1 : Nat) : Int)) from by
          have := hRs j (y + d) (by omega) (by omega)
          rw [show (1000000000 : Int) + 128 * ((i + 1 : Nat) : Int) = 1000000000 + 128 * (i : Int) + 128 by omega]
          exact this.below (Below.refl _ _).drew)
        have hR2 := Lib.hid (show Own14 (wr.setCell ⟨gC, j, none⟩ (.int .i64 (y + d))).drew w6.heap.size n (.slice (some ⟨gR, 0, none⟩) n cR) (1000000000 + 128 * ((i + 1 : Nat) : Int)) from by
          have := hR.out.other (g := gC) (i := j) (u := .int .i64 (y + d)) (by intro e; simp [Value.ownBlock] at e; exact hne e) (by omega)
          rw [show (1000000000 : Int) + 128 * ((i + 1 : Nat) : Int) = 1000000000 + 128 * (i : Int) + 128 by omega]
          exact this.below (Below.refl _ _).drew)
        have hb2 := Lib.hid ((below_set (k := j) (u := .int .i64 (y + d)) hbw.out gB).drew)
        clear hRc hRf hRs hRb hRl hyq hR hC hj
        go_wp2_with fail
        refine wp_region_still_tail 14 (by kernel_rfl) (by kernel_rfl) ?_
        simp only [List.take_succ_cons, List.take_zero, List.drop_succ_cons, List.drop_zero]
        iterate 14 still_step
        refine wpStill_nil ?_
        go_wp2_with fail
        go_roundw
        case rel => exact ⟨i + 1, by omega, by omega, by go_num, hR2, hC2, hb2⟩
        case measure => simp [intOf]; omega
    · obtain ⟨b, hq⟩ := hend.out
      have hq' := Lib.hid hq
      have hbe := Lib.hid (below_call hb6'.out hbw.out)
      clear hq hend hR hC
      by_cases hg1 : i < dl
      · have hg2 : (2 : Int) * (n : Int) ≤ (i : Int) := by omega
        cases b
        all_goals
          go_wp2_with fail
          refine (hq'.out).mono ?_
          rintro e w12 ⟨rfl, rfl⟩
          simp only [Bool.false_eq_true, if_false, if_true]
          go_wp2_with fail
          go_ret
          exact ⟨rfl, hbe.out⟩
      · have hg2 : (dl : Int) ≤ (i : Int) := by omega
        cases b
        all_goals
          go_wp2_with fail
          refine (hq'.out).mono ?_
          rintro e w12 ⟨rfl, rfl⟩
          simp only [Bool.false_eq_true, if_false, if_true]
          go_wp2_with fail
          go_ret
          exact ⟨rfl, hbe.out⟩
end Go.Proofs.Ytfobdlllghpelaa
