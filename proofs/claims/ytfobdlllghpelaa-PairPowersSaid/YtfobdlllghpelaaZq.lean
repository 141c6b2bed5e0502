import Derived.Test.YtfobdlllghpelaaZp
import Derived.Test.YtfobdlllghpelaaZo
namespace Go.Proofs.Ytfobdlllghpelaa
open Go.RowKit Go.Shelf Pair
attribute [local go_sem] Oper.semAt_some

def RankRes (w : World) (o : Option Nat) (e : Ending) (w' : World) : Prop := e = .returned (.tuple #[.int .i64 ((o.getD 0 : Nat) : Int), .int .i64 (if o.isSome then 0 else 5)]) ∧ Below w.heap.size w w'

set_option maxHeartbeats 2000000 in
set_option maxRecDepth 100000 in
theorem rank43_bad {w : World} {v u : Value} {cs : List (List Int)} (h : Cst w v cs) (hb : validC cs = false) (lim : Int) :
    Calls Try.prog 43 #[v, .int .i64 lim, u] w fun e w' => e = .returned (.tuple #[.int .i64 0, .int .i64 1]) ∧ Below w.heap.size w w' := by
  have hv := Lib.hid (valid48' h)
  rw [hb] at hv
  clear h
  go_enter Try.func43, Try.ntmps43
  go_wp2_with fail
  refine (hv.out).mono ?_
  rintro e w1 ⟨rfl, rfl⟩
  go_wp2_with fail
  go_ret2
  exact ⟨rfl, Below.refl _ _⟩

set_option maxHeartbeats 2000000 in
set_option maxRecDepth 100000 in
theorem rank43_no {w : World} {v u : Value} {cs : List (List Int)} {n : Nat} {xs : List Int} (h : Cst w v cs) (hb : validC cs = true) (hg : Good cs n) (lim : Int) (hu : Reads w u xs) (hl : xs.length ≤ 1000) (hp : pairB n xs = false) :
    Calls Try.prog 43 #[v, .int .i64 lim, u] w fun e w' => e = .returned (.tuple #[.int .i64 0, .int .i64 2]) ∧ Below w.heap.size w w' := by
  have hv := Lib.hid (valid48' h)
  rw [hb] at hv
  have hi := Lib.hid (isPairing73 hu hl hg.eight)
  rw [hp] at hi
  obtain ⟨ao, c, rfl⟩ := (h.sq hg).val
  clear h hg hu hp
  go_enter Try.func43, Try.ntmps43
  go_wp2_with fail
  refine (hv.out).mono ?_
  rintro e w1 ⟨rfl, rfl⟩
  go_wp2_with fail
  refine (hi.out).mono ?_
  rintro e w1 ⟨rfl, rfl⟩
  go_wp2_with fail
  go_ret2
  exact ⟨rfl, Below.refl _ _⟩

set_option maxHeartbeats 2000000 in
set_option maxRecDepth 100000 in
theorem rank43 {w : World} {v u : Value} {cs : List (List Int)} {n : Nat} {l : List Nat} (h : Cst w v cs) (hb : validC cs = true) (hg : Good cs n) (lim : Int) (hu : Reads w u (natI l)) (hl : l.length = n) (hd : l.Nodup) (hm : ∀ a ∈ l, a < n) :
    Calls Try.prog 43 #[v, .int .i64 lim, u] w (RankRes w (rkM (okM cs 0 lim) n n (2 ^ n - 1) l)) := by
  have hv := Lib.hid (valid48' h)
  rw [hb] at hv
  have hn8 := hg.eight
  have hi := Lib.hid (isPairing73 hu (by rw [natI_len, hl]; omega) hg.eight)
  rw [pairB_of hl hd hm] at hi
  obtain ⟨N, hN⟩ : ∃ N, N = 2 ^ n := ⟨_, rfl⟩
  have hnl := Lib.hid (newListing70' (h.sq hg) hg.one hg.eight hN 0 lim)
  have hrk := Lib.hid (fun (W : World) (gA gC : Nat) (hA : SRow W w.heap.size gA n (alwL cs 0 lim n)) (hC : Row W w.heap.size gC N (cwT (okM cs 0 lim) n N)) (hW : Below w.heap.size w W) => rank74 hA hC hN hg.one hg.eight (hu.below hW) hl hd hm)
  obtain ⟨ao, c, rfl⟩ := (h.sq hg).val
  obtain ⟨o, ho⟩ : ∃ o, o = rkM (okM cs 0 lim) n n (2 ^ n - 1) l := ⟨_, rfl⟩
  rw [← ho] at hrk ⊢
  clear h hg hu hd hm ho hN hl
  cases o with
  | none =>
    go_enter Try.func43, Try.ntmps43
    go_wp2_with fail
    refine (hv.out).mono ?_
    rintro e w1 ⟨rfl, rfl⟩
    go_wp2_with fail
    refine (hi.out).mono ?_
    rintro e w1 ⟨rfl, rfl⟩
    go_wp2_with fail
    refine (hnl.out).mono ?_
    rintro e w2 ⟨gA, gC, rfl, hA, hC, hb1⟩
    have hr := Lib.hid (hrk.out _ _ _ hA hC hb1)
    have hb1' := Lib.hid hb1
    clear hA hC hb1
    go_wp2_with fail
    refine (hr.out).mono ?_
    rintro e w3 ⟨rfl, hb2⟩
    have hb2' := Lib.hid (below_call hb1'.out hb2)
    clear hb2
    go_wp2_with fail
    go_ret2
    exact ⟨rfl, hb2'.out⟩
  | some r =>
    go_enter Try.func43, Try.ntmps43
    go_wp2_with fail
    refine (hv.out).mono ?_
    rintro e w1 ⟨rfl, rfl⟩
    go_wp2_with fail
    refine (hi.out).mono ?_
    rintro e w1 ⟨rfl, rfl⟩
    go_wp2_with fail
    refine (hnl.out).mono ?_
    rintro e w2 ⟨gA, gC, rfl, hA, hC, hb1⟩
    have hr := Lib.hid (hrk.out _ _ _ hA hC hb1)
    have hb1' := Lib.hid hb1
    clear hA hC hb1
    go_wp2_with fail
    refine (hr.out).mono ?_
    rintro e w3 ⟨rfl, hb2⟩
    have hb2' := Lib.hid (below_call hb1'.out hb2)
    clear hb2
    go_wp2_with fail
    go_ret2
    exact ⟨rfl, hb2'.out⟩

theorem natI_inj {a b : List Nat} (h : natI a = natI b) : a = b := by
  unfold natI at h
  exact List.map_inj_right (fun x y e => Int.ofNat.inj e) |>.1 h
theorem same_natI (a b : List Nat) : sameL (natI a) (natI b) = decide (a = b) := by
  unfold sameL
  by_cases e : a = b
  · subst e; simp
  · rw [decide_eq_false e, beq_eq_false_iff_ne]
    exact fun h => e (natI_inj h)
theorem nodup_allP (cs : List (List Int)) (lim : Int) (n : Nat) : ((allP n n []).filter (withinL cs lim)).Nodup :=
  List.nodup_iff_pairwise_ne.2 (((allP_sorted n n []).filter _).imp fun {a b} h (e : a = b) => lexLt_irrefl a (by rw [← e] at h; exact h))
/-- The place of a pairing among the allowed ones. -/
theorem rank_in {cs : List (List Int)} {n : Nat} {lim : Int} {l : List Nat} (hg : Good cs n) (hl : l.length = n) (hd : l.Nodup) (hm : ∀ a ∈ l, a < n) :
    match rkM (okM cs 0 lim) n n (2 ^ n - 1) l with
    | some r => ((allP n n []).filter (withinL cs lim))[r]? = some l
    | none => l ∉ (allP n n []).filter (withinL cs lim) := by
  rw [allowed_sufs hg]
  cases h : rkM (okM cs 0 lim) n n (2 ^ n - 1) l with
  | none => exact rkM_none _ n n _ l hl h
  | some r => exact rkM_some _ n n _ l r hl hd (fun j hj => ⟨hm j hj, by rw [full_bit]; simp [hm j hj]⟩) h

set_option maxHeartbeats 4000000 in
set_option maxRecDepth 100000 in
theorem walk11 {w : World} {v u : Value} {xss : List (List Int)} {ys : List Int} (hg : InRows w v xss) (lim : Int) (hu : InRow w u ys) :
    Calls Try.prog 11 #[v, .int .i64 lim, u] w fun e w' => e = .returned (.bool true) ∧ Below w.heap.size w w' := by
  have hf := Lib.hid (few18 hg)
  have h6 := Lib.hid (few_six (gs := xss))
  obtain ⟨cs, hcs⟩ : ∃ cs, cs = fewOf xss := ⟨_, rfl⟩
  have hcst := Lib.hid (fun (w : World) (B : Nat) (v : Value) (h : OwnG w B v cs) => (show Cst w v cs by rw [hcs] at h ⊢; exact few_cst h))
  rw [← hcs] at hf h6
  have hcut := Lib.hid (fun (W : World) (h : Below w.heap.size w W) => cut35 (hu.below h) 9 (by omega))
  have hX9 : (ys.take 9).length ≤ 1000 := by rw [List.length_take]; omega
  obtain ⟨xs, hxs⟩ : ∃ xs, xs = ys.take 9 := ⟨_, rfl⟩
  rw [← hxs] at hcut hX9
  obtain ⟨go, gc, rfl, _⟩ := hg
  obtain ⟨_, _, uo, uc, rfl, _⟩ := hu
  clear hcs hxs
  have hlv := Lib.hid (fun (w : World) => lives22 (w := w))
  have hc := Lib.hid (fun (w : World) (v : Value) (h : Cst w v cs) => costs21 h)
  obtain ⟨b, hb⟩ : ∃ b, b = validC cs := ⟨_, rfl⟩
  rw [← hb] at hc
  go_enter Try.func11, Try.ntmps11
  go_wp2_with fail
  refine (hf.out).mono ?_
  rintro e w1 ⟨v1, rfl, hv1, hb1⟩
  have hc1 := Lib.hid (hcst.out _ _ _ hv1)
  have hcu := Lib.hid (hcut.out _ hb1)
  have hb1' := Lib.hid hb1
  obtain ⟨vo, vc, rfl, _⟩ := hv1.shape
  clear hv1 hb1
  go_wp2_with fail
  refine (hcu.out).mono ?_
  rintro e w2 ⟨v2, rfl, hv2, hb2⟩
  have hr2 := Lib.hid hv2.shape
  have hc2 := Lib.hid (hc1.out.below hb2)
  have hb2' := Lib.hid (below_call hb1'.out hb2)
  obtain ⟨ro, rc, rfl, _⟩ := hv2.shape
  clear hv2 hb2 hc1 hb1' hcut hcu
  cases b with
  | false =>
    have hk := Lib.hid (fun (w : World) (v u : Value) (h : Cst w v cs) => rank43_bad (u := u) h hb.symm lim)
    clear hb h6
    go_wp2_with fail
    refine (hk.out _ _ _ hc2.out).mono ?_
    rintro e w3 ⟨rfl, hb3⟩
    have hc3 := Lib.hid (hc2.out.below hb3)
    have hb3' := Lib.hid (below_call hb2'.out hb3)
    clear hb3
    go_wp2_with fail
    refine (hc.out _ _ hc3.out).mono ?_
    rintro e w4 ⟨rfl, rfl⟩
    go_wp2_with fail
    refine (hlv.out _).mono ?_
    rintro e w4 ⟨rfl, hb4⟩
    have hb4' := Lib.hid (below_call hb3'.out hb4)
    clear hb4
    go_wp2_with fail
    go_ret
    exact ⟨rfl, hb4'.out⟩
  | true =>
    have hgd := good_of hb.symm
    have hn6 := h6.out hb.symm
    obtain ⟨n, hn⟩ : ∃ n, n = cs.length := ⟨_, rfl⟩
    rw [← hn] at hgd hn6 hc2 ⊢
    have hpr := Lib.hid (fun (w : World) (u : Value) (hu : Reads w u xs) => refPairing44 hu hX9 n (by omega))
    obtain ⟨p, hp⟩ : ∃ p, p = pairB n xs := ⟨_, rfl⟩
    rw [← hp] at hpr
    cases p with
    | false =>
      have hk := Lib.hid (fun (w : World) (v u : Value) (h : Cst w v cs) (hu : Reads w u xs) => rank43_no h hb.symm hgd lim hu hX9 hp.symm)
      clear hb h6 hgd hn hp
      go_wp2_with fail
      refine (hk.out _ _ _ hc2.out hr2.out).mono ?_
      rintro e w3 ⟨rfl, hb3⟩
      have hc3 := Lib.hid (hc2.out.below hb3)
      have hr3 := Lib.hid (hr2.out.below hb3)
      have hb3' := Lib.hid (below_call hb2'.out hb3)
      clear hb3
      go_wp2_with fail
      refine (hc.out _ _ hc3.out).mono ?_
      rintro e w4 ⟨rfl, rfl⟩
      go_wp2_with fail
      refine (hpr.out _ _ hr3.out).mono ?_
      rintro e w4 ⟨rfl, hb4⟩
      have hb4' := Lib.hid (below_call hb3'.out hb4)
      clear hb4
      go_wp2_with fail
      refine (hlv.out _).mono ?_
      rintro e w5 ⟨rfl, hb5⟩
      have hb5' := Lib.hid (below_call hb4'.out hb5)
      clear hb5
      go_wp2_with fail
      go_ret
      exact ⟨rfl, hb5'.out⟩
    | true =>
      obtain ⟨l, rfl, hl, hd, hm⟩ := pair_list hp.symm
      have hk := Lib.hid (fun (w : World) (v u : Value) (h : Cst w v cs) (hu : Reads w u (natI l)) => rank43 h hb.symm hgd lim hu hl hd hm)
      have hal := Lib.hid (fun (w : World) (v : Value) (h : Cst w v cs) => allowed42 h hgd hn6 lim)
      have hri := rank_in (lim := lim) hgd hl hd hm
      have hnd := Lib.hid (nodup_allP cs lim n)
      have hAb : ((allP n n []).filter (withinL cs lim)).length ≤ 46656 := Nat.le_trans (List.length_filter_le _ _) (allP_bd hn6 (Nat.le_refl _) [])
      have hAl := Lib.hid (fun (m : List Nat) (hm : m ∈ (allP n n []).filter (withinL cs lim)) => (all_mem (List.mem_filter.1 hm).1).1)
      obtain ⟨A, hA⟩ : ∃ A, A = (allP n n []).filter (withinL cs lim) := ⟨_, rfl⟩
      rw [← hA] at hal hri hnd hAb hAl
      obtain ⟨o, ho⟩ : ∃ o, o = rkM (okM cs 0 lim) n n (2 ^ n - 1) l := ⟨_, rfl⟩
      rw [← ho] at hk hri
      obtain ⟨N, hN⟩ : ∃ N, N = A.length := ⟨_, rfl⟩
      rw [← hN] at hAb
      have hN' := Lib.hid hN
      have hn8 := hgd.eight
      have hri' := Lib.hid (show (∀ r, o = some r → r < N ∧ ∀ i, i < N → (A.getD i [] = l ↔ i = r)) ∧ (o = none → ∀ i, i < N → A.getD i [] ≠ l) from by
        refine ⟨fun r e => ?_, fun e i hi hc => ?_⟩
        · subst e
          simp only at hri
          obtain ⟨h1, h2⟩ := List.getElem?_eq_some_iff.1 hri
          refine ⟨by omega, fun i hi => ?_⟩
          have hi' : i < A.length := by omega
          rw [List.getD_eq_getElem?_getD, List.getElem?_eq_getElem hi', Option.getD_some, ← h2]
          exact List.getElem_inj hnd.out
        · subst e
          simp only at hri
          have hi' : i < A.length := by omega
          rw [List.getD_eq_getElem?_getD, List.getElem?_eq_getElem hi', Option.getD_some] at hc
          exact hri (hc ▸ List.getElem_mem hi'))
      have hrb : o.getD 0 ≤ 46656 := by
        cases o with
        | none => simp
        | some r => have := (hri'.out.1 r rfl).1; simp; omega
      have hll : (natI l).length = n := by rw [natI_len, hl]
      have hAn := Lib.hid (fun (i : Nat) (hi : i < N) => (show (natI (A.getD i [])).length = n by
        rw [natI_len]
        have hi' : i < A.length := by omega
        rw [List.getD_eq_getElem?_getD, List.getElem?_eq_getElem hi', Option.getD_some]
        exact hAl.out _ (List.getElem_mem hi')))
      rw [hll] at hr2 ⊢
      clear hb h6 hgd hn hp hA ho hl hd hm hri hN hnd hAl hX9
      unfold RankRes at hk
      obtain ⟨rr, hrr⟩ : ∃ rr, rr = o.getD 0 := ⟨_, rfl⟩
      obtain ⟨re, hre⟩ : ∃ re, re = (if o.isSome then (0 : Int) else 5) := ⟨_, rfl⟩
      rw [← hrr] at hk hrb
      rw [← hre] at hk
      have hrr' := Lib.hid hrr
      have hre' := Lib.hid hre
      clear hrr hre
      go_wp2_with fail
      refine (hk.out _ _ _ hc2.out hr2.out).mono ?_
      rintro e w3 ⟨rfl, hb3⟩
      have hc3 := Lib.hid (hc2.out.below hb3)
      have hr3 := Lib.hid (hr2.out.below hb3)
      have hb3' := Lib.hid (below_call hb2'.out hb3)
      clear hb3 hk
      go_wp2_with fail
      refine (hc.out _ _ hc3.out).mono ?_
      rintro e w4 ⟨rfl, rfl⟩
      go_wp2_with fail
      refine (hpr.out _ _ hr3.out).mono ?_
      rintro e w4 ⟨rfl, hb4⟩
      have hc4 := Lib.hid (hc3.out.below hb4)
      have hr4 := Lib.hid (hr3.out.below hb4)
      have hb4' := Lib.hid (below_call hb3'.out hb4)
      clear hb4
      go_wp2_with fail
      refine (hal.out _ _ hc4.out).mono ?_
      rintro e w5 ⟨v5, rfl, hv5, hb5⟩
      have hr5 := Lib.hid (hr4.out.below hb5)
      have hb5' := Lib.hid (below_call hb4'.out hb5)
      have hv5' := Lib.hid hv5.shape
      obtain ⟨ao, ac, rfl, _⟩ := hv5.shape
      rw [List.length_map, ← hN'.out] at hv5' ⊢
      clear hv5 hb5
      go_wp2_with fail
      go_loopw [13] (fun iv wr => ∃ i : Nat, i ≤ N ∧ iv = .int .i64 i ∧ Hid (∀ x, x < i → A.getD x [] ≠ l) ∧ Hid (Below w5.heap.size w5 wr)) (fun iv _ => N - (intOf iv).toNat)
      case atStart => exact ⟨0, Nat.zero_le _, rfl, Lib.hid (fun x h => by omega), Lib.hid (Below.refl _ _)⟩
      case round =>
        obtain ⟨i, hi, rfl, hno, hbw⟩ := hrel
        by_cases hiN : i < N
        · obtain ⟨g, o1, rfl, hg, qo, qc, c1, hq⟩ := hv5'.out.at (by rw [List.length_map]; exact hN'.out.symm) hiN
          rw [show (A.map natI).getD i [] = natI (A.getD i []) by
            have hi' : i < A.length := by rw [← hN'.out]; exact hiN
            simp [List.getD_eq_getElem?_getD, hi']] at c1 hq
          rw [hAn.out i hiN] at c1 hq
          have cc := (hbw.out.cell (p := ⟨g, o1 + i, none⟩) hg).trans c1
          have hs := Lib.hid (same25 (hq.below hbw.out) (hr5.out.below hbw.out) (by rw [hAn.out i hiN]; omega))
          rw [same_natI] at hs
          clear c1 hq
          by_cases hel : A.getD i [] = l
          · have hoe : o = some i := by
              cases ho : o with
              | none => exact absurd hel (hri'.out.2 ho i hiN)
              | some r => rw [((hri'.out.1 r ho).2 i hiN).1 hel]
            have e1 : rr = i := by rw [hrr'.out, hoe]; rfl
            have e2 : re = 0 := by rw [hre'.out, hoe]; rfl
            subst e1 e2
            rw [decide_eq_true hel] at hs
            clear hel hoe
            go_wp2_with fail
            refine (hs.out).mono ?_
            rintro e w6 ⟨rfl, hb6⟩
            have hb6' := Lib.hid (below_call (below_call hb5'.out hbw.out) hb6)
            clear hb6
            go_wp2_with fail
            refine (hlv.out _).mono ?_
            rintro e w7 ⟨rfl, hb7⟩
            have hb7' := Lib.hid (below_call hb6'.out hb7)
            clear hb7
            go_wp2_with fail
            go_ret
            exact ⟨rfl, hb7'.out⟩
          · have hno2 := Lib.hid (show ∀ x, x < i + 1 → A.getD x [] ≠ l from fun x hx => by
              rcases Nat.lt_succ_iff_lt_or_eq.1 hx with h | rfl
              · exact hno.out x h
              · exact hel)
            rw [decide_eq_false hel] at hs
            clear hel
            go_wp2_with fail
            refine (hs.out).mono ?_
            rintro e w6 ⟨rfl, hb6⟩
            have hb6' := Lib.hid (below_call hbw.out hb6)
            clear hb6
            go_wp2_with fail
            go_roundw
            case rel => exact ⟨i + 1, by omega, by go_num, hno2, hb6'⟩
            case measure => simp [intOf]; omega
        · have hon : o = none := by
            cases ho : o with
            | none => rfl
            | some r => exact absurd (((hri'.out.1 r ho).2 r (hri'.out.1 r ho).1).2 rfl) (hno.out r (by have := (hri'.out.1 r ho).1; omega))
          have e1 : rr = 0 := by rw [hrr'.out, hon]; rfl
          have e2 : re = 5 := by rw [hre'.out, hon]; rfl
          subst e1 e2
          have hbe := Lib.hid (below_call hb5'.out hbw.out)
          clear hon
          go_wp2_with fail
          refine (hlv.out _).mono ?_
          rintro e w7 ⟨rfl, hb7⟩
          have hb7' := Lib.hid (below_call hbe.out hb7)
          clear hb7
          go_wp2_with fail
          go_ret
          exact ⟨rfl, hb7'.out⟩
end Go.Proofs.Ytfobdlllghpelaa
