import Derived.Test.YtfobdlllghpelaaZd
namespace Go.Proofs.Ytfobdlllghpelaa
open Go.RowKit Go.Shelf Pair
attribute [local go_sem] Oper.semAt_some

theorem lt64 {n : Int} (h : (Lit.int .i64 n).wf = true) : n < 9223372036854775808 := by
  simp [Lit.wf] at h
  omega
theorem allowed_sufs {cs : List (List Int)} {n : Nat} (hg : Good cs n) (lim : Int) : (allP n n []).filter (withinL cs lim) = sufs (okM cs 0 lim) n n (2 ^ n - 1) := by
  rw [← alwP_all]
  exact List.filter_congr fun l hl => within_iff hg.one (all_mem hl).1 (all_mem hl).2.2 hg.bd
theorem allowed_ways {cs : List (List Int)} {n : Nat} (hg : Good cs n) (lim : Int) : waysM cs 0 lim n = ((allP n n []).filter (withinL cs lim)).length := by
  rw [allowed_sufs hg, sufs_length]; rfl
theorem allowed_at {cs : List (List Int)} {n : Nat} (hg : Good cs n) (lim r : Int) : atM cs lim n r = if r < 0 then none else ((allP n n []).filter (withinL cs lim))[r.toNat]? := by
  rw [allowed_sufs hg]; rfl

set_option maxHeartbeats 4000000 in
set_option maxRecDepth 100000 in
theorem walk10 {w : World} {v : Value} {xss : List (List Int)} (hg : InRows w v xss) (lim r : Int) (hr : r < 9223372036854775808) :
    Calls Try.prog 10 #[v, .int .i64 lim, .int .i64 r] w fun e w' => e = .returned (.bool true) ∧ Below w.heap.size w w' := by
  have hf := Lib.hid (few18 hg)
  have h6 := Lib.hid (few_six (gs := xss))
  obtain ⟨cs, hcs⟩ : ∃ cs, cs = fewOf xss := ⟨_, rfl⟩
  have hcst := Lib.hid (fun (w : World) (B : Nat) (v : Value) (h : OwnG w B v cs) => (show Cst w v cs by rw [hcs] at h ⊢; exact few_cst h))
  rw [← hcs] at hf h6
  obtain ⟨go, gc, rfl, _⟩ := hg
  clear hcs
  have hlv := Lib.hid (fun (w : World) => lives22 (w := w))
  obtain ⟨b, hb⟩ : ∃ b, b = validC cs := ⟨_, rfl⟩
  cases b with
  | false =>
    have hk := Lib.hid (fun (w : World) (v : Value) (h : Cst w v cs) => count40_bad h hb.symm lim)
    have hk2 := Lib.hid (fun (w : World) (v : Value) (h : Cst w v cs) => at41_bad h hb.symm lim r)
    have hc := Lib.hid (fun (w : World) (v : Value) (h : Cst w v cs) => costs21 h)
    rw [← hb] at hc
    clear hb h6
    go_enter Try.func10, Try.ntmps10
    go_wp2_with fail
    refine (hf.out).mono ?_
    rintro e w1 ⟨v1, rfl, hv1, hb1⟩
    have hc1 := Lib.hid (hcst.out _ _ _ hv1)
    have hb1' := Lib.hid hb1
    obtain ⟨vo, vc, rfl, _⟩ := hv1.shape
    clear hv1 hb1
    go_wp2_with fail
    refine (hk.out _ _ hc1.out).mono ?_
    rintro e w2 ⟨rfl, rfl⟩
    go_wp2_with fail
    refine (hk2.out _ _ hc1.out).mono ?_
    rintro e w2 ⟨rfl, rfl⟩
    go_wp2_with fail
    refine (hc.out _ _ hc1.out).mono ?_
    rintro e w3 ⟨rfl, rfl⟩
    go_wp2_with fail
    refine (hlv.out _).mono ?_
    rintro e w3 ⟨rfl, hb3⟩
    have hb3' := Lib.hid (below_call hb1'.out hb3)
    clear hb3
    go_wp2_with fail
    go_ret
    exact ⟨rfl, hb3'.out⟩
  | true =>
    have hgd := good_of hb.symm
    have hn6 := h6.out hb.symm
    obtain ⟨n, hn⟩ : ∃ n, n = cs.length := ⟨_, rfl⟩
    rw [← hn] at hgd hn6
    have hk := Lib.hid (fun (w : World) (v : Value) (h : Cst w v cs) => count40 h hb.symm hgd lim)
    have hk2 := Lib.hid (fun (w : World) (v : Value) (h : Cst w v cs) => at41 h hb.symm hgd lim r hr)
    have hal := Lib.hid (fun (w : World) (v : Value) (h : Cst w v cs) => allowed42 h hgd hn6 lim)
    have hc := Lib.hid (fun (w : World) (v : Value) (h : Cst w v cs) => costs21 h)
    rw [← hb] at hc
    rw [allowed_ways hgd] at hk
    rw [allowed_at hgd] at hk2
    have hAl := Lib.hid (fun (l : List Nat) (hl : l ∈ (allP n n []).filter (withinL cs lim)) => (all_mem (List.mem_filter.1 hl).1).1)
    have hAb : ((allP n n []).filter (withinL cs lim)).length ≤ 46656 := Nat.le_trans (List.length_filter_le _ _) (allP_bd hn6 (Nat.le_refl _) [])
    have hn8 := hgd.eight
    obtain ⟨A, hA⟩ : ∃ A, A = (allP n n []).filter (withinL cs lim) := ⟨_, rfl⟩
    rw [← hA] at hk hk2 hal hAl hAb
    obtain ⟨N, hN⟩ : ∃ N, N = A.length := ⟨_, rfl⟩
    rw [← hN] at hk hAb
    have hN' := Lib.hid hN
    clear hb hgd hn hA hN h6
    by_cases hrr : 0 ≤ r ∧ r < (N : Int)
    · obtain ⟨q, rfl⟩ : ∃ q : Nat, r = (q : Int) := ⟨r.toNat, by omega⟩
      have hq : q < A.length := by rw [← hN'.out]; omega
      have hqN : q < N := by omega
      rw [if_neg (by omega), Int.toNat_natCast, List.getElem?_eq_getElem hq] at hk2
      have hml := Lib.hid (hAl.out A[q] (List.getElem_mem hq))
      have hAq := Lib.hid (show (A.map natI).getD q [] = natI A[q] by simp [List.getD_eq_getElem?_getD, hq])
      obtain ⟨l, hl⟩ : ∃ l, l = A[q] := ⟨_, rfl⟩
      rw [← hl] at hk2 hml hAq
      clear hrr hr hl hAl
      go_enter Try.func10, Try.ntmps10
      go_wp2_with fail
      refine (hf.out).mono ?_
      rintro e w1 ⟨v1, rfl, hv1, hb1⟩
      have hc1 := Lib.hid (hcst.out _ _ _ hv1)
      have hb1' := Lib.hid hb1
      obtain ⟨vo, vc, rfl, _⟩ := hv1.shape
      clear hv1 hb1
      go_wp2_with fail
      refine (hk.out _ _ hc1.out).mono ?_
      rintro e w2 ⟨rfl, hb2⟩
      have hc2 := Lib.hid (hc1.out.below hb2)
      have hb2' := Lib.hid (below_call hb1'.out hb2)
      clear hb2 hc1 hb1'
      go_wp2_with fail
      refine (hk2.out _ _ hc2.out).mono ?_
      rintro e w3 ⟨⟨g, rfl, hrow⟩, hb3⟩
      have hrow' := Lib.hid hrow.reads
      have hc3 := Lib.hid (hc2.out.below hb3)
      have hb3' := Lib.hid (below_call hb2'.out hb3)
      clear hb3 hc2 hb2' hrow
      go_wp2_with fail
      refine (hc.out _ _ hc3.out).mono ?_
      rintro e w4 ⟨rfl, rfl⟩
      go_wp2_with fail
      refine (hal.out _ _ hc3.out).mono ?_
      rintro e w4 ⟨v4, rfl, hv4, hb4⟩
      obtain ⟨g4, cap4, u4, rfl, _, hg4, c4, hi4⟩ := hv4.at (k := q) (by rw [List.length_map]; exact hq)
      rw [hAq.out] at hi4
      rw [List.length_map, ← hN'.out]
      have hrow4 := Lib.hid (hrow'.out.below hb4)
      have hb4' := Lib.hid (below_call hb3'.out hb4)
      obtain ⟨uo, uc, rfl, _⟩ := hi4.shape
      have hi4' := Lib.hid hi4.shape
      clear hv4 hb4 hi4
      go_wp2_with fail
      refine (hlv.out _).mono ?_
      rintro e w5 ⟨rfl, hb5⟩
      have c5 := (hb5.cell (p := ⟨g4, q, none⟩) hg4).trans c4
      have hb5' := Lib.hid (below_call hb4'.out hb5)
      have hsm := Lib.hid (same25 (hrow4.out.below hb5) (hi4'.out.below hb5) (by rw [natI_len, hml.out]; omega))
      clear hb5 c4
      go_wp2_with fail
      refine (hsm.out).mono ?_
      rw [sameL_self]
      rintro e w6 ⟨rfl, hb6⟩
      have hb6' := Lib.hid (below_call hb5'.out hb6)
      clear hb6
      go_wp2_with fail
      go_ret
      exact ⟨rfl, hb6'.out⟩
    · rw [show (if r < 0 then none else A[r.toNat]?) = none by
        by_cases h : r < 0
        · rw [if_pos h]
        · rw [if_neg h]; exact List.getElem?_eq_none (by rw [← hN'.out]; omega)] at hk2
      clear hr hAl
      go_enter Try.func10, Try.ntmps10
      go_wp2_with fail
      refine (hf.out).mono ?_
      rintro e w1 ⟨v1, rfl, hv1, hb1⟩
      have hc1 := Lib.hid (hcst.out _ _ _ hv1)
      have hb1' := Lib.hid hb1
      obtain ⟨vo, vc, rfl, _⟩ := hv1.shape
      clear hv1 hb1
      go_wp2_with fail
      refine (hk.out _ _ hc1.out).mono ?_
      rintro e w2 ⟨rfl, hb2⟩
      have hc2 := Lib.hid (hc1.out.below hb2)
      have hb2' := Lib.hid (below_call hb1'.out hb2)
      clear hb2 hc1 hb1'
      go_wp2_with fail
      refine (hk2.out _ _ hc2.out).mono ?_
      rintro e w3 ⟨rfl, hb3⟩
      have hc3 := Lib.hid (hc2.out.below hb3)
      have hb3' := Lib.hid (below_call hb2'.out hb3)
      clear hb3 hc2 hb2'
      go_wp2_with fail
      refine (hc.out _ _ hc3.out).mono ?_
      rintro e w4 ⟨rfl, rfl⟩
      go_wp2_with fail
      refine (hal.out _ _ hc3.out).mono ?_
      rintro e w4 ⟨v4, rfl, hv4, hb4⟩
      obtain ⟨ao4, c4, rfl, _⟩ := hv4.shape
      rw [List.length_map, ← hN'.out]
      have hb4' := Lib.hid (below_call hb3'.out hb4)
      clear hv4 hb4
      go_wp2_with fail
      refine (hlv.out _).mono ?_
      rintro e w5 ⟨rfl, hb5⟩
      have hb5' := Lib.hid (below_call hb4'.out hb5)
      clear hb5
      by_cases hr0 : r < 0
      · go_wp2_with fail
        go_ret
        exact ⟨rfl, hb5'.out⟩
      · have hrN : (N : Int) ≤ r := by omega
        clear hrr
        go_wp2_with fail
        go_ret
        exact ⟨rfl, hb5'.out⟩
end Go.Proofs.Ytfobdlllghpelaa
