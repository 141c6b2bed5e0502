import Derived.Test.YtfobdlllghpelaaZi
import Derived.Test.YtfobdlllghpelaaZh
import Derived.Test.YtfobdlllghpelaaY
namespace Go.Proofs.Ytfobdlllghpelaa
open Go.RowKit Go.Shelf Pair
attribute [local go_sem] Oper.semAt_some

theorem bl_rises {R n : Nat} (hR : R < 2 ^ n) : Rises n (bl R) := by
  have hs : (bl R).Pairwise (· < ·) := List.Pairwise.filter _ List.pairwise_lt_range
  have hm : ∀ i, i < (bl R).length → (bl R).getD i 0 ∈ bl R := fun i hi => by
    rw [List.getD_eq_getElem?_getD, List.getElem?_eq_getElem hi]; exact List.getElem_mem hi
  refine ⟨fun i hi => ?_, fun i h0 hi => ?_⟩
  · have := (bl_in.1 (hm i hi)).2
    refine Nat.lt_of_not_le fun h => ?_
    rw [low_bit hR h] at this; simp at this
  · have := List.pairwise_iff_getElem.1 hs (i - 1) i (by omega) hi (by omega)
    rw [List.getD_eq_getElem?_getD, List.getD_eq_getElem?_getD, List.getElem?_eq_getElem hi, List.getElem?_eq_getElem (by omega : i - 1 < (bl R).length)]
    exact this

set_option maxHeartbeats 4000000 in
set_option maxRecDepth 100000 in
theorem walk9 {w : World} {v : Value} {xss : List (List Int)} (hg : InRows w v xss) (lim : Int) :
    Calls Try.prog 9 #[v, .int .i64 lim] w fun e w' => e = .returned (.bool true) ∧ Below w.heap.size w w' := by
  have hf := Lib.hid (few18 hg)
  obtain ⟨cs, hcs⟩ : ∃ cs, cs = fewOf xss := ⟨_, rfl⟩
  have hcst := Lib.hid (fun (w : World) (B : Nat) (v : Value) (h : OwnG w B v cs) => (show Cst w v cs by rw [hcs] at h ⊢; exact few_cst h))
  rw [← hcs] at hf
  obtain ⟨go, gc, rfl, _⟩ := hg
  clear hcs
  have hlv := Lib.hid (fun (w : World) => lives22 (w := w))
  obtain ⟨b, hb⟩ : ∃ b, b = validC cs := ⟨_, rfl⟩
  cases b with
  | false =>
    have hk := Lib.hid (fun (w : World) (v : Value) (h : Cst w v cs) => most37_bad h hb.symm lim)
    have hc := Lib.hid (fun (w : World) (v : Value) (h : Cst w v cs) => costs21 h)
    rw [← hb] at hc
    clear hb
    go_enter Try.func9, Try.ntmps9
    go_wp2_with fail
    refine (hf.out).mono ?_
    rintro e w1 ⟨v1, rfl, hv1, hb1⟩
    have hc1 := Lib.hid (hcst.out _ _ _ hv1)
    have hb1' := Lib.hid hb1
    obtain ⟨vo, vc, rfl, _⟩ := hv1.shape
    clear hv1 hb1
    go_wp2_with fail
    refine (hk.out _ _ hc1.out).mono ?_
    rintro e w2 ⟨rfl, hb2⟩
    have hc2 := Lib.hid (hc1.out.below hb2)
    have hb2' := Lib.hid (below_call hb1'.out hb2)
    clear hb2 hc1 hb1'
    go_wp2_with fail
    refine (hc.out _ _ hc2.out).mono ?_
    rintro e w3 ⟨rfl, rfl⟩
    go_wp2_with fail
    refine (hlv.out _).mono ?_
    rintro e w3 ⟨rfl, hb3⟩
    have hb3' := Lib.hid (below_call hb2'.out hb3)
    clear hb3
    go_wp2_with fail
    go_ret
    exact ⟨rfl, hb3'.out⟩
  | true =>
    have hgd := good_of hb.symm
    obtain ⟨n, hn⟩ : ∃ n, n = cs.length := ⟨_, rfl⟩
    rw [← hn] at hgd
    have hk := Lib.hid (fun (w : World) (v : Value) (h : Cst w v cs) => most37 h hb.symm hgd lim)
    have hr := Lib.hid (fun (w : World) (v : Value) (h : Cst w v cs) => mostR38 lim (h.sq hgd) hgd.eight)
    have hc := Lib.hid (fun (w : World) (v : Value) (h : Cst w v cs) => costs21 h)
    rw [← hb] at hc
    obtain ⟨R, hR, hRe, hCl, hsum, hcov⟩ := most_konig hgd (lim := lim)
    rw [hRe] at hk
    simp only at hk
    obtain ⟨C, hC⟩ : ∃ C, C = hdlK (alwL cs 0 lim n) (bl (2 ^ n - 1 - R)) := ⟨_, rfl⟩
    rw [← hC] at hk hCl hsum hcov
    have hcv := Lib.hid (fun (w : World) (v a b : Value) (h : Cst w v cs) (ha : Reads w a (natI (bl R))) (hb : Reads w b (natI (bl C))) => covers39 (h.sq hgd) hgd.eight ha hb (bl_rises hR) (bl_rises hCl) (bl_len R) (bl_len C) hcov)
    rw [← hsum] at hr
    have l1 : (natI (bl R)).length = szS R := natI_len _
    have l2 : (natI (bl C)).length = szS C := natI_len _
    have b1 : szS R ≤ 8 := bl_len R
    have b2 : szS C ≤ 8 := bl_len C
    obtain ⟨r, hr1⟩ : ∃ r, r = szS R := ⟨_, rfl⟩
    obtain ⟨c, hc1⟩ : ∃ c, c = szS C := ⟨_, rfl⟩
    unfold MostEnd at hk
    rw [← hr1] at l1 b1 hr hk
    rw [← hc1] at l2 b2 hr hk
    obtain ⟨L1, hL1⟩ : ∃ L, L = natI (bl R) := ⟨_, rfl⟩
    obtain ⟨L2, hL2⟩ : ∃ L, L = natI (bl C) := ⟨_, rfl⟩
    rw [← hL1] at l1 hk hcv
    rw [← hL2] at l2 hk hcv
    clear hb hgd hn hRe hC hR hCl hsum hcov hr1 hc1 hL1 hL2
    go_enter Try.func9, Try.ntmps9
    go_wp2_with fail
    refine (hf.out).mono ?_
    rintro e w1 ⟨v1, rfl, hv1, hb1⟩
    have hc1 := Lib.hid (hcst.out _ _ _ hv1)
    have hb1' := Lib.hid hb1
    obtain ⟨vo, vc, rfl, _⟩ := hv1.shape
    clear hv1 hb1
    go_wp2_with fail
    refine (hk.out _ _ hc1.out).mono ?_
    rintro e w2 ⟨u1, u2, rfl, hu1, hu2, hb2⟩
    have hr1 := Lib.hid hu1.1.shape
    have hr2 := Lib.hid hu2.1.shape
    obtain ⟨a1, c1, rfl, _⟩ := hu1.1.shape
    obtain ⟨a2, c2, rfl, _⟩ := hu2.1.shape
    rw [l1] at hr1 ⊢
    rw [l2] at hr2 ⊢
    have hc2 := Lib.hid (hc1.out.below hb2)
    have hb2' := Lib.hid (below_call hb1'.out hb2)
    clear hb2 hc1 hb1' hu1 hu2
    go_wp2_with fail
    refine (hc.out _ _ hc2.out).mono ?_
    rintro e w3 ⟨rfl, rfl⟩
    go_wp2_with fail
    refine (hr.out _ _ hc2.out).mono ?_
    rintro e w3 ⟨rfl, rfl⟩
    go_wp2_with fail
    refine (hcv.out _ _ _ _ hc2.out hr1.out hr2.out).mono ?_
    rintro e w3 ⟨rfl, hb3⟩
    have hb3' := Lib.hid (below_call hb2'.out hb3)
    clear hb3
    go_wp2_with fail
    refine (hlv.out _).mono ?_
    rintro e w4 ⟨rfl, hb4⟩
    have hb4' := Lib.hid (below_call hb3'.out hb4)
    clear hb4
    go_wp2_with fail
    go_ret
    exact ⟨rfl, hb4'.out⟩
end Go.Proofs.Ytfobdlllghpelaa
