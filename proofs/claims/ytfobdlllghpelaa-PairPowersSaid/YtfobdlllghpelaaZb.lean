import Derived.Test.YtfobdlllghpelaaZa
namespace Go.Proofs.Ytfobdlllghpelaa
open Go.RowKit Go.Shelf Pair
attribute [local go_sem] Oper.semAt_some

theorem few_six {gs : List (List Int)} (h : validC (fewOf gs) = true) : (fewOf gs).length ≤ 6 := by
  have hg := good_of h
  have h8 := hg.eight
  unfold fewOf at h8 ⊢
  rw [fewC_len _ _ (by omega)] at h8 ⊢
  unfold mostC at h8 ⊢
  by_cases e : 8 < gs.length
  · rw [if_pos e] at h8 ⊢; omega
  · rw [if_neg e]; omega
/-- What the search for the least sum finds is the first of the least. -/
theorem cheap_first {cs : List (List Int)} {n : Nat} (hn8 : n ≤ 8) : ∃ x, srch (decO ltI (· + ·) 0 (costAt cs) n) (nxtO ltI (· + ·) 0 (costAt cs) n) n n (2 ^ n - 1) (2 ^ n - 1) = some x ∧ x ∈ allP n n [] ∧
    sumM cs 0 x = optI cs n n (2 ^ n - 1) ∧ (allP n n []).foldl (bestM (sumM cs 0)) none = some x := by
  have hsz : sz n (2 ^ n - 1) = n := by
    rw [← szS_sz (Nat.sub_lt (Nat.pow_pos (by decide)) (by decide)) hn8]; exact szS_full n hn8
  obtain ⟨x, h1, h2, h3, h4⟩ := srchO (measI cs n) n (2 ^ n - 1) (Nat.le_refl _) hsz
  obtain ⟨_, h5, _⟩ := opt_spec (measI cs n) n (2 ^ n - 1) (Nat.le_refl _) hsz
  rw [Nat.sub_self] at h3 h4 h5
  rw [← allP_all] at h2 h4 h5
  refine ⟨x, h1, h2, h3, ?_⟩
  have hs := allP_sorted n n []
  have hlen := (all_mem h2).1
  have hm : ∀ l ∈ allP n n [], l.length = x.length := fun l hl => by rw [(all_mem hl).1, hlen]
  have hle : ∀ l ∈ allP n n [], sumM cs 0 x ≤ sumM cs 0 l := fun l hl => by
    have := (h5 l hl).2
    rw [← h3] at this
    unfold ltI at this
    simp only [decide_eq_false_iff_not] at this
    show ms _ _ _ 0 x ≤ ms _ _ _ 0 l
    omega
  have hlt : ∀ l ∈ allP n n [], lexLt l x → sumM cs 0 x < sumM cs 0 l := fun l hl hx => by
    have := h4 l hl hx
    rw [← h3] at this
    unfold ltI at this
    simp only [decide_eq_true_eq] at this
    exact this
  cases e : allP n n [] with
  | nil => rw [e] at h2; simp at h2
  | cons b ls =>
    rw [e] at hs hm hle hlt h2
    rw [List.foldl_cons]
    show ls.foldl (bestM (sumM cs 0)) (some b) = some x
    rw [best_first, firstLeast_unique hs hm h2 hle hlt]

set_option maxHeartbeats 4000000 in
set_option maxRecDepth 100000 in
theorem walk5 {w : World} {v : Value} {xss : List (List Int)} (hg : InRows w v xss) :
    Calls Try.prog 5 #[v] w fun e w' => e = .returned (.bool true) ∧ Below w.heap.size w w' := by
  have hf := Lib.hid (few18 hg)
  have h6 := Lib.hid (few_six (gs := xss))
  obtain ⟨cs, hcs⟩ : ∃ cs, cs = fewOf xss := ⟨_, rfl⟩
  have hcst := Lib.hid (fun (w : World) (B : Nat) (v : Value) (h : OwnG w B v cs) => (show Cst w v cs by rw [hcs] at h ⊢; exact few_cst h))
  rw [← hcs] at hf h6
  obtain ⟨go, gc, rfl, _⟩ := hg
  clear hcs
  have hlv := Lib.hid (fun (w : World) => lives22 (w := w))
  obtain ⟨b, hb⟩ : ∃ b, b = validC cs := ⟨_, rfl⟩
  cases b with
  | false =>
    have hk := Lib.hid (fun (w : World) (v : Value) (h : Cst w v cs) => cheapest28_bad h hb.symm)
    have hc := Lib.hid (fun (w : World) (v : Value) (h : Cst w v cs) => costs21 h)
    rw [← hb] at hc
    clear hb h6
    go_enter Try.func5, Try.ntmps5
    go_wp2_with fail
    refine (hf.out).mono ?_
    rintro e w1 ⟨v1, rfl, hv1, hb1⟩
    have hc1 := Lib.hid (hcst.out _ _ _ hv1)
    have hb1' := Lib.hid hb1
    obtain ⟨vo, vc, rfl, _⟩ := hv1.shape
    clear hv1 hb1
    go_wp2_with fail
    refine (hk.out _ _ hc1.out).mono ?_
    rintro e w2 ⟨rfl, hb2⟩
    have hc2 := Lib.hid (hc1.out.below hb2)
    have hb2' := Lib.hid (below_call hb1'.out hb2)
    clear hb2 hc1 hb1'
    go_wp2_with fail
    refine (hc.out _ _ hc2.out).mono ?_
    rintro e w3 ⟨rfl, rfl⟩
    go_wp2_with fail
    refine (hlv.out _).mono ?_
    rintro e w3 ⟨rfl, hb3⟩
    have hb3' := Lib.hid (below_call hb2'.out hb3)
    clear hb3
    go_wp2_with fail
    go_ret
    exact ⟨rfl, hb3'.out⟩
  | true =>
    have hgd := good_of hb.symm
    have hn6 := h6.out hb.symm
    obtain ⟨n, hn⟩ : ∃ n, n = cs.length := ⟨_, rfl⟩
    rw [← hn] at hgd hn6
    obtain ⟨x, hx, hxm, hxs, hxf⟩ := cheap_first (cs := cs) (n := n) hgd.eight
    have hk := Lib.hid (fun (w : World) (v : Value) (h : Cst w v cs) => cheapest28 h hb.symm hgd x hx)
    have hr := Lib.hid (fun (w : World) (v : Value) (h : Cst w v cs) => refCheapest29 h hgd hn6)
    have hc := Lib.hid (fun (w : World) (v : Value) (h : Cst w v cs) => costs21 h)
    rw [← hb] at hc
    rw [hxf] at hr
    obtain ⟨V, hV⟩ : ∃ V, V = optI cs n n (2 ^ n - 1) := ⟨_, rfl⟩
    rw [← hV] at hk hxs
    have hxs' := Lib.hid hxs
    have hxl := Lib.hid (all_mem hxm).1
    have hn8 := hgd.eight
    clear hb hgd hn hV hx hxm hxs hxf h6
    go_enter Try.func5, Try.ntmps5
    go_wp2_with fail
    refine (hf.out).mono ?_
    rintro e w1 ⟨v1, rfl, hv1, hb1⟩
    have hc1 := Lib.hid (hcst.out _ _ _ hv1)
    have hb1' := Lib.hid hb1
    obtain ⟨vo, vc, rfl, _⟩ := hv1.shape
    clear hv1 hb1
    go_wp2_with fail
    refine (hk.out _ _ hc1.out).mono ?_
    rintro e w2 ⟨⟨g, rfl, hrow⟩, hb2⟩
    have hrow' := Lib.hid hrow.reads
    have hc2 := Lib.hid (hc1.out.below hb2)
    have hb2' := Lib.hid (below_call hb1'.out hb2)
    clear hb2 hc1 hb1' hrow
    go_wp2_with fail
    refine (hc.out _ _ hc2.out).mono ?_
    rintro e w3 ⟨rfl, rfl⟩
    go_wp2_with fail
    refine (hr.out _ _ hc2.out).mono ?_
    rintro e w3 ⟨vr, mv, rfl, ⟨⟨ad, cr, rfl⟩, hr1, rfl⟩, hb3⟩
    have hb3' := Lib.hid (below_call hb2'.out hb3)
    have hsm := Lib.hid (same25 (hrow'.out.below hb3) hr1 (by rw [natI_len, hxl.out]; omega))
    rw [hxs'.out]
    clear hb3 hr1
    go_wp2_with fail
    refine (hsm.out).mono ?_
    rw [sameL_self]
    rintro e w4 ⟨rfl, hb4⟩
    have hb4' := Lib.hid (below_call hb3'.out hb4)
    clear hb4
    go_wp2_with fail
    refine (hlv.out _).mono ?_
    rintro e w5 ⟨rfl, hb5⟩
    have hb5' := Lib.hid (below_call hb4'.out hb5)
    clear hb5
    go_wp2_with fail
    go_ret
    exact ⟨rfl, hb5'.out⟩
end Go.Proofs.Ytfobdlllghpelaa
