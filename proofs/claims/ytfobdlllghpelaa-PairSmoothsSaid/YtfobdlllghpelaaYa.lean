import Derived.Test.YtfobdlllghpelaaXx
import Derived.Test.YtfobdlllghpelaaXt
namespace Go.Proofs.Ytfobdlllghpelaa
open Go.RowKit Go.Shelf Pair
attribute [local go_sem] Oper.semAt_some

set_option maxHeartbeats 4000000 in
set_option maxRecDepth 100000 in
theorem smooth26_bad {w : World} {v : Value} {cs : List (List Int)} (h : Cst w v cs) (hb : validC cs = false) :
    Calls Try.prog 26 #[v] w fun e w' => e = .returned (.tuple #[.slice none 0 0, .int .i64 1]) ∧ Below w.heap.size w w' := by
  have hv := Lib.hid (valid48' h)
  rw [hb] at hv
  clear h
  go_enter Try.func26, Try.ntmps26
  go_wp2_with fail
  refine (hv.out).mono ?_
  rintro e w1 ⟨rfl, rfl⟩
  go_wp2_with fail
  go_ret2
  exact ⟨rfl, Below.refl _ _⟩

def SmoothEnd (w : World) (n : Nat) (x : List Nat) (e : Ending) (w' : World) : Prop := (∃ g, e = .returned (.tuple #[.slice (some ⟨g, 0, none⟩) n n, .int .i64 0]) ∧ Row w' w.heap.size g n (natI x)) ∧ Below w.heap.size w w'
set_option maxHeartbeats 4000000 in
set_option maxRecDepth 100000 in
theorem smooth26 {w : World} {v : Value} {cs : List (List Int)} {n : Nat} (h : Cst w v cs) (hb : validC cs = true) (hg : Good cs n)
    (x : List Nat) (hx : srch (decO lexI insF zeroF (costAt cs) n) (nxtO lexI insF zeroF (costAt cs) n) n n (2 ^ n - 1) (2 ^ n - 1) = some x) :
    Calls Try.prog 26 #[v] w (SmoothEnd w n x) := by
  have hv := Lib.hid (valid48' h)
  rw [hb] at hv
  have ho := Lib.hid (optimum55 (h.sq hg) hg.one hg.eight (fun i j hi hj => (hg.bd i j hi hj).1) x hx)
  clear h hg hx
  go_enter Try.func26, Try.ntmps26
  go_wp2_with fail
  refine (hv.out).mono ?_
  rintro e w1 ⟨rfl, rfl⟩
  go_wp2_with fail
  refine (ho.out).mono ?_
  rintro e w1 ⟨⟨g, u, rfl, ⟨ys, rfl, hys⟩, hr⟩, hb1⟩
  obtain ⟨y0, y1, y2, y3, y4, y5, y6, y7, rfl⟩ := eight hys
  simp only [arr8, List.map_cons, List.map_nil]
  have hr' := Lib.hid hr
  have hb1' := Lib.hid hb1
  clear hr hb1 hys
  go_wp2_with fail
  go_ret2
  exact ⟨⟨g, rfl, hr'.out.below (below_alloc1 _ _)⟩, below_call hb1'.out (below_alloc1 _ _)⟩
set_option maxHeartbeats 4000000 in
set_option maxRecDepth 100000 in
theorem walk4 {w : World} {v : Value} {xss : List (List Int)} (hg : InRows w v xss) :
    Calls Try.prog 4 #[v] w fun e w' => e = .returned (.bool true) ∧ Below w.heap.size w w' := by
  have hf := Lib.hid (few18 hg)
  have h6 := Lib.hid (few_six (gs := xss))
  obtain ⟨cs, hcs⟩ : ∃ cs, cs = fewOf xss := ⟨_, rfl⟩
  have hcst := Lib.hid (fun (w : World) (B : Nat) (v : Value) (h : OwnG w B v cs) => (show Cst w v cs by rw [hcs] at h ⊢; exact few_cst h))
  rw [← hcs] at hf h6
  obtain ⟨go, gc, rfl, _⟩ := hg
  clear hcs
  have hlv := Lib.hid (fun (w : World) => lives22 (w := w))
  obtain ⟨b, hb⟩ : ∃ b, b = validC cs := ⟨_, rfl⟩
  cases b with
  | false =>
    have hk := Lib.hid (fun (w : World) (v : Value) (h : Cst w v cs) => smooth26_bad h hb.symm)
    have hc := Lib.hid (fun (w : World) (v : Value) (h : Cst w v cs) => costs21 h)
    rw [← hb] at hc
    clear hb h6
    go_enter Try.func4, Try.ntmps4
    go_wp2_with fail
    refine (hf.out).mono ?_
    rintro e w1 ⟨v1, rfl, hv1, hb1⟩
    have hc1 := Lib.hid (hcst.out _ _ _ hv1)
    have hb1' := Lib.hid hb1
    obtain ⟨vo, vc, rfl, _⟩ := hv1.shape
    clear hv1 hb1
    go_wp2_with fail
    refine (hk.out _ _ hc1.out).mono ?_
    rintro e w2 ⟨rfl, hb2⟩
    have hc2 := Lib.hid (hc1.out.below hb2)
    have hb2' := Lib.hid (below_call hb1'.out hb2)
    clear hb2 hc1 hb1'
    go_wp2_with fail
    refine (hc.out _ _ hc2.out).mono ?_
    rintro e w3 ⟨rfl, rfl⟩
    go_wp2_with fail
    refine (hlv.out _).mono ?_
    rintro e w3 ⟨rfl, hb3⟩
    have hb3' := Lib.hid (below_call hb2'.out hb3)
    clear hb3
    go_wp2_with fail
    go_ret
    exact ⟨rfl, hb3'.out⟩
  | true =>
    have hgd := good_of hb.symm
    have hn6 := h6.out hb.symm
    obtain ⟨n, hn⟩ : ∃ n, n = cs.length := ⟨_, rfl⟩
    rw [← hn] at hgd hn6
    obtain ⟨x, hx, hxm, hxs, h3, h4⟩ := smooth_first (cs := cs) (n := n) hgd.eight (fun i j hi hj => (hgd.bd i j hi hj).1)
    have hxf := smooth_ref hgd.eight (fun i j hi hj => (hgd.bd i j hi hj).1) hxm h3 h4
    have hk := Lib.hid (fun (w : World) (v : Value) (h : Cst w v cs) => smooth26 h hb.symm hgd x hx)
    have hr := Lib.hid (fun (w : World) (v : Value) (h : Cst w v cs) => refSmooth27 h hgd hn6)
    have hc := Lib.hid (fun (w : World) (v : Value) (h : Cst w v cs) => costs21 h)
    rw [← hb] at hc
    unfold ltS at hr
    rw [hxf] at hr
    have hxl := Lib.hid (all_mem hxm).1
    have hn8 := hgd.eight
    clear hb hgd hn hx hxm hxs hxf h3 h4 h6
    go_enter Try.func4, Try.ntmps4
    go_wp2_with fail
    refine (hf.out).mono ?_
    rintro e w1 ⟨v1, rfl, hv1, hb1⟩
    have hc1 := Lib.hid (hcst.out _ _ _ hv1)
    have hb1' := Lib.hid hb1
    obtain ⟨vo, vc, rfl, _⟩ := hv1.shape
    clear hv1 hb1
    go_wp2_with fail
    refine (hk.out _ _ hc1.out).mono ?_
    rintro e w2 ⟨⟨g, rfl, hrow⟩, hb2⟩
    have hrow' := Lib.hid hrow.reads
    have hc2 := Lib.hid (hc1.out.below hb2)
    have hb2' := Lib.hid (below_call hb1'.out hb2)
    clear hb2 hc1 hb1' hrow
    go_wp2_with fail
    refine (hc.out _ _ hc2.out).mono ?_
    rintro e w3 ⟨rfl, rfl⟩
    go_wp2_with fail
    refine (hr.out _ _ hc2.out).mono ?_
    rintro e w3 ⟨vr, mv, rfl, ⟨⟨ad, cr, rfl⟩, hr1, _, _⟩, hb3⟩
    have hb3' := Lib.hid (below_call hb2'.out hb3)
    have hsm := Lib.hid (same25 (hrow'.out.below hb3) hr1 (by rw [natI_len, hxl.out]; omega))
    clear hb3 hr1
    go_wp2_with fail
    refine (hsm.out).mono ?_
    rw [sameL_self]
    rintro e w4 ⟨rfl, hb4⟩
    have hb4' := Lib.hid (below_call hb3'.out hb4)
    clear hb4
    go_wp2_with fail
    refine (hlv.out _).mono ?_
    rintro e w5 ⟨rfl, hb5⟩
    have hb5' := Lib.hid (below_call hb4'.out hb5)
    clear hb5
    go_wp2_with fail
    go_ret
    exact ⟨rfl, hb5'.out⟩
end Go.Proofs.Ytfobdlllghpelaa
