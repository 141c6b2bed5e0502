import Derived.Test.YtfobdlllghpelaaT
namespace Go.Proofs.Ytfobdlllghpelaa
open Go.RowKit Go.Shelf Pair
attribute [local go_sem] Oper.semAt_some

theorem results_tmp4 {fn : Func} {t u v x : Tmp} (h : fn.results = #[.tmp t, .tmp u, .tmp v, .tmp x]) (tmps : Array Value) (P : Program) (w : World) :
    (results fn tmps).run P w = .ok (.tuple #[tmps.getD t undef, tmps.getD u undef, tmps.getD v undef, tmps.getD x undef]) w := by
  simp [results, h]
theorem andn_tab : ∀ n : Nat, n ≤ 8 → ∀ S : Nat, S < 2 ^ n → bits BinOp.andNot IntKind.u64 (((2 ^ n - 1 : Nat) : Nat) : Int) (S : Int) = ((2 ^ n - 1 - S : Nat) : Int) := by decide +kernel
/-- What the search for the least covering holds before it looks at the set `S`. -/
def mosM (al : List Nat) (full : Nat) : Nat → Nat × Nat
  | 0 => (full, 0)
  | S + 1 => if szS S + szS (hdlK al (bl (full - S))) < szS (mosM al full S).1 + szS (mosM al full S).2 then (S, hdlK al (bl (full - S))) else mosM al full S
theorem mosM_lt {al : List Nat} (hal : ∀ i, al.getD i 0 < 256) {full : Nat} (hf : full < 256) : ∀ S, S ≤ full → (mosM al full S).1 < 256 ∧ (mosM al full S).2 < 256
  | 0, _ => ⟨hf, by show (0 : Nat) < 256; omega⟩
  | S + 1, h => by
    unfold mosM
    split
    · exact ⟨by omega, hdlK_lt hal _⟩
    · exact mosM_lt hal hf S (by omega)
def MostEnd (w : World) (R C : Nat) (e : Ending) (w' : World) : Prop :=
  ∃ v1 v2, e = .returned (.tuple #[.int .i64 ((szS R : Int) + szS C), v1, v2, .int .i64 0]) ∧ ListAt w' w.heap.size v1 (natI (bl R)) ∧ ListAt w' w.heap.size v2 (natI (bl C)) ∧ Below w.heap.size w w'

set_option maxHeartbeats 4000000 in
set_option maxRecDepth 100000 in
theorem most37_bad {w : World} {v : Value} {cs : List (List Int)} (h : Cst w v cs) (hb : validC cs = false) (lim : Int) :
    Calls Try.prog 37 #[v, .int .i64 lim] w fun e w' => e = .returned (.tuple #[.int .i64 0, .slice none 0 0, .slice none 0 0, .int .i64 1]) ∧ Below w.heap.size w w' := by
  have hv := Lib.hid (valid48' h)
  rw [hb] at hv
  clear h
  go_enter Try.func37, Try.ntmps37
  go_wp2_with fail
  refine (hv.out).mono ?_
  rintro e w1 ⟨rfl, rfl⟩
  go_wp2_with fail
  refine bodyPost_ret (results_tmp4 rfl _ _ _) rfl ?_
  exact ⟨rfl, Below.refl _ _⟩

set_option maxHeartbeats 4000000 in
set_option maxRecDepth 100000 in
theorem most37 {w : World} {v : Value} {cs : List (List Int)} {n : Nat} (h : Cst w v cs) (hb : validC cs = true) (hg : Good cs n) (lim : Int) :
    Calls Try.prog 37 #[v, .int .i64 lim] w (MostEnd w (mosM (alwL cs 0 lim n) (2 ^ n - 1) (2 ^ n - 1)).1 (mosM (alwL cs 0 lim n) (2 ^ n - 1) (2 ^ n - 1)).2) := by
  have hv := Lib.hid (valid48' h)
  rw [hb] at hv
  have hal := Lib.hid (allowed62 (h.sq hg) hg.eight 0 lim)
  have hN1 := pow_le n hg.eight
  have hN2 := pow_ge n hg.one hg.eight
  have h256 := Lib.hid (fun i => Nat.lt_of_lt_of_le (show (alwL cs 0 lim n).getD i 0 < 2 ^ n from ?lt) hN1)
  case lt =>
    unfold alwL
    by_cases hi : i < n
    · rw [List.getD_eq_getElem?_getD]; simp [hi]; exact maskTo_lt _ (Nat.le_refl _)
    · rw [List.getD_eq_getElem?_getD]; simp [hi]; exact Nat.pow_pos (by decide)
  have hn8 := hg.eight
  have hfst := Lib.hid (fun (w : World) => first67 (w := w) hg.eight)
  have hand := Lib.hid (fun (S : Nat) (hS : S < 2 ^ n) => andn_tab n hg.eight S hS)
  obtain ⟨ao, c, rfl⟩ := (h.sq hg).val
  obtain ⟨al, hal2⟩ : ∃ al, al = alwL cs 0 lim n := ⟨_, rfl⟩
  rw [← hal2] at hal h256 ⊢
  have hhd := Lib.hid (fun (w : World) (BA gA R : Nat) (hA : SRow w BA gA n al) (hR : R < 2 ^ n) => handles63 hA h256.out hR hn8)
  obtain ⟨N, hN⟩ : ∃ N, N = 2 ^ n := ⟨_, rfl⟩
  rw [← hN] at hN1 hN2 hhd hand hfst ⊢
  obtain ⟨M, hM⟩ : ∃ M, M = N - 1 := ⟨_, rfl⟩
  rw [← hM] at hand hfst ⊢
  have hM8 : M < 256 := by omega
  have hNM : N = M + 1 := by omega
  have hNM' := Lib.hid hNM
  clear hN h hg hal2 hb hM hNM hN1 hN2
  have hmlt := Lib.hid (fun S hS => mosM_lt h256.out hM8 S hS)
  have hh256 := Lib.hid (fun (l : List Nat) => hdlK_lt h256.out l)
  go_enter Try.func37, Try.ntmps37
  go_wp2_with fail
  refine (hv.out).mono ?_
  rintro e w1 ⟨rfl, rfl⟩
  go_wp2_with fail
  refine (hal.out).mono ?_
  rintro e w1 ⟨gA, rfl, hA, hb1⟩
  have hA' := Lib.hid hA
  have hb1' := Lib.hid hb1
  clear hA hb1
  go_wp2_with fail
  refine (hfst.out _).mono ?_
  rintro e w2 ⟨rfl, rfl⟩
  go_wp2_with fail
  go_loopw [10, 11, 25] (fun rv cv iv wr => ∃ S : Nat, S ≤ M ∧ iv = .int .u64 S ∧ rv = .int .u64 ((mosM al M S).1 : Nat) ∧ cv = .int .u64 ((mosM al M S).2 : Nat) ∧ Hid (SRow wr w.heap.size gA n al) ∧ Hid (Below w.heap.size w wr)) (fun _ _ iv _ => M - (intOf iv).toNat)
  case atStart => exact ⟨0, Nat.zero_le _, rfl, rfl, rfl, hA', hb1'⟩
  case round =>
    obtain ⟨S, hS, rfl, rfl, rfl, hA, hbw⟩ := hrel
    have hmS := hmlt.out S hS
    by_cases hlt : S < M
    · have hSN : S < N := by have := hNM'.out; omega
      have hS8 : S < 256 := by omega
      have ha1 := hand.out S hSN
      have hstep := Lib.hid (show mosM al M (S + 1) = if szS S + szS (hdlK al (bl (M - S))) < szS (mosM al M S).1 + szS (mosM al M S).2 then (S, hdlK al (bl (M - S))) else mosM al M S from rfl)
      have hcall := Lib.hid (hhd.out wr _ gA (M - S) hA.out (by have := hNM'.out; omega))
      have hH := hh256.out (bl (M - S))
      obtain ⟨P, hP⟩ : ∃ P, P = mosM al M S := ⟨_, rfl⟩
      rw [← hP] at hstep hmS ⊢
      obtain ⟨p1, p2⟩ := P
      obtain ⟨H, hHq⟩ : ∃ H, H = hdlK al (bl (M - S)) := ⟨_, rfl⟩
      rw [← hHq] at hstep hcall hH
      obtain ⟨T, hT⟩ : ∃ T, T = M - S := ⟨_, rfl⟩
      rw [← hT] at ha1 hcall
      clear hHq hT hP
      go_wp2_with fail
      refine (hcall.out).mono ?_
      rintro e w3 ⟨rfl, hb3⟩
      have hA3 := Lib.hid (hA.out.below hb3)
      have hbw3 := Lib.hid (hbw.out.trans (hb3.mono hbw.out.size))
      have z1 := Lib.hid (fun (w : World) => size64 (w := w) hS8)
      have z2 := Lib.hid (fun (w : World) => size64 (w := w) hH)
      have z3 := Lib.hid (fun (w : World) => size64 (w := w) hmS.1)
      have z4 := Lib.hid (fun (w : World) => size64 (w := w) hmS.2)
      have b1 : szS S ≤ 8 := bl_len S
      have b2 : szS H ≤ 8 := bl_len H
      have b3 : szS p1 ≤ 8 := bl_len p1
      have b4 : szS p2 ≤ 8 := bl_len p2
      clear hb3 hA hbw hcall hmS
      have hst := Lib.hid (show mosM al M (S + 1) = if szS S + szS H < szS p1 + szS p2 then (S, H) else (p1, p2) from hstep.out)
      clear hstep
      obtain ⟨s1, hs1⟩ : ∃ s, s = szS S := ⟨_, rfl⟩
      obtain ⟨s2, hs2⟩ : ∃ s, s = szS H := ⟨_, rfl⟩
      obtain ⟨s3, hs3⟩ : ∃ s, s = szS p1 := ⟨_, rfl⟩
      obtain ⟨s4, hs4⟩ : ∃ s, s = szS p2 := ⟨_, rfl⟩
      rw [← hs1] at z1 b1 hst
      rw [← hs2] at z2 b2 hst
      rw [← hs3] at z3 b3 hst
      rw [← hs4] at z4 b4 hst
      clear hs1 hs2 hs3 hs4
      go_wp2_with fail
      refine (z1.out _).mono ?_
      rintro e w4 ⟨rfl, rfl⟩
      go_wp2_with fail
      refine (z2.out _).mono ?_
      rintro e w4 ⟨rfl, rfl⟩
      go_wp2_with fail
      refine (z3.out _).mono ?_
      rintro e w4 ⟨rfl, rfl⟩
      go_wp2_with fail
      refine (z4.out _).mono ?_
      rintro e w4 ⟨rfl, rfl⟩
      by_cases hc : s1 + s2 < s3 + s4
      · have hst2 := Lib.hid (show mosM al M (S + 1) = (S, H) by rw [hst.out, if_pos hc])
        have hc' : (s1 : Int) + s2 < (s3 : Int) + s4 := by omega
        go_wp2_with fail
        go_roundw
        case rel => exact ⟨S + 1, by omega, by go_num, by rw [hst2.out], by rw [hst2.out], hA3, hbw3⟩
        case measure => simp [intOf]; omega
      · have hst2 := Lib.hid (show mosM al M (S + 1) = (p1, p2) by rw [hst.out, if_neg hc])
        have hc' : (s3 : Int) + s4 ≤ (s1 : Int) + s2 := by omega
        go_wp2_with fail
        go_roundw
        case rel => exact ⟨S + 1, by omega, by go_num, by rw [hst2.out], by rw [hst2.out], hA3, hbw3⟩
        case measure => simp [intOf]; omega
    · obtain rfl : M = S := by omega
      obtain ⟨P, hP⟩ : ∃ P, P = mosM al M M := ⟨_, rfl⟩
      rw [← hP] at hmS ⊢
      have hP' := Lib.hid hP
      clear hP
      obtain ⟨p1, p2⟩ := P
      have z3 := Lib.hid (fun (w : World) => size64 (w := w) hmS.1)
      have z4 := Lib.hid (fun (w : World) => size64 (w := w) hmS.2)
      have l1 := Lib.hid (fun (w : World) => list65 (w := w) hmS.1)
      have l2 := Lib.hid (fun (w : World) => list65 (w := w) hmS.2)
      have b3 : szS p1 ≤ 8 := bl_len p1
      have b4 : szS p2 ≤ 8 := bl_len p2
      go_wp2_with fail
      refine (z3.out _).mono ?_
      rintro e w4 ⟨rfl, rfl⟩
      go_wp2_with fail
      refine (z4.out _).mono ?_
      rintro e w4 ⟨rfl, rfl⟩
      go_wp2_with fail
      refine (l1.out _).mono ?_
      rintro e w4 ⟨v1, rfl, hv1, hb4⟩
      have hv1' := Lib.hid hv1
      obtain ⟨ao1, c1, rfl, _⟩ := hv1.1.shape
      have hb4' := Lib.hid (below_call hbw.out hb4)
      have hs4 := hbw.out.size
      clear hv1 hb4
      go_wp2_with fail
      refine (l2.out _).mono ?_
      rintro e w5 ⟨v2, rfl, hv2, hb5⟩
      have hv2' := Lib.hid hv2
      obtain ⟨ao2, c2, rfl, _⟩ := hv2.1.shape
      have hv1b := Lib.hid (show ListAt w5 w.heap.size _ (natI (bl p1)) from ⟨(hv1'.out.1.below hb5).base hs4, hv1'.out.2⟩)
      have hv2b := Lib.hid (show ListAt w5 w.heap.size _ (natI (bl p2)) from ⟨hv2'.out.1.base hb4'.out.size, hv2'.out.2⟩)
      have hb5' := Lib.hid (below_call hb4'.out hb5)
      clear hv2 hb5
      go_wp2_with fail
      refine bodyPost_ret (results_tmp4 rfl _ _ _) rfl ?_
      rw [← hP'.out]
      exact ⟨_, _, rfl, hv1b.out, hv2b.out, hb5'.out⟩
end Go.Proofs.Ytfobdlllghpelaa
