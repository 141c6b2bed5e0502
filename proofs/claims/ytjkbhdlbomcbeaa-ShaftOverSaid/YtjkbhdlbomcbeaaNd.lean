import Derived.Test.YtjkbhdlbomcbeaaNc
namespace Go.Proofs.Ytjkbhdlbomcbeaa
open Go.RowKit Go.Shelf Shf

set_option maxHeartbeats 8000000 in
set_option maxRecDepth 100000 in
theorem walk11 {w : World} {v : Value} {p : Nat} {xs : List (Nat × Nat × Nat × Nat)} {bs : List (Nat × Nat)} (h : InWork w v p xs bs) {a b : Nat} (ha0 : (Lit.int .u8 (a : Int)).wf = true) (hb00 : (Lit.int .u8 (b : Int)).wf = true) :
    Calls Try.prog 11 #[v, .int .u8 (a : Int), .int .u8 (b : Int)] w fun e w' => e = .returned (.bool true) ∧ Below w.heap.size w w' := by
  have hm0 := fun (W : World) (hb : Below w.heap.size w W) => made35 (h.below hb)
  obtain ⟨av, bv, rfl, -, ha, hb, -⟩ := h
  obtain ⟨aa, an, ac, rfl⟩ : ∃ a n c, av = .slice a n c := by obtain ⟨_, a, c, e, _⟩ := ha; exact ⟨_, _, _, e⟩
  obtain ⟨ba, bn, bc, rfl⟩ : ∃ a n c, bv = .slice a n c := by obtain ⟨_, a, c, e, _⟩ := hb; exact ⟨_, _, _, e⟩
  clear ha hb
  have hb0 := Lib.hid (below_alloc1 w (.cells #[.int .u8 (p : Int), .slice aa an ac, .slice ba bn bc] 64))
  have hm := Lib.hid (hm0 _ hb0.out)
  clear hm0
  go_enter Try.func11, Try.ntmps11
  go_upto_region 2 with (go_at_call 35; refine (hm.out).mono ?_; rintro e w1 ⟨P, jv, ov, js, os, rfl, oj, oo, hv, hb1⟩; obtain ⟨ja, jl, jc, rfl, hjl⟩ := own_len oj; obtain ⟨oa, ol, oc, rfl, hol⟩ := own_len oo; have hjl' := Lib.hid hjl; have hol' := Lib.hid hol; have hv' := Lib.hid hv; clear hjl hol hv)
  obtain ⟨W4, hW4⟩ : ∃ W4, W4 = w1.alloc (Obj.cells #[Value.int IntKind.i64 P, Value.slice ja jl jc, Value.slice oa ol oc] 25) := ⟨_, rfl⟩
  have hT := Lib.hid (show Three W4 w1.heap.size (.int .i64 P) (.slice ja jl jc) (.slice oa ol oc) by rw [hW4]; exact Three.new w1 _ _ _ 25)
  have hz := Lib.hid (show w1.heap.size < W4.heap.size by rw [hW4]; simp)
  have hb1W := (show Below w1.heap.size w1 W4 by rw [hW4]; exact below_alloc1 w1 _)
  have hbW := Lib.hid (below_call (below_call hb0.out hb1) hb1W)
  have hsh := Lib.hid (fun (W : World) (hb : Below W4.heap.size W4 W) => (show ShV W (.agg #[.int .i64 P, .slice ja jl jc, .slice oa ol oc]) P js os from ⟨_, _, rfl, oj.reads.below (below_call hb1W hb), oo.reads.below (below_call hb1W hb)⟩))
  rw [← hW4]
  obtain ⟨⟨y0, y1, y2⟩, -⟩ := hT.out
  clear hW4 hb1 hb1W oj oo
  have hV := Lib.hid (valid_sh hv'.out)
  have h7 := Lib.hid (show js.length ≤ 7 from by have := hV.out.1.loose.num.2; exact Nat.le_succ_of_le this)
  have h21 := Lib.hid (show os.length ≤ 21 from by have := hV.out.1.loose.few; rw [show (shOf P js os).os.length = os.length from List.length_map ..] at this; exact Nat.le_succ_of_le this)
  have ha2 := bounds_u8 ha0
  have hb2 := bounds_u8 hb00
  obtain ⟨F, hF0⟩ : ∃ F : Nat, F = a % 24 := ⟨_, rfl⟩
  obtain ⟨G, hG0⟩ : ∃ G : Nat, G = b % (24 - F) := ⟨_, rfl⟩
  have hF1 : F < 24 := by omega
  have hG1 : G < 24 - F := by rw [hG0]; exact Nat.mod_lt _ (by omega)
  have e1 : (a : Int) % 24 = (F : Int) := by omega
  have e2 : (b : Int) % (24 - (F : Int)) = (G : Int) := by rw [hG0, show (24 : Int) - (F : Int) = ((24 - F : Nat) : Int) from by omega]; rfl
  have e1' := Lib.hid e1
  have e2' := Lib.hid e2
  clear hF0 hG0
  by_cases hs : ∃ S, Sched (shOf P js os) S
  · have hFi := Lib.hid (firstOk (hsh.out W4 (Below.refl _ _)) hv'.out h7.out h21.out hs hjl'.out)
    have hO := Lib.hid (fun (W : World) (hb : Below W4.heap.size W4 W) => over26' (hsh.out W hb) h7.out h21.out (f := 0) (t := 0) (err := 5) (.inr ⟨hv'.out, .inl ⟨not_over hV.out.1.loose hs, rfl, rfl, rfl⟩⟩))
    clear hs
    go_upto_region 5 with (
      first
      | (go_at_call 21; refine (hFi.out).mono ?_; rintro e w5 ⟨fa, fc, ls, rfl, hll, hrl, hFl, hb5⟩
         have hb5' := Lib.hid hb5
         have hll' := Lib.hid hll
         have hrl' := Lib.hid hrl
         have hFl' := Lib.hid hFl
         obtain ⟨⟨y0, y1, y2⟩, -⟩ := hT.out.keep hb5'.out hz.out
         have hO5 := Lib.hid (hO.out _ hb5'.out)
         clear hb5 hll hrl hFl)
      | (go_at_call 26; refine (hO5.out).mono ?_; rintro e w6 ⟨rfl, hb6⟩
         have hb6' := Lib.hid (below_call hb5'.out hb6)
         obtain ⟨⟨y0, y1, y2⟩, -⟩ := hT.out.keep hb6'.out hz.out
         have hrl6 := Lib.hid (hrl'.out.below hb6)
         clear hb6))
    obtain ⟨N, hN0⟩ : ∃ N, N = needS js (F : Int) ((F : Int) + 1 + (G : Int)) js.length := ⟨_, rfl⟩
    have hN6 := Lib.hid (needs27 (hsh.out w6 hb6'.out) h7.out h21.out (F : Int) ((F : Int) + 1 + (G : Int)) (n := N) (err := 0) (.inr ⟨hv'.out, .inr ⟨intB_iff.2 (by omega), hN0, rfl⟩⟩))
    have hload := Lib.hid (fun (W : World) (hb : Below w6.heap.size w6 W) => loadOk24 (hsh.out W (below_call hb6'.out hb)) h7.out h21.out (hrl6.out.below hb) hv'.out (hll'.out.trans hjl'.out) hFl'.out.is)
    have hgood := Lib.hid (load_good hV.out.1.loose hFl'.out.is)
    have hfin := Lib.hid (show N ≤ sm (F + 1 + G) (fun t => loadAt (shOf P js os) (fun i => ls.getD i 0) (t : Int)) - sm F (fun t => loadAt (shOf P js os) (fun i => ls.getD i 0) (t : Int)) from by
      rw [hN0]
      exact needs_le hV.out.1.loose hFl'.out.is (a := F) (b := F + 1 + G) (by omega))
    obtain ⟨ys, hys⟩ : ∃ ys, ys = loadL (shOf P js os) fun i => ls.getD i 0 := ⟨_, rfl⟩
    have hyt : ∀ n, n ≤ 24 → sm n (fun t => loadAt (shOf P js os) (fun i => ls.getD i 0) (t : Int)) = sm n (fun t => ys.getD t 0) := fun n hn => sm_congr _ fun i hi => by
      rw [hys]; unfold loadL; rw [tab_get _ (by omega)]
    rw [← hys] at hload hgood
    have hfin2 := Lib.hid (show N ≤ sm (F + 1 + G) (fun t => ys.getD t 0) - sm F (fun t => ys.getD t 0) from by rw [← hyt _ (by omega), ← hyt _ (by omega)]; exact hfin.out)
    clear hN0 hfin hyt hys
    go_wp2_with (
      first
      | (go_at_call 27; refine (hN6.out).mono ?_; rintro e w7 ⟨rfl, hb7⟩
         have hb7' := Lib.hid (below_call hb6'.out hb7)
         obtain ⟨⟨y0, y1, y2⟩, -⟩ := hT.out.keep hb7'.out hz.out
         have hLv := Lib.hid (lives18 (w := w7))
         have hbw7 := Lib.hid hb7
         clear hb7)
      | (go_at_call 18; refine (hLv.out).mono ?_; rintro e w8 ⟨rfl, hb8⟩
         have hb8' := Lib.hid (below_call hb7'.out hb8)
         obtain ⟨⟨y0, y1, y2⟩, -⟩ := hT.out.keep hb8'.out hz.out
         have hload8 := Lib.hid (hload.out _ (below_call hbw7.out hb8))
         clear hb8)
      | (go_at_call 33; refine hload8.out.mono ?_; rintro e w9 ⟨pa, pc, rfl, hrp, hb9⟩
         have hb9' := Lib.hid (below_call hb8'.out hb9)
         have hrp' := Lib.hid hrp
         clear hb9 hrp))

    obtain ⟨TT, hTT⟩ : ∃ TT, TT = F + 1 + G := ⟨_, rfl⟩
    rw [show (F : Int) + 1 + (G : Int) = (TT : Int) from by omega]
    rw [← hTT] at hfin2
    have h24 : TT ≤ 24 := by omega
    have hFT : F ≤ TT := by omega
    have hP := Lib.hid (show (shOf P js os).P = P from rfl)
    clear hTT e1 e2 hG1
    go_loopw [19, 20] (fun sv tv wr => ∃ t : Nat, F ≤ t ∧ t ≤ TT ∧ tv = .int .i64 t ∧ sv = .int .i64 (sm t (fun t => ys.getD t 0) - sm F (fun t => ys.getD t 0)) ∧ Hid (Below w9.heap.size w9 wr)) (fun _ tv _ => TT - (intOf tv).toNat)
    case atStart => exact ⟨F, Nat.le_refl _, hFT, rfl, int_eq (by omega), Lib.hid (Below.refl _ _)⟩
    case round =>
      obtain ⟨t, hFt, ht, rfl, rfl, hB9⟩ := hrel
      obtain ⟨wt, rfl⟩ : ∃ wt : World, wt = wr := ⟨_, rfl⟩
      have hin2 := sm_bound (b := 20) (by omega) t (f := fun t => ys.getD t 0) (fun i _ => by have := hgood.out.rng i; have := hgood.out.pw; omega)
      have hin3 := sm_bound (b := 20) (by omega) F (f := fun t => ys.getD t 0) (fun i _ => by have := hgood.out.rng i; have := hgood.out.pw; omega)
      have hnx := Lib.hid (show sm (t + 1) (fun t => ys.getD t 0) = sm t (fun t => ys.getD t 0) + ys.getD t 0 from rfl)
      obtain ⟨z, hz0⟩ : ∃ z, z = sm t (fun t => ys.getD t 0) := ⟨_, rfl⟩
      obtain ⟨z1, hz1⟩ : ∃ z, z = sm F (fun t => ys.getD t 0) := ⟨_, rfl⟩
      by_cases ht2 : t < TT
      · have hy0 := hgood.out.rng t
        have hpw := hgood.out.pw
        obtain ⟨g, o, rfl, hg, hcl⟩ := hrp'.out.at hgood.out.len (k := t) (by omega)
        have c0 := (hB9.out.cell (p := ⟨g, o + t, none⟩) hg).trans (hcl t (by omega))
        rw [← hz0] at hin2 hnx ⊢
        rw [← hz1] at hin3 ⊢
        obtain ⟨y, hy⟩ : ∃ y, y = ys.getD t 0 := ⟨_, rfl⟩
        rw [← hy] at c0 hy0 hnx
        rw [hP.out] at hpw hy0
        have hlt : (t : Int) < (TT : Int) := by omega
        have s1 : IntKind.i64.wrap (z - z1 + y) = z - z1 + y := IntWalk.i64_in _ (by omega)
        have hz1' := Lib.hid hz1
        clear hcl hy hz0 hz1
        go_wp2_with fail
        exact ⟨⟨t + 1, by omega, by omega, by go_num, int_eq (by rw [hnx.out]; omega), hB9⟩, by simp [intOf]; omega⟩
      · obtain rfl : t = TT := by omega
        rw [← hz0] at hin2 ⊢
        rw [← hz1] at hin3 ⊢
        have hle : N ≤ z - z1 := by have := hfin2.out; rw [← hz0, ← hz1] at this; exact this
        have hled : decide (N ≤ z - z1) = true := by simpa using hle
        clear hz0 hz1
        go_wp2_with fail
        go_ret
        exact ⟨rfl, below_call hbW.out (below_call hb9'.out hB9.out)⟩
  · have hFi := Lib.hid (firstNo (hsh.out W4 (Below.refl _ _)) hv'.out h7.out h21.out hs)
    rcases over_some P js with ⟨f, t, ho⟩ | ho
    · have hO := Lib.hid (fun (W : World) (hb : Below W4.heap.size W4 W) => over26' (hsh.out W hb) h7.out h21.out (f := f) (t := t) (err := 0) (.inr ⟨hv'.out, .inr ⟨ho, rfl⟩⟩))
      have hN := Lib.hid (fun (W : World) (hb : Below W4.heap.size W4 W) => needs27 (hsh.out W hb) h7.out h21.out (F : Int) ((F : Int) + 1 + (G : Int)) (n := needS js (F : Int) ((F : Int) + 1 + (G : Int)) js.length) (err := 0) (.inr ⟨hv'.out, .inr ⟨intB_iff.2 (by omega), rfl, rfl⟩⟩))
      clear hs ho
      go_wp2_with (
        first
        | (go_at_call 21; refine (hFi.out).mono ?_; rintro e w5 ⟨fa, fc, rfl, hb5⟩
           have hb5' := Lib.hid hb5
           obtain ⟨⟨y0, y1, y2⟩, -⟩ := hT.out.keep hb5'.out hz.out
           have hO5 := Lib.hid (hO.out _ hb5'.out)
           clear hb5)
        | (go_at_call 26; refine (hO5.out).mono ?_; rintro e w6 ⟨rfl, hb6⟩
           have hb6' := Lib.hid (below_call hb5'.out hb6)
           obtain ⟨⟨y0, y1, y2⟩, -⟩ := hT.out.keep hb6'.out hz.out
           have hN6 := Lib.hid (hN.out _ hb6'.out)
           clear hb6)
        | (go_at_call 27; refine (hN6.out).mono ?_; rintro e w7 ⟨rfl, hb7⟩
           have hb7' := Lib.hid (below_call hb6'.out hb7)
           obtain ⟨⟨y0, y1, y2⟩, -⟩ := hT.out.keep hb7'.out hz.out
           have hLv := Lib.hid (lives18 (w := w7))
           clear hb7)
        | (go_at_call 18; refine (hLv.out).mono ?_; rintro e w8 ⟨rfl, hb8⟩
           have hb8' := Lib.hid (below_call hb7'.out hb8)
           obtain ⟨⟨y0, y1, y2⟩, -⟩ := hT.out.keep hb8'.out hz.out
           clear hb8))
      go_ret
      exact ⟨rfl, below_call hbW.out hb8'.out⟩
    · have hO := Lib.hid (fun (W : World) (hb : Below W4.heap.size W4 W) => over26' (hsh.out W hb) h7.out h21.out (f := 0) (t := 0) (err := 5) (.inr ⟨hv'.out, .inl ⟨ho, rfl, rfl, rfl⟩⟩))
      have hN := Lib.hid (fun (W : World) (hb : Below W4.heap.size W4 W) => needs27 (hsh.out W hb) h7.out h21.out (F : Int) ((F : Int) + 1 + (G : Int)) (n := needS js (F : Int) ((F : Int) + 1 + (G : Int)) js.length) (err := 0) (.inr ⟨hv'.out, .inr ⟨intB_iff.2 (by omega), rfl, rfl⟩⟩))
      clear hs ho
      go_wp2_with (
        first
        | (go_at_call 21; refine (hFi.out).mono ?_; rintro e w5 ⟨fa, fc, rfl, hb5⟩
           have hb5' := Lib.hid hb5
           obtain ⟨⟨y0, y1, y2⟩, -⟩ := hT.out.keep hb5'.out hz.out
           have hO5 := Lib.hid (hO.out _ hb5'.out)
           clear hb5)
        | (go_at_call 26; refine (hO5.out).mono ?_; rintro e w6 ⟨rfl, hb6⟩
           have hb6' := Lib.hid (below_call hb5'.out hb6)
           obtain ⟨⟨y0, y1, y2⟩, -⟩ := hT.out.keep hb6'.out hz.out
           have hN6 := Lib.hid (hN.out _ hb6'.out)
           clear hb6)
        | (go_at_call 27; refine (hN6.out).mono ?_; rintro e w7 ⟨rfl, hb7⟩
           have hb7' := Lib.hid (below_call hb6'.out hb7)
           obtain ⟨⟨y0, y1, y2⟩, -⟩ := hT.out.keep hb7'.out hz.out
           have hLv := Lib.hid (lives18 (w := w7))
           clear hb7)
        | (go_at_call 18; refine (hLv.out).mono ?_; rintro e w8 ⟨rfl, hb8⟩
           have hb8' := Lib.hid (below_call hb7'.out hb8)
           obtain ⟨⟨y0, y1, y2⟩, -⟩ := hT.out.keep hb8'.out hz.out
           clear hb8))
      go_ret
      exact ⟨rfl, below_call hbW.out hb8'.out⟩
theorem walk11i {w : World} {v : Value} {p : Nat} {xs : List (Nat × Nat × Nat × Nat)} {bs : List (Nat × Nat)} (h : InWork w v p xs bs) {a b : Int} (ha : (Lit.int .u8 a).wf = true) (hb : (Lit.int .u8 b).wf = true) :
    Calls Try.prog 11 #[v, .int .u8 a, .int .u8 b] w fun e w' => e = .returned (.bool true) ∧ Below w.heap.size w w' := by
  have h1 := bounds_u8 ha
  have h2 := bounds_u8 hb
  obtain ⟨x, rfl⟩ : ∃ x : Nat, a = x := ⟨a.toNat, by omega⟩
  obtain ⟨y, rfl⟩ : ∃ x : Nat, b = x := ⟨b.toNat, by omega⟩
  exact walk11 h ha hb
end Go.Proofs.Ytjkbhdlbomcbeaa
