import Derived.Test.YtjkbhdlbomcbeaaNa
import Derived.Test.YtjkbhdlbomcbeaaUs
namespace Go.Proofs.Ytjkbhdlbomcbeaa
open Go.RowKit Go.Shelf Shf

theorem ReadsJ.at' {w : World} {a : Option Addr} {n c : Nat} {js : List J} (h : ReadsJ w (.slice a n c) js) {i : Nat} (hi : i < n) : ∃ g, a = some ⟨g, 0, none⟩ ∧ g < w.heap.size ∧
    w.cell? ⟨g, i * 4, none⟩ = some (.int .i64 (js.getD i J0).f) ∧ w.cell? ⟨g, i * 4 + 1, none⟩ = some (.int .i64 (js.getD i J0).t) ∧ w.cell? ⟨g, i * 4 + 2, none⟩ = some (.int .i64 (js.getD i J0).l) ∧ w.cell? ⟨g, i * 4 + 3, none⟩ = some (.int .i64 (js.getD i J0).p) := by
  obtain ⟨ao, c', e, _, hh⟩ := h.at
  cases e
  exact hh i hi
theorem any_range {s : Sh} (hs : Loose s) {xs : List Int} (hl : xs.length = s.n) (h : Sched s fun i => xs.getD i 0) : xs.any outB = false := by
  rw [List.any_eq_false]
  intro x hx
  obtain ⟨i, hi, rfl⟩ := List.mem_iff_getElem.1 hx
  have h1 := h.range i (by omega)
  have h2 := hs.jobs i (by omega)
  unfold lat at h1
  rw [List.getD_eq_getElem?_getD, List.getElem?_eq_getElem hi] at h1
  simp only [Option.getD_some] at h1
  simp [outB]
  omega
theorem loadOk24 {w : World} {v u : Value} {P : Int} {js : List J} {os : List (Int × Int)} {xs : List Int} (h : ShV w v P js os) (h7 : js.length ≤ 7) (h21 : os.length ≤ 21) (hx : Reads w u xs) (h1 : validB P js os = true) (h2 : xs.length = js.length) (h3 : Sched (shOf P js os) fun i => xs.getD i 0) :
    Calls Try.prog 33 #[v, u] w fun e w' => ∃ a c, e = .returned (.tuple #[.slice a 24 c, .int .i64 0]) ∧ Reads w' (.slice a 24 c) (loadL (shOf P js os) fun i => xs.getD i 0) ∧ Below w.heap.size w w' := by
  refine (loadOk h h7 h21 hx (by omega) h1 h2 (any_range (valid_sh h1).1.loose h2 h3)).mono ?_
  rintro e w' ⟨a, c, rfl, hr, hb⟩
  have hl : (loadL (shOf P js os) fun i => xs.getD i 0).length = 24 := tab_len _ _
  rw [hl] at hr ⊢
  exact ⟨a, c, rfl, hr, hb⟩
/-- What is asked of a list of starts. -/
structure LoadGood (s : Sh) (T : Int) (ys : List Int) : Prop where
  len : ys.length = 24
  sum : sm 24 (fun t => ys.getD t 0) = T
  rng : ∀ t, 0 ≤ ys.getD t 0 ∧ ys.getD t 0 ≤ s.P
  pw : s.P ≤ 20
theorem load_good {s : Sh} (hs : Loose s) {S : Nat → Int} (h : Sched s S) : LoadGood s (sm s.n fun i => (s.job i).l * (s.job i).p) (loadL s S) := by
  refine ⟨tab_len _ _, ?_, fun t => ?_, hs.power.2⟩
  · rw [← load_sum hs h]
    exact sm_congr _ fun t ht => tab_get _ ht
  · by_cases ht : t < 24
    · unfold loadL
      rw [tab_get _ ht]
      exact ⟨sm_nonneg _ fun i hi => act_nonneg (by have := hs.jobs i hi; omega) _ _, h.load _ (by omega) (by omega)⟩
    · rw [List.getD_eq_getElem?_getD, List.getElem?_eq_none (by unfold loadL; rw [tab_len]; omega)]
      have := hs.power
      exact ⟨Int.le_refl _, by simp; omega⟩
theorem prod_in {j : J} (h : 0 ≤ j.f ∧ j.f ≤ 24 ∧ 1 ≤ j.l ∧ j.l ≤ 24 ∧ j.t ≤ 24 ∧ 0 ≤ j.t ∧ 1 ≤ j.p ∧ j.p ≤ 20) : 0 ≤ j.l * j.p ∧ j.l * j.p ≤ 480 := by
  have h1 : j.l * j.p ≤ j.l * 20 := Int.mul_le_mul_of_nonneg_left (by omega) (by omega)
  have h2 : 0 ≤ j.l * j.p := Int.mul_nonneg (by omega) (by omega)
  omega
theorem sm_prod {s : Sh} (hs : Loose s) : ∀ i, i ≤ s.n → 0 ≤ sm i (fun k => (s.job k).l * (s.job k).p) ∧ sm i (fun k => (s.job k).l * (s.job k).p) ≤ i * 480
  | 0, _ => by simp [sm]
  | i + 1, hi => by
    have := sm_prod hs i (by omega)
    have hj := hs.jobs i (by omega)
    have h1 := prod_in hj
    simp only [sm]
    omega
set_option maxHeartbeats 8000000 in
set_option maxRecDepth 100000 in
theorem walk14 {w : World} {v : Value} {p : Nat} {xs : List (Nat × Nat × Nat × Nat)} {bs : List (Nat × Nat)} (h : InWork w v p xs bs) :
    Calls Try.prog 14 #[v] w fun e w' => e = .returned (.bool true) ∧ Below w.heap.size w w' := by
  have hm0 := fun (W : World) (hb : Below w.heap.size w W) => made35 (h.below hb)
  obtain ⟨av, bv, rfl, -, ha, hb, -⟩ := h
  obtain ⟨aa, an, ac, rfl⟩ : ∃ a n c, av = .slice a n c := by obtain ⟨_, a, c, e, _⟩ := ha; exact ⟨_, _, _, e⟩
  obtain ⟨ba, bn, bc, rfl⟩ : ∃ a n c, bv = .slice a n c := by obtain ⟨_, a, c, e, _⟩ := hb; exact ⟨_, _, _, e⟩
  clear ha hb
  have hb0 := Lib.hid (below_alloc1 w (.cells #[.int .u8 (p : Int), .slice aa an ac, .slice ba bn bc] 64))
  have hm := Lib.hid (hm0 _ hb0.out)
  clear hm0
  go_enter Try.func14, Try.ntmps14
  go_upto_region 2 with (go_at_call 35; refine (hm.out).mono ?_; rintro e w1 ⟨P, jv, ov, js, os, rfl, oj, oo, hv, hb1⟩; obtain ⟨ja, jl, jc, rfl, hjl⟩ := own_len oj; obtain ⟨oa, ol, oc, rfl, hol⟩ := own_len oo; have hjl' := Lib.hid hjl; have hv' := Lib.hid hv; clear hjl hol hv)
  obtain ⟨W4, hW4⟩ : ∃ W4, W4 = w1.alloc (Obj.cells #[Value.int IntKind.i64 P, Value.slice ja jl jc, Value.slice oa ol oc] 25) := ⟨_, rfl⟩
  have hT := Lib.hid (show Three W4 w1.heap.size (.int .i64 P) (.slice ja jl jc) (.slice oa ol oc) by rw [hW4]; exact Three.new w1 _ _ _ 25)
  have hz := Lib.hid (show w1.heap.size < W4.heap.size by rw [hW4]; simp)
  have hb1W := (show Below w1.heap.size w1 W4 by rw [hW4]; exact below_alloc1 w1 _)
  have hbW := Lib.hid (below_call (below_call hb0.out hb1) hb1W)
  have hsh := Lib.hid (fun (W : World) (hb : Below W4.heap.size W4 W) => (show ShV W (.agg #[.int .i64 P, .slice ja jl jc, .slice oa ol oc]) P js os from ⟨_, _, rfl, oj.reads.below (below_call hb1W hb), oo.reads.below (below_call hb1W hb)⟩))
  rw [← hW4]
  obtain ⟨⟨y0, y1, y2⟩, -⟩ := hT.out
  clear hW4 hb1 hb1W oj oo
  have hV := Lib.hid (valid_sh hv'.out)
  have h7 := Lib.hid (show js.length ≤ 7 from by have := hV.out.1.loose.num.2; exact Nat.le_succ_of_le this)
  have h21 := Lib.hid (show os.length ≤ 21 from by have := hV.out.1.loose.few; rw [show (shOf P js os).os.length = os.length from List.length_map ..] at this; exact Nat.le_succ_of_le this)
  by_cases hs : ∃ S, Sched (shOf P js os) S
  · have hF := Lib.hid (firstOk (hsh.out W4 (Below.refl _ _)) hv'.out h7.out h21.out hs hjl'.out)
    have hS := Lib.hid (fun (W : World) (hb : Below W4.heap.size W4 W) => shortOk (hsh.out W hb) hv'.out h7.out h21.out hs hjl'.out)
    clear hs
    go_upto_region 6 with (
      first
      | (go_at_call 21; refine (hF.out).mono ?_; rintro e w5 ⟨fa, fc, ls, rfl, hll, hrl, hFl, hb5⟩
         have hb5' := Lib.hid hb5
         have hll' := Lib.hid hll
         have hrl' := Lib.hid hrl
         have hFl' := Lib.hid hFl
         obtain ⟨⟨y0, y1, y2⟩, -⟩ := hT.out.keep hb5'.out hz.out
         have hS5 := Lib.hid (hS.out _ hb5'.out)
         clear hb5 hll hrl hFl)
      | (go_at_call 22; refine (hS5.out).mono ?_; rintro e w6 ⟨ga, gc, ms, m, rfl, hlm, hrm, hme, hFm, hb6⟩
         have hb6' := Lib.hid (below_call hb5'.out hb6)
         have hlm' := Lib.hid hlm
         have hrl6 := Lib.hid (hrl'.out.below hb6)
         have hrm6 := Lib.hid hrm
         have hFm' := Lib.hid hFm
         have hm24 := hme.1
         obtain ⟨⟨y0, y1, y2⟩, -⟩ := hT.out.keep hb6'.out hz.out
         clear hb6 hlm hrm hme hFm))
    have hat := Lib.hid (fun (W : World) (hb : Below W4.heap.size W4 W) (i : Nat) (hi : i < jl) => by
      obtain ⟨jv', ov', e, h1, -⟩ := hsh.out W hb
      cases e
      exact h1.at' hi)
    have hn := Lib.hid (show jl = (shOf P js os).n from hjl'.out)
    obtain ⟨s, hs⟩ : ∃ s, s = shOf P js os := ⟨_, rfl⟩
    have hL := Lib.hid (show Loose s from by rw [hs]; exact hV.out.1.loose)
    obtain ⟨hEm, hEn⟩ := ends_in hV.out.1.loose hFm'.out.is
    have hload := Lib.hid (fun (W : World) (hb : Below W4.heap.size W4 W) (u : Value) (xs : List Int) (h : Reads W u xs) (h2 : xs.length = jl) (h3 : Sched (shOf P js os) fun i => xs.getD i 0) => loadOk24 (hsh.out W hb) h7.out h21.out h hv'.out (h2.trans hjl'.out) h3)
    have hgl := Lib.hid (load_good hV.out.1.loose hFl'.out.is)
    have hgm := Lib.hid (load_good hV.out.1.loose hEm)
    have hlate := Lib.hid (fun (t : Nat) (h : m ≤ t) (h24 : t < 24) => (show (loadL (shOf P js os) fun i => ms.getD i 0).getD t 0 = 0 from by
      unfold loadL; rw [tab_get _ h24]; exact load_late hEn (by omega)))
    have hEm' := Lib.hid hEm
    have hP : P = s.P := by rw [hs]; rfl
    rw [← hs] at hn hgl hgm
    have hT0 := sm_prod hL.out s.n (Nat.le_refl _)
    have h6 := hL.out.num.2
    obtain ⟨T, hTq⟩ : ∃ T, T = sm s.n (fun i => (s.job i).l * (s.job i).p) := ⟨_, rfl⟩
    rw [← hTq] at hgl hgm hT0
    have hTq' := Lib.hid hTq
    have hjob := Lib.hid (show ∀ i, s.job i = js.getD i J0 from fun i => by rw [hs]; rfl)
    rw [← hn.out] at h6 hT0
    have hT0' := Lib.hid hT0
    clear hEm hEn hTq hT0 hP
    have hs' := Lib.hid hs
    clear hs
    go_wp2_with fail
    go_loopw [9, 10] (fun sv iv wr => ∃ i : Nat, i ≤ jl ∧ iv = .int .i64 i ∧ sv = .int .i64 (sm i fun k => (s.job k).l * (s.job k).p) ∧ Hid (Below W4.heap.size W4 wr) ∧ Hid (Below w6.heap.size w6 wr)) (fun _ iv _ => jl - (intOf iv).toNat)
    case atStart => exact ⟨0, Nat.zero_le _, rfl, rfl, hb6', Lib.hid (Below.refl _ _)⟩
    case round =>
      obtain ⟨i, hi, rfl, rfl, hB4, hB6⟩ := hrel
      obtain ⟨wi, rfl⟩ : ∃ wi : World, wi = wr := ⟨_, rfl⟩
      obtain ⟨⟨y0, y1, y2⟩, -⟩ := hT.out.keep hB4.out hz.out
      have hin2 := sm_prod hL.out i (by rw [← hn.out]; exact hi)
      by_cases hin : i < jl
      · obtain ⟨g, rfl, hg, k0, k1, d2, d3⟩ := hat.out wi hB4.out i hin
        have hjb := hL.out.jobs i (by rw [← hn.out]; exact hin)
        have hnx := Lib.hid (show sm (i + 1) (fun k => (s.job k).l * (s.job k).p) = sm i (fun k => (s.job k).l * (s.job k).p) + (s.job i).l * (s.job i).p from rfl)
        obtain ⟨z, hz0⟩ : ∃ z, z = sm i (fun k => (s.job k).l * (s.job k).p) := ⟨_, rfl⟩
        rw [← hz0] at hin2 hnx ⊢
        rw [hjob.out i] at hjb hnx
        obtain ⟨⟨f, tt, l, p⟩, hjq⟩ : ∃ j, j = js.getD i J0 := ⟨_, rfl⟩
        rw [← hjq] at d2 d3 hjb hnx
        have hq0 := prod_in hjb
        simp only at d2 d3 hjb hq0
        obtain ⟨q, hq⟩ : ∃ q, q = l * p := ⟨_, rfl⟩
        rw [← hq] at hq0
        have s1 : IntKind.i64.wrap (l * p) = q := by rw [← hq]; exact IntWalk.i64_in _ (by omega)
        have s2 : IntKind.i64.wrap (z + q) = z + q := IntWalk.i64_in _ (by omega)
        have hv : Hid (sm (i + 1) (fun k => (s.job k).l * (s.job k).p) = z + q) := Lib.hid (by rw [hnx.out, hq])
        have hin' : (i : Int) < (jl : Int) := by omega
        clear hz0 hjq hq k0 k1 hnx hin2
        go_wp2_with fail
        go_quiet (fail)
        go_wp2_with fail
        exact ⟨⟨i + 1, by omega, by go_num, int_eq hv.out.symm, Lib.hid (below_drewN hB4.out _), Lib.hid (below_drewN hB6.out _)⟩, by simp [intOf]; omega⟩
      · obtain rfl : i = jl := by omega
        rw [show (sm i fun k => (s.job k).l * (s.job k).p) = T from by rw [hTq'.out, ← hn.out]]
        have hrl7 := Lib.hid (hrl6.out.below hB6.out)
        have hrm7 := Lib.hid (hrm6.out.below hB6.out)
        clear hin hi hin2
        go_wp2_with fail
        obtain ⟨W7, hW7⟩ : ∃ W7, W7 = wi.alloc (.cells #[.slice fa i fc, .slice ga i gc] 26) := ⟨_, rfl⟩
        obtain ⟨g7, hg7⟩ : ∃ g7, g7 = wi.heap.size := ⟨_, rfl⟩
        have hb7 := Lib.hid (show Below wi.heap.size wi W7 by rw [hW7]; exact below_alloc1 wi _)
        have hb47 := Lib.hid (below_call hB4.out hb7.out)
        have hz7 := Lib.hid (show g7 < W7.heap.size by rw [hW7, hg7]; simp)
        have hc7 := Lib.hid (show W7.cell? ⟨g7, 0, none⟩ = some (.slice fa i fc) ∧ W7.cell? ⟨g7, 1, none⟩ = some (.slice ga i gc) by rw [hW7, hg7]; constructor <;> simp)
        have hsel := Lib.hid (show ∀ k, k < 2 → ∃ ka kc, ∃ ks : List Int, W7.cell? ⟨g7, k, none⟩ = some (.slice ka i kc) ∧ Reads W7 (.slice ka i kc) ks ∧ ks.length = i ∧ (Sched (shOf P js os) fun i => ks.getD i 0) ∧ LoadGood s T (loadL (shOf P js os) fun i => ks.getD i 0) ∧ (sameL ks ms = true → ∀ t, m ≤ t → t < 24 → (loadL (shOf P js os) fun i => ks.getD i 0).getD t 0 = 0) from by
          intro k hk
          have hk2 : k = 0 ∨ k = 1 := by omega
          rcases hk2 with rfl | rfl
          · exact ⟨fa, fc, ls, hc7.out.1, hrl7.out.below hb7.out, hll'.out, hFl'.out.is, by rw [← hs'.out]; exact hgl.out, fun he => by
              have : ls = ms := by simpa [sameL] using he
              rw [this]; exact hlate.out⟩
          · exact ⟨ga, gc, ms, hc7.out.2, hrm7.out.below hb7.out, hlm'.out, hEm'.out, by rw [← hs'.out]; exact hgm.out, fun _ => hlate.out⟩)
        have hrm8 := Lib.hid (hrm7.out.below hb7.out)
        rw [← hW7, ← hg7]
        clear hW7 hg7 hB6 hrl7 hrm7 hc7 hgl hgm hlate hEm' hFl' hFm'
        go_loopw [67] (fun kv wr => ∃ k : Nat, k ≤ 2 ∧ kv = .int .i64 k ∧ Hid (Below W7.heap.size W7 wr)) (fun kv _ => 2 - (intOf kv).toNat)
        case atStart => exact ⟨0, Nat.zero_le _, rfl, Lib.hid (Below.refl _ _)⟩
        case round =>
          obtain ⟨k, hk, rfl, hB7⟩ := hrel
          obtain ⟨wk, rfl⟩ : ∃ wk : World, wk = wr := ⟨_, rfl⟩
          by_cases hk2 : k < 2
          · obtain ⟨ka, kc, ks, hcell, hrk, hkl, hkS, hkG, hkL⟩ := hsel.out k hk2
            have hcell' := (hB7.out.cell (p := ⟨g7, k, none⟩) hz7.out).trans hcell
            have hb4k := Lib.hid (below_call hb47.out hB7.out)
            obtain ⟨⟨y0, y1, y2⟩, -⟩ := hT.out.keep hb4k.out hz.out
            have hrk' := Lib.hid (hrk.below hB7.out)
            have hcall := Lib.hid (hload.out wk hb4k.out _ ks hrk'.out hkl hkS)
            obtain ⟨ys, hys⟩ : ∃ ys, ys = (loadL (shOf P js os) fun i => ks.getD i 0) := ⟨_, rfl⟩
            rw [← hys] at hkG hkL hcall
            have hkG' := Lib.hid hkG
            have hkL' := Lib.hid hkL
            have hkl' := Lib.hid hkl
            have hkb : (k : Int) < 2 := by omega
            clear hkG hkL hcell hrk hkS hys hkl
            go_wp2_with (
              go_at_call 33; refine hcall.out.mono ?_; rintro e w8 ⟨pa, pc, rfl, hrp, hb8⟩
              have hb8' := Lib.hid hb8
              have hrp' := Lib.hid hrp
              clear hb8 hrp)
            have hb48 := Lib.hid (below_call hb4k.out hb8'.out)
            have hB78 := Lib.hid (below_call hB7.out hb8'.out)
            go_loopw [15, 16] (fun sv tv wr => ∃ t : Nat, t ≤ 24 ∧ tv = .int .i64 t ∧ sv = .int .i64 (sm t fun t => ys.getD t 0) ∧ Hid (Below w8.heap.size w8 wr)) (fun _ tv _ => 24 - (intOf tv).toNat)
            case atStart => exact ⟨0, Nat.zero_le _, rfl, rfl, Lib.hid (Below.refl _ _)⟩
            case round =>
              obtain ⟨t, ht, rfl, rfl, hB8⟩ := hrel
              obtain ⟨wt, rfl⟩ : ∃ wt : World, wt = wr := ⟨_, rfl⟩
              have hb4t := Lib.hid (below_call hb48.out hB8.out)
              obtain ⟨⟨y0, y1, y2⟩, -⟩ := hT.out.keep hb4t.out hz.out
              have hP : s.P = P := by rw [hs'.out]; rfl
              have hin2 := sm_bound (b := 20) (by omega) t (f := fun t => ys.getD t 0) (fun i _ => by have := hkG'.out.rng i; have := hkG'.out.pw; omega)
              by_cases ht2 : t < 24
              · have hy0 := hkG'.out.rng t
                have hpw := hkG'.out.pw
                have hyl := Lib.hid (hkL'.out)
                rw [hP] at hy0 hpw
                obtain ⟨g, o, rfl, hg, hcl⟩ := hrp'.out.at hkG'.out.len (k := t) ht2
                have c0 := (hB8.out.cell (p := ⟨g, o + t, none⟩) hg).trans (hcl t ht2)
                have hnx := Lib.hid (show sm (t + 1) (fun t => ys.getD t 0) = sm t (fun t => ys.getD t 0) + ys.getD t 0 from rfl)
                have hq : sameL ks ms = true → m ≤ t → ys.getD t 0 = 0 := fun h1 h2 => hyl.out h1 t h2 ht2
                obtain ⟨z, hz0⟩ : ∃ z, z = sm t (fun t => ys.getD t 0) := ⟨_, rfl⟩
                rw [← hz0] at hin2 hnx ⊢
                obtain ⟨y, hy⟩ : ∃ y, y = ys.getD t 0 := ⟨_, rfl⟩
                rw [← hy] at c0 hy0 hnx hq
                have hlt : (t : Int) < 24 := by omega
                have d1 : decide (P < y) = false := by simp; omega
                have hsame := Lib.hid (fun (W : World) (hb : Below wt.heap.size wt W) => same25 (w := W) (xs := ks) (ys := ms) ((hrk'.out.below (below_call hb8'.out hB8.out)).below hb) ((hrm8.out.below (below_call hB78.out hB8.out)).below hb) (by rw [hkl'.out]; omega))
                have hq' := Lib.hid hq
                clear hcl hy hz0 hP hq hyl
                by_cases e1 : (m : Int) ≤ (t : Int)
                · by_cases e2 : 0 < y
                  · have d2 : decide (0 < y) = true := by simpa using e2
                    have d3 : sameL ks ms = false := by
                      cases h : sameL ks ms with
                      | false => rfl
                      | true => exact absurd (hq'.out h (by omega)) (by omega)
                    rw [d3] at hsame
                    have d4 : decide (m ≤ t) = true := by simp; omega
                    go_wp2_with fail
                    refine wp_region_still_tail 21 (by kernel_rfl) (by kernel_rfl) ?_
                    simp only [List.take_succ_cons, List.take_zero, List.drop_succ_cons, List.drop_zero]
                    iterate 21 still_step
                    refine wpStill_nil ?_
                    have hc2 := Lib.hid (hsame.out wt.drew (Below.refl _ _).drew)
                    go_wp2_with (
                      go_at_call 25; refine hc2.out.mono ?_; rintro e w9 ⟨rfl, hb9⟩
                      have hB9 := Lib.hid (below_call hB8.out.drew hb9)
                      clear hb9)
                    exact ⟨⟨t + 1, by omega, by go_num, int_eq hnx.out.symm, hB9⟩, by simp [intOf]; omega⟩
                  · have d2 : decide (0 < y) = false := by simpa using e2
                    have d4 : decide (m ≤ t) = true := by simp; omega
                    go_wp2_with fail
                    go_quiet (fail)
                    go_wp2_with fail
                    exact ⟨⟨t + 1, by omega, by go_num, int_eq hnx.out.symm, Lib.hid (below_drewN hB8.out _)⟩, by simp [intOf]; omega⟩
                · have d4 : decide (m ≤ t) = false := by simp; omega
                  go_wp2_with fail
                  go_quiet (fail)
                  go_wp2_with fail
                  exact ⟨⟨t + 1, by omega, by go_num, int_eq hnx.out.symm, Lib.hid (below_drewN hB8.out _)⟩, by simp [intOf]; omega⟩
              · obtain rfl : t = 24 := by omega
                rw [hkG'.out.sum]
                have hTn : ¬ (T ≠ T) := fun h => h rfl
                have hB9 := Lib.hid (below_call hB78.out hB8.out)
                go_wp2_with fail
                exact ⟨⟨k + 1, by omega, by go_num, hB9⟩, by simp [intOf]; omega⟩
          · obtain rfl : k = 2 := by omega
            have hLv := Lib.hid (lives18 (w := wk))
            go_wp2_with (
              go_at_call 18; refine hLv.out.mono ?_; rintro e w9 ⟨rfl, hb9⟩
              have hb9' := Lib.hid (below_call hbW.out (below_call (below_call hb47.out hB7.out) hb9))
              clear hb9)
            go_ret
            exact ⟨rfl, hb9'.out⟩
  · have hF := Lib.hid (firstNo (hsh.out W4 (Below.refl _ _)) hv'.out h7.out h21.out hs)
    have hS := Lib.hid (fun (W : World) (hb : Below W4.heap.size W4 W) => shortNo (hsh.out W hb) hv'.out h7.out h21.out hs)
    clear hs
    go_wp2_with (
      first
      | (go_at_call 21; refine (hF.out).mono ?_; rintro e w5 ⟨fa, fc, rfl, hb5⟩
         have hb5' := Lib.hid hb5
         obtain ⟨⟨y0, y1, y2⟩, -⟩ := hT.out.keep hb5'.out hz.out
         have hS5 := Lib.hid (hS.out _ hb5'.out)
         clear hb5)
      | (go_at_call 22; refine (hS5.out).mono ?_; rintro e w6 ⟨ga, gc, rfl, hb6⟩
         have hb6' := Lib.hid (below_call hb5'.out hb6)
         have hL := Lib.hid (lives18 (w := w6))
         clear hb6)
      | (go_at_call 18; refine (hL.out).mono ?_; rintro e w9 ⟨rfl, hb9⟩
         have hb9' := Lib.hid (below_call hb6'.out hb9)
         clear hb9))
    go_ret
    exact ⟨rfl, below_call hbW.out hb9'.out⟩
end Go.Proofs.Ytjkbhdlbomcbeaa
