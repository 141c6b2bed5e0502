import Derived.Test.YtjkbhdlbomcbeaaNe
import Derived.Test.YtjkbhdlbomcbeaaYf
import Derived.Test.YtjkbhdlbomcbeaaZa
namespace Go.Proofs.Ytjkbhdlbomcbeaa
open Go.RowKit Go.Shelf Shf

theorem first_differs {s : Sh} {L S : Nat → Int} (h : First s L) (hS : Sched s S) {i : Nat} (hi : i < s.n) (he : ∀ k, k < i → L k = S k) (hd : L i ≠ S i) : L i < S i := by
  rcases h.least S hS with e | ⟨j, hj, e1, e2⟩
  · exact absurd (e i hi) hd
  · rcases Nat.lt_trichotomy i j with g | g | g
    · exact absurd (e1 i g) hd
    · subst g; exact e2
    · have := he j g; omega
theorem app_rng {zs : List Int} {y : Int} (h : ∀ k, 0 ≤ zs.getD k 0 ∧ zs.getD k 0 ≤ 24) (hy : 0 ≤ y ∧ y ≤ 24) (k : Nat) : 0 ≤ (zs ++ [y]).getD k 0 ∧ (zs ++ [y]).getD k 0 ≤ 24 := by
  have hk := h k
  rw [List.getD_eq_getElem?_getD] at hk ⊢
  rcases Nat.lt_trichotomy k zs.length with g | g | g
  · rw [List.getElem?_append_left g]; exact hk
  · subst g; rw [List.getElem?_concat_length]; exact hy
  · rw [List.getElem?_eq_none (by simp; omega)]; simp
theorem sched_rng {P : Int} {js : List J} {os : List (Int × Int)} {xs : List Int} (hs : Loose (shOf P js os)) (h : Sched (shOf P js os) fun i => xs.getD i 0) : ∀ i, i < js.length → (0 ≤ xs.getD i 0 ∧ xs.getD i 0 ≤ 24) ∧ 0 ≤ (js.getD i J0).l ∧ (js.getD i J0).l ≤ 24 := fun i hi => by
  have h1 := h.range i hi
  have h2 := hs.jobs i hi
  unfold lat at h1
  rw [show (shOf P js os).job i = js.getD i J0 from rfl] at h1 h2
  omega
theorem any_sched (s : Sh) (S : Nat → Int) : ∃ d : Bool, d = true ↔ Sched s S := by classical exact ⟨decide (Sched s S), by simp⟩
set_option maxHeartbeats 8000000 in
set_option maxRecDepth 100000 in
theorem walk9 {w : World} {v : Value} {p : Nat} {xs : List (Nat × Nat × Nat × Nat)} {bs : List (Nat × Nat)} (h : InWork w v p xs bs) {u : Value} {ys : List Nat} (hy : InU8 w u ys) :
    Calls Try.prog 9 #[v, u] w fun e w' => e = .returned (.bool true) ∧ Below w.heap.size w w' := by
  obtain ⟨⟨ua, uc, rfl, huc, hum, huat⟩, hub⟩ := hy
  obtain ⟨yn, hyn⟩ : ∃ n, n = ys.length := ⟨_, rfl⟩
  rw [← hyn] at huc hum huat ⊢
  have huat' := Lib.hid huat
  have hub' := Lib.hid hub
  have hyn' := Lib.hid hyn
  clear huat hub hyn
  have hm0 := fun (W : World) (hb : Below w.heap.size w W) => made35 (h.below hb)
  obtain ⟨av, bv, rfl, -, ha, hb, -⟩ := h
  obtain ⟨aa, an, ac, rfl⟩ : ∃ a n c, av = .slice a n c := by obtain ⟨_, a, c, e, _⟩ := ha; exact ⟨_, _, _, e⟩
  obtain ⟨ba, bn, bc, rfl⟩ : ∃ a n c, bv = .slice a n c := by obtain ⟨_, a, c, e, _⟩ := hb; exact ⟨_, _, _, e⟩
  clear ha hb
  have hb0 := Lib.hid (below_alloc1 w (.cells #[.int .u8 (p : Int), .slice aa an ac, .slice ba bn bc] 64))
  have hm := Lib.hid (hm0 _ hb0.out)
  clear hm0
  go_enter Try.func9, Try.ntmps9
  go_upto_region 2 with (go_at_call 35; refine (hm.out).mono ?_; rintro e w1 ⟨P, jv, ov, js, os, rfl, oj, oo, hv, hb1⟩; obtain ⟨ja, jl, jc, rfl, hjl⟩ := own_len oj; obtain ⟨oa, ol, oc, rfl, hol⟩ := own_len oo; have hjl' := Lib.hid hjl; have hol' := Lib.hid hol; have hv' := Lib.hid hv; clear hjl hol hv)
  obtain ⟨W4, hW4⟩ : ∃ W4, W4 = w1.alloc (Obj.cells #[Value.int IntKind.i64 P, Value.slice ja jl jc, Value.slice oa ol oc] 25) := ⟨_, rfl⟩
  have hT := Lib.hid (show Three W4 w1.heap.size (.int .i64 P) (.slice ja jl jc) (.slice oa ol oc) by rw [hW4]; exact Three.new w1 _ _ _ 25)
  have hz := Lib.hid (show w1.heap.size < W4.heap.size by rw [hW4]; simp)
  have hb1W := (show Below w1.heap.size w1 W4 by rw [hW4]; exact below_alloc1 w1 _)
  have hbW := Lib.hid (below_call (below_call hb0.out hb1) hb1W)
  have hsh := Lib.hid (fun (W : World) (hb : Below W4.heap.size W4 W) => (show ShV W (.agg #[.int .i64 P, .slice ja jl jc, .slice oa ol oc]) P js os from ⟨_, _, rfl, oj.reads.below (below_call hb1W hb), oo.reads.below (below_call hb1W hb)⟩))
  rw [← hW4]
  obtain ⟨⟨y0, y1, y2⟩, -⟩ := hT.out
  clear hW4 hb1 hb1W oj oo
  have hV := Lib.hid (valid_sh hv'.out)
  have h7 := Lib.hid (show js.length ≤ 7 from by have := hV.out.1.loose.num.2; exact Nat.le_succ_of_le this)
  have h21 := Lib.hid (show os.length ≤ 21 from by have := hV.out.1.loose.few; rw [show (shOf P js os).os.length = os.length from List.length_map ..] at this; exact Nat.le_succ_of_le this)
  have hat := Lib.hid (fun (W : World) (hb : Below W4.heap.size W4 W) (i : Nat) (hi : i < jl) => by
    obtain ⟨jv', ov', e, h1, -⟩ := hsh.out W hb
    cases e
    exact h1.at' hi)
  have hjb := Lib.hid (fun (i : Nat) (hi : i < jl) => (show JobIn (js.getD i J0) ∧ (js.getD i J0).f + (js.getD i J0).l ≤ (js.getD i J0).t from ⟨hV.out.1.loose.jobs i (by rw [show (shOf P js os).n = js.length from rfl, ← hjl'.out]; exact hi), hV.out.1.wide i (by rw [show (shOf P js os).n = js.length from rfl, ← hjl'.out]; exact hi)⟩))
  have h6 : jl ≤ 6 := by have := hV.out.1.loose.num.2; rw [show (shOf P js os).n = js.length from rfl, ← hjl'.out] at this; exact this
  by_cases hs : ∃ S, Sched (shOf P js os) S
  · have hF := Lib.hid (firstOk (hsh.out W4 (Below.refl _ _)) hv'.out h7.out h21.out hs hjl'.out)
    have hS := Lib.hid (fun (W : World) (hb : Below W4.heap.size W4 W) => shortOk (hsh.out W hb) hv'.out h7.out h21.out hs hjl'.out)
    clear hs
    go_upto_region 6 with (
      first
      | (go_at_call 21; refine (hF.out).mono ?_; rintro e w5 ⟨fa, fc, ls, rfl, hll, hrl, hFl, hb5⟩
         have hb5' := Lib.hid hb5
         have hll' := Lib.hid hll
         have hrl' := Lib.hid hrl
         have hFl' := Lib.hid hFl
         obtain ⟨⟨y0, y1, y2⟩, -⟩ := hT.out.keep hb5'.out hz.out
         have hS5 := Lib.hid (hS.out _ hb5'.out)
         clear hb5 hll hrl hFl)
      | (go_at_call 22; refine (hS5.out).mono ?_; rintro e w6 ⟨ga, gc, ms, m, rfl, hlm, hrm, hme, hFm, hb6⟩
         have hb6' := Lib.hid (below_call hb5'.out hb6)
         have hlm' := Lib.hid hlm
         have hrl6 := Lib.hid (hrl'.out.below hb6)
         have hrm6 := Lib.hid hrm
         have hme' := Lib.hid hme
         have hFm' := Lib.hid hFm
         have hm24 := hme.1
         obtain ⟨⟨y0, y1, y2⟩, -⟩ := hT.out.keep hb6'.out hz.out
         have hLv := Lib.hid (lives18 (w := w6))
         clear hb6 hlm hrm hme hFm)
      | (go_at_call 18; refine (hLv.out).mono ?_; rintro e w8 ⟨rfl, hb8⟩
         have hb8' := Lib.hid (below_call hb6'.out hb8)
         have hrl8 := Lib.hid (hrl6.out.below hb8)
         have hrm8 := Lib.hid (hrm6.out.below hb8)
         obtain ⟨⟨y0, y1, y2⟩, -⟩ := hT.out.keep hb8'.out hz.out
         clear hb8))
    go_wp2_with fail
    have hlit := Lib.hid (Ints.lit w8 w8.heap.size (Nat.le_refl _))
    have hlb := Lib.hid (below_alloc1 w8 (.cells #[] 3))
    go_loopw [11, 12] (fun sv iv wr => ∃ i : Nat, ∃ zs : List Int, i ≤ jl ∧ iv = .int .i64 i ∧ zs.length = i ∧ Hid (∀ k, 0 ≤ zs.getD k 0 ∧ zs.getD k 0 ≤ 24) ∧ Hid (Ints wr w8.heap.size sv zs) ∧ Hid (Below w8.heap.size w8 wr)) (fun _ iv _ => jl - (intOf iv).toNat)
    case atStart => exact ⟨0, [], Nat.zero_le _, rfl, rfl, Lib.hid (fun k => by simp), hlit, hlb⟩
    case round =>
      clear hlit hlb
      obtain ⟨i, zs, hi, rfl, hzl, hzr, hI, hB⟩ := hrel
      obtain ⟨wi, rfl⟩ : ∃ wi : World, wi = wr := ⟨_, rfl⟩
      have hb4i := Lib.hid (below_call hb8'.out hB.out)
      obtain ⟨⟨y0, y1, y2⟩, -⟩ := hT.out.keep hb4i.out hz.out
      have hsi := Lib.hid (hB.out.size)
      obtain ⟨za, zc, rfl, hzc⟩ := hI.out.shape
      rw [hzl] at hI hzc ⊢
      have hzl' := Lib.hid hzl
      clear hzl
      by_cases hin : i < jl
      · obtain ⟨g, rfl, hg, d0, d1, d2, -⟩ := hat.out wi hb4i.out i hin
        obtain ⟨hjx, hjw⟩ := hjb.out i hin
        obtain ⟨⟨f, tt, l, pp⟩, hjq⟩ : ∃ j, j = js.getD i J0 := ⟨_, rfl⟩
        rw [← hjq] at d0 d1 d2 hjx hjw
        unfold JobIn at hjx
        simp only at d0 d1 d2 hjx hjw
        have hin' : (i : Int) < (jl : Int) := by omega
        clear hjq
        by_cases hyi : i < yn
        · obtain ⟨gu, ou, rfl, hgu, hcu⟩ := huat'.out (fun e => by have := hyn'.out; rw [e] at this; simp at this; omega)
          have c0 := (hbW.out.cell (p := ⟨gu, ou + i, none⟩) hgu).trans (hcu i hyi)
          have c1 := (hb4i.out.cell (p := ⟨gu, ou + i, none⟩) (Nat.lt_of_lt_of_le hgu hbW.out.size)).trans c0
          obtain ⟨x, hx⟩ : ∃ x, x = ys.getD i 0 := ⟨_, rfl⟩
          have hx255 := hub'.out i
          rw [← hx] at c1 hx255
          obtain ⟨c, hc⟩ : ∃ c : Nat, (c : Int) = tt - l - f + 1 := ⟨(tt - l - f + 1).toNat, by omega⟩
          obtain ⟨r, hr⟩ : ∃ r : Nat, (x : Int) % (c : Int) = (r : Int) := ⟨x % c, rfl⟩
          have hrc : (r : Int) < (c : Int) := by rw [← hr]; exact Int.emod_lt_of_pos _ (by omega)
          have s1 : IntKind.i64.wrap (tt - l) = tt - l := IntWalk.i64_in _ (by omega)
          have s2 : IntKind.i64.wrap (tt - l - f) = tt - l - f := IntWalk.i64_in _ (by omega)
          have s3 : IntKind.i64.wrap (tt - l - f + 1) = (c : Int) := by rw [hc]; exact IntWalk.i64_in _ (by omega)
          have s4 : IntKind.i64.wrap (f + (r : Int)) = f + (r : Int) := IntWalk.i64_in _ (by omega)
          have s5 : ((c : Int) == 0) = false := by simp; omega
          have hyi' : (i : Int) < (yn : Int) := by omega
          have hv0 : Hid (0 ≤ f + (r : Int) ∧ f + (r : Int) ≤ 24) := Lib.hid (by omega)
          have hr' := Lib.hid hr
          have hc' := Lib.hid hc
          clear hcu hx c0 hc hr
          go_wp2_with fail
          go_quiet (fail)
          rw [hr'.out, show wrap64 (f + (r : Int)) = f + (r : Int) from (IntWalk.i64_left _).symm.trans s4]
          obtain ⟨W6, hW6⟩ : ∃ W6, W6 = wi.drewN nq := ⟨_, rfl⟩
          have hI6 := Lib.hid (show Ints W6 w8.heap.size (.slice za i zc) zs by rw [hW6]; exact hI.out.below (below_drewN (Below.refl _ _) nq))
          have hB6 := Lib.hid (show Below w8.heap.size w8 W6 by rw [hW6]; exact below_drewN hB.out nq)
          rw [← hW6]
          clear hW6
          go_wp2_with (at_builtin; refine app_int hI6.out (by rw [hzl'.out]; omega) hB6.out.size rfl _ _ rfl rfl rfl ?_; intro v5 w5 hI5 hb5; have hI5' := Lib.hid hI5; have hb5' := Lib.hid (hB6.out.trans hb5); clear hI5 hb5)
          exact ⟨⟨i + 1, zs ++ [f + (r : Int)], by omega, by go_num, by rw [List.length_append, hzl'.out]; rfl, Lib.hid (app_rng hzr.out hv0.out), hI5', hb5'⟩, by simp [intOf]; omega⟩
        · have hyi' : (i : Int) < (yn : Int) → False := by omega
          have hB6 := hB
          have hv0 : Hid (0 ≤ f ∧ f ≤ 24) := Lib.hid (by omega)
          go_wp2_with (at_builtin; refine app_int hI.out (by rw [hzl'.out]; omega) hB6.out.size rfl _ _ rfl rfl rfl ?_; intro v5 w5 hI5 hb5; have hI5' := Lib.hid hI5; have hb5' := Lib.hid (hB6.out.trans hb5); clear hI5 hb5)
          exact ⟨⟨i + 1, zs ++ [f], by omega, by go_num, by rw [List.length_append, hzl'.out]; rfl, Lib.hid (app_rng hzr.out hv0.out), hI5', hb5'⟩, by simp [intOf]; omega⟩
      · obtain rfl : i = jl := by omega
        have hIr := Lib.hid (hI.out.shape)
        clear hin hi
        have hLo := Lib.hid hV.out.1.loose
        have hn' := Lib.hid (show i = (shOf P js os).n from hjl'.out)
        obtain ⟨d0, hd0⟩ := any_sched (shOf P js os) (fun k => zs.getD k 0)
        have hzn := Lib.hid (show zs.length = js.length from hzl'.out.trans hjl'.out)
        have hFit := Lib.hid (fitsOk (hsh.out wi hb4i.out) h7.out h21.out hIr.out (by rw [hzl'.out]; omega) hv'.out hzn.out hd0)
        have hRl := Lib.hid (fun (W : World) (hb : Below wi.heap.size wi W) => refFitsOk (s := shOf P js os) (xs := ls) hLo.out (by rw [hV.out.2]; exact hsh.out W (below_call hb4i.out hb)) ((hrl8.out.below hB.out).below hb) (hll'.out.trans hjl'.out) (d0 := true) ⟨fun _ => hFl'.out.is, fun _ => rfl⟩)
        have hEm := ends_in hLo.out hFm'.out.is
        have hRm := Lib.hid (fun (W : World) (hb : Below wi.heap.size wi W) => refFitsOk (s := shOf P js os) (xs := ms) hLo.out (by rw [hV.out.2]; exact hsh.out W (below_call hb4i.out hb)) ((hrm8.out.below hB.out).below hb) (hlm'.out.trans hjl'.out) (d0 := true) ⟨fun _ => hEm.1, fun _ => rfl⟩)
        have hem : (m : Int) = endM js ms js.length := (end_short hLo.out hme'.out hFm'.out).symm
        have hEEm := Lib.hid (fun (W : World) (hb : Below wi.heap.size wi W) => refEnd36 (hsh.out W (below_call hb4i.out hb)) ((hrm8.out.below hB.out).below hb) (hlm'.out.trans hjl'.out) h7.out (sched_rng hLo.out hEm.1) hem)
        obtain ⟨El, hEl⟩ : ∃ E, E = endM js ls js.length := ⟨_, rfl⟩
        have hEEl := Lib.hid (fun (W : World) (hb : Below wi.heap.size wi W) => refEnd36 (hsh.out W (below_call hb4i.out hb)) ((hrl8.out.below hB.out).below hb) (hll'.out.trans hjl'.out) h7.out (sched_rng hLo.out hFl'.out.is) hEl)
        have hEl1 : (m : Int) ≤ El := by rw [hEl]; exact end_least hLo.out hme'.out hFl'.out.is
        have del : decide (El < (m : Int)) = false := by simp; omega
        clear hem hEl hEm
        cases d0 with
        | false =>
          clear hd0
          go_wp2_with (
            first
            | (go_at_call 16; refine hFit.out.mono ?_; rintro e w9 ⟨rfl, hb9⟩
               have hb9' := Lib.hid (hb9)
               obtain ⟨⟨y0, y1, y2⟩, -⟩ := hT.out.keep (below_call hb4i.out hb9'.out) hz.out
               have hR1 := Lib.hid (hRl.out w9 hb9)
               clear hb9 hFit)
            | (go_at_call 19; refine hR1.out.mono ?_; rintro e wa ⟨rfl, hba⟩
               have hba' := Lib.hid (below_call hb9'.out hba)
               obtain ⟨⟨y0, y1, y2⟩, -⟩ := hT.out.keep (below_call hb4i.out hba'.out) hz.out
               have hR2 := Lib.hid (hRm.out wa hba'.out)
               clear hba hR1)
            | (go_at_call 19; refine hR2.out.mono ?_; rintro e wb ⟨rfl, hbb⟩
               have hbb' := Lib.hid (below_call hba'.out hbb)
               obtain ⟨⟨y0, y1, y2⟩, -⟩ := hT.out.keep (below_call hb4i.out hbb'.out) hz.out
               have hE1 := Lib.hid (hEEm.out wb hbb'.out)
               clear hbb hR2)
            | (go_at_call 36; refine hE1.out.mono ?_; rintro e wc ⟨rfl, hbc⟩
               have hbc' := Lib.hid (below_call hbb'.out hbc)
               obtain ⟨⟨y0, y1, y2⟩, -⟩ := hT.out.keep (below_call hb4i.out hbc'.out) hz.out
               have hE2 := Lib.hid (hEEl.out wc hbc'.out)
               clear hbc hE1)
            | (go_at_call 36; refine hE2.out.mono ?_; rintro e wd ⟨rfl, hbd⟩
               have hbd' := Lib.hid (below_call hbc'.out hbd)
               obtain ⟨⟨y0, y1, y2⟩, -⟩ := hT.out.keep (below_call hb4i.out hbd'.out) hz.out
               skip
               clear hbd hE2))
          go_ret
          exact ⟨rfl, below_call hbW.out (below_call hb4i.out hbd'.out)⟩
        | true =>
          have hzS := Lib.hid (hd0.1 rfl)
          clear hd0
          obtain ⟨Ez, hEz⟩ : ∃ E, E = endM js zs js.length := ⟨_, rfl⟩
          have hEEz := Lib.hid (fun (W : World) (hb : Below wi.heap.size wi W) => refEnd36 (hsh.out W (below_call hb4i.out hb)) (hIr.out.below hb) hzn.out h7.out (sched_rng hLo.out hzS.out) hEz)
          have hEz1 : (m : Int) ≤ Ez := by rw [hEz]; exact end_least hLo.out hme'.out hzS.out
          have dez : decide (Ez < (m : Int)) = false := by simp; omega
          clear hEz
          go_wp2_with (
            first
            | (go_at_call 16; refine hFit.out.mono ?_; rintro e w9 ⟨rfl, hb9⟩
               have hb9' := Lib.hid (hb9)
               obtain ⟨⟨y0, y1, y2⟩, -⟩ := hT.out.keep (below_call hb4i.out hb9'.out) hz.out
               have hR1 := Lib.hid (hRl.out w9 hb9)
               clear hb9 hFit)
            | (go_at_call 19; refine hR1.out.mono ?_; rintro e wa ⟨rfl, hba⟩
               have hba' := Lib.hid (below_call hb9'.out hba)
               obtain ⟨⟨y0, y1, y2⟩, -⟩ := hT.out.keep (below_call hb4i.out hba'.out) hz.out
               have hR2 := Lib.hid (hRm.out wa hba'.out)
               clear hba hR1)
            | (go_at_call 19; refine hR2.out.mono ?_; rintro e wb ⟨rfl, hbb⟩
               have hbb' := Lib.hid (below_call hba'.out hbb)
               obtain ⟨⟨y0, y1, y2⟩, -⟩ := hT.out.keep (below_call hb4i.out hbb'.out) hz.out
               have hE1 := Lib.hid (hEEm.out wb hbb'.out)
               clear hbb hR2)
            | (go_at_call 36; refine hE1.out.mono ?_; rintro e wc ⟨rfl, hbc⟩
               have hbc' := Lib.hid (below_call hbb'.out hbc)
               obtain ⟨⟨y0, y1, y2⟩, -⟩ := hT.out.keep (below_call hb4i.out hbc'.out) hz.out
               have hE2 := Lib.hid (hEEl.out wc hbc'.out)
               clear hbc hE1)
            | (go_at_call 36; refine hE2.out.mono ?_; rintro e wd ⟨rfl, hbd⟩
               have hbd' := Lib.hid (below_call hbc'.out hbd)
               obtain ⟨⟨y0, y1, y2⟩, -⟩ := hT.out.keep (below_call hb4i.out hbd'.out) hz.out
               have hE3 := Lib.hid (hEEz.out wd hbd'.out)
               clear hbd hE2)
            | (go_at_call 36; refine hE3.out.mono ?_; rintro e we ⟨rfl, hbe⟩
               have hbe' := Lib.hid (below_call hbd'.out hbe)
               obtain ⟨⟨y0, y1, y2⟩, -⟩ := hT.out.keep (below_call hb4i.out hbe'.out) hz.out
               skip
               clear hbe hE3))
          have hlt9 := Lib.hid (fun (W : World) (hb : Below we.heap.size we W) => (show Reads W (.slice fa i fc) ls from ((hrl8.out.below hB.out).below hbe'.out).below hb))
          have hzt9 := Lib.hid (fun (W : World) (hb : Below we.heap.size we W) => (show Reads W (.slice za i zc) zs from (hIr.out.below hbe'.out).below hb))
          clear hrl8 hrm8 hrl6 hrm6 hrl'
          go_loopw [16] (fun kv wr => ∃ k : Nat, k ≤ i ∧ kv = .int .i64 k ∧ Hid (∀ j, j < k → ls.getD j 0 = zs.getD j 0) ∧ Hid (Below we.heap.size we wr)) (fun kv _ => i - (intOf kv).toNat)
          case atStart => exact ⟨0, Nat.zero_le _, rfl, Lib.hid (fun j hj => absurd hj (Nat.not_lt_zero _)), Lib.hid (Below.refl _ _)⟩
          case round =>
            obtain ⟨k, hk, rfl, heq, hBe⟩ := hrel
            obtain ⟨wk, rfl⟩ : ∃ wk : World, wk = wr := ⟨_, rfl⟩
            have hfin := Lib.hid (below_call hbW.out (below_call hb4i.out (below_call hbe'.out hBe.out)))
            by_cases hkn : k < i
            · obtain ⟨g1, o1, rfl, hg1, hc1⟩ := (hlt9.out wk hBe.out).at hll'.out hkn
              obtain ⟨g2, o2, rfl, hg2, hc2⟩ := (hzt9.out wk hBe.out).at hzl'.out hkn
              have c1 := hc1 k hkn
              have c2 := hc2 k hkn
              have hdiff := Lib.hid (first_differs hFl'.out hzS.out (i := k) (by rw [← hn'.out]; exact hkn) heq.out)
              obtain ⟨x, hx⟩ : ∃ x, x = ls.getD k 0 := ⟨_, rfl⟩
              obtain ⟨y, hy⟩ : ∃ x, x = zs.getD k 0 := ⟨_, rfl⟩
              rw [← hx] at c1
              rw [← hy] at c2
              have hx' := Lib.hid hx
              have hy' := Lib.hid hy
              have hkn' : (k : Int) < (i : Int) := by omega
              clear hx hy hc1 hc2
              by_cases hxy : x = y
              · have hxy' := Lib.hid hxy
                have ht : (x != y) = false := by simp [hxy]
                clear hxy
                go_wp2_with fail
                go_quiet (fail)
                go_wp2_with fail
                exact ⟨⟨k + 1, by omega, by go_num, Lib.hid (fun j hjk => by
                  by_cases e : j = k
                  · rw [e, ← hx'.out, ← hy'.out]; exact hxy'.out
                  · exact heq.out j (by omega)), Lib.hid (below_drewN hBe.out _)⟩, by simp [intOf]; omega⟩
              · have hlt : decide (x < y) = true := by
                  have := hdiff.out (by rw [← hx'.out, ← hy'.out]; exact hxy)
                  rw [← hx'.out, ← hy'.out] at this
                  simpa using this
                have ht : (x != y) = true := by simp [hxy]
                clear hxy
                go_wp2_with fail
                go_quiet (fail)
                go_wp2_with fail
                go_quiet (fail)
                go_wp2_with fail
                go_ret
                exact ⟨rfl, below_drewN (below_drewN hfin.out _) _⟩
            · obtain rfl : k = i := by omega
              go_wp2_with fail
              go_ret
              exact ⟨rfl, hfin.out⟩
    
  · have hF := Lib.hid (firstNo (hsh.out W4 (Below.refl _ _)) hv'.out h7.out h21.out hs)
    have hS := Lib.hid (fun (W : World) (hb : Below W4.heap.size W4 W) => shortNo (hsh.out W hb) hv'.out h7.out h21.out hs)
    have hs' := Lib.hid hs
    clear hs
    go_upto_region 6 with (
      first
      | (go_at_call 21; refine (hF.out).mono ?_; rintro e w5 ⟨fa, fc, rfl, hb5⟩
         have hb5' := Lib.hid hb5
         obtain ⟨⟨y0, y1, y2⟩, -⟩ := hT.out.keep hb5'.out hz.out
         have hS5 := Lib.hid (hS.out _ hb5'.out)
         clear hb5)
      | (go_at_call 22; refine (hS5.out).mono ?_; rintro e w6 ⟨ga, gc, rfl, hb6⟩
         have hb6' := Lib.hid (below_call hb5'.out hb6)
         obtain ⟨⟨y0, y1, y2⟩, -⟩ := hT.out.keep hb6'.out hz.out
         have hLv := Lib.hid (lives18 (w := w6))
         clear hb6)
      | (go_at_call 18; refine (hLv.out).mono ?_; rintro e w8 ⟨rfl, hb8⟩
         have hb8' := Lib.hid (below_call hb6'.out hb8)
         obtain ⟨⟨y0, y1, y2⟩, -⟩ := hT.out.keep hb8'.out hz.out
         clear hb8))
    go_wp2_with fail
    have hlit := Lib.hid (Ints.lit w8 w8.heap.size (Nat.le_refl _))
    have hlb := Lib.hid (below_alloc1 w8 (.cells #[] 3))
    go_loopw [11, 12] (fun sv iv wr => ∃ i : Nat, ∃ zs : List Int, i ≤ jl ∧ iv = .int .i64 i ∧ zs.length = i ∧ Hid (∀ k, 0 ≤ zs.getD k 0 ∧ zs.getD k 0 ≤ 24) ∧ Hid (Ints wr w8.heap.size sv zs) ∧ Hid (Below w8.heap.size w8 wr)) (fun _ iv _ => jl - (intOf iv).toNat)
    case atStart => exact ⟨0, [], Nat.zero_le _, rfl, rfl, Lib.hid (fun k => by simp), hlit, hlb⟩
    case round =>
      clear hlit hlb
      obtain ⟨i, zs, hi, rfl, hzl, hzr, hI, hB⟩ := hrel
      obtain ⟨wi, rfl⟩ : ∃ wi : World, wi = wr := ⟨_, rfl⟩
      have hb4i := Lib.hid (below_call hb8'.out hB.out)
      obtain ⟨⟨y0, y1, y2⟩, -⟩ := hT.out.keep hb4i.out hz.out
      have hsi := Lib.hid (hB.out.size)
      obtain ⟨za, zc, rfl, hzc⟩ := hI.out.shape
      rw [hzl] at hI hzc ⊢
      have hzl' := Lib.hid hzl
      clear hzl
      by_cases hin : i < jl
      · obtain ⟨g, rfl, hg, d0, d1, d2, -⟩ := hat.out wi hb4i.out i hin
        obtain ⟨hjx, hjw⟩ := hjb.out i hin
        obtain ⟨⟨f, tt, l, pp⟩, hjq⟩ : ∃ j, j = js.getD i J0 := ⟨_, rfl⟩
        rw [← hjq] at d0 d1 d2 hjx hjw
        unfold JobIn at hjx
        simp only at d0 d1 d2 hjx hjw
        have hin' : (i : Int) < (jl : Int) := by omega
        clear hjq
        by_cases hyi : i < yn
        · obtain ⟨gu, ou, rfl, hgu, hcu⟩ := huat'.out (fun e => by have := hyn'.out; rw [e] at this; simp at this; omega)
          have c0 := (hbW.out.cell (p := ⟨gu, ou + i, none⟩) hgu).trans (hcu i hyi)
          have c1 := (hb4i.out.cell (p := ⟨gu, ou + i, none⟩) (Nat.lt_of_lt_of_le hgu hbW.out.size)).trans c0
          obtain ⟨x, hx⟩ : ∃ x, x = ys.getD i 0 := ⟨_, rfl⟩
          have hx255 := hub'.out i
          rw [← hx] at c1 hx255
          obtain ⟨c, hc⟩ : ∃ c : Nat, (c : Int) = tt - l - f + 1 := ⟨(tt - l - f + 1).toNat, by omega⟩
          obtain ⟨r, hr⟩ : ∃ r : Nat, (x : Int) % (c : Int) = (r : Int) := ⟨x % c, rfl⟩
          have hrc : (r : Int) < (c : Int) := by rw [← hr]; exact Int.emod_lt_of_pos _ (by omega)
          have s1 : IntKind.i64.wrap (tt - l) = tt - l := IntWalk.i64_in _ (by omega)
          have s2 : IntKind.i64.wrap (tt - l - f) = tt - l - f := IntWalk.i64_in _ (by omega)
          have s3 : IntKind.i64.wrap (tt - l - f + 1) = (c : Int) := by rw [hc]; exact IntWalk.i64_in _ (by omega)
          have s4 : IntKind.i64.wrap (f + (r : Int)) = f + (r : Int) := IntWalk.i64_in _ (by omega)
          have s5 : ((c : Int) == 0) = false := by simp; omega
          have hyi' : (i : Int) < (yn : Int) := by omega
          have hv0 : Hid (0 ≤ f + (r : Int) ∧ f + (r : Int) ≤ 24) := Lib.hid (by omega)
          have hr' := Lib.hid hr
          have hc' := Lib.hid hc
          clear hcu hx c0 hc hr
          go_wp2_with fail
          go_quiet (fail)
          rw [hr'.out, show wrap64 (f + (r : Int)) = f + (r : Int) from (IntWalk.i64_left _).symm.trans s4]
          obtain ⟨W6, hW6⟩ : ∃ W6, W6 = wi.drewN nq := ⟨_, rfl⟩
          have hI6 := Lib.hid (show Ints W6 w8.heap.size (.slice za i zc) zs by rw [hW6]; exact hI.out.below (below_drewN (Below.refl _ _) nq))
          have hB6 := Lib.hid (show Below w8.heap.size w8 W6 by rw [hW6]; exact below_drewN hB.out nq)
          rw [← hW6]
          clear hW6
          go_wp2_with (at_builtin; refine app_int hI6.out (by rw [hzl'.out]; omega) hB6.out.size rfl _ _ rfl rfl rfl ?_; intro v5 w5 hI5 hb5; have hI5' := Lib.hid hI5; have hb5' := Lib.hid (hB6.out.trans hb5); clear hI5 hb5)
          exact ⟨⟨i + 1, zs ++ [f + (r : Int)], by omega, by go_num, by rw [List.length_append, hzl'.out]; rfl, Lib.hid (app_rng hzr.out hv0.out), hI5', hb5'⟩, by simp [intOf]; omega⟩
        · have hyi' : (i : Int) < (yn : Int) → False := by omega
          have hB6 := hB
          have hv0 : Hid (0 ≤ f ∧ f ≤ 24) := Lib.hid (by omega)
          go_wp2_with (at_builtin; refine app_int hI.out (by rw [hzl'.out]; omega) hB6.out.size rfl _ _ rfl rfl rfl ?_; intro v5 w5 hI5 hb5; have hI5' := Lib.hid hI5; have hb5' := Lib.hid (hB6.out.trans hb5); clear hI5 hb5)
          exact ⟨⟨i + 1, zs ++ [f], by omega, by go_num, by rw [List.length_append, hzl'.out]; rfl, Lib.hid (app_rng hzr.out hv0.out), hI5', hb5'⟩, by simp [intOf]; omega⟩
      · obtain rfl : i = jl := by omega
        have hIr := Lib.hid (hI.out.shape)
        clear hin hi
        have hFit := Lib.hid (fitsOk (hsh.out wi hb4i.out) h7.out h21.out hIr.out (by rw [hzl'.out]; omega) hv'.out (hzl'.out.trans hjl'.out) (d0 := false) ⟨fun e => (by cases e), fun e => absurd ⟨_, e⟩ hs'.out⟩)
        go_wp2_with (
          go_at_call 16; refine hFit.out.mono ?_; rintro e w9 ⟨rfl, hb9⟩
          have hb9' := Lib.hid hb9
          clear hb9)
        go_ret
        exact ⟨rfl, below_call hbW.out (below_call hb4i.out hb9'.out)⟩
    
end Go.Proofs.Ytjkbhdlbomcbeaa
