import Derived.Test.YtbemlfppekpmjaaKd
namespace Go.Proofs.Ytbemlfppekpmjaa
open Go.RowKit Rng
theorem acts_cells {w : World} {v : Value} {xs : List Ac} (h : InActs w v xs) : ∃ ao c, v = .slice ao xs.length c ∧ xs.length ≤ c ∧ xs.length ≤ maxLen ∧ ∀ i, i < xs.length → ∃ g o k x y, ao = some ⟨g, o, none⟩ ∧ g < w.heap.size ∧ k < 256 ∧
    w.cell? ⟨g, o + i * 3, none⟩ = some (.int .u8 (k : Nat)) ∧ w.cell? ⟨g, o + i * 3 + 1, none⟩ = some (.int .i64 x) ∧ w.cell? ⟨g, o + i * 3 + 2, none⟩ = some (.int .i64 y) := by
  obtain ⟨⟨_, ao, c, rfl, hc, _, hcl⟩, hm, hb⟩ := h
  refine ⟨ao, c, rfl, hc, hm, fun i hi => ?_⟩
  obtain ⟨g, o, rfl, hg, hcell⟩ := hcl (by omega)
  have hx := hb xs[i] (List.getElem_mem _)
  have f := fun k hk => flat_at (enc := encA) (fun _ => rfl) xs i k hi (z := 3) hk
  refine ⟨g, o, xs[i].kd, xs[i].a, xs[i].b, rfl, hg, hx, hcell _ _ (f 0 (by omega)), ?_, ?_⟩
  · rw [Nat.add_assoc]; exact hcell _ _ (f 1 (by omega))
  · rw [Nat.add_assoc]; exact hcell _ _ (f 2 (by omega))
theorem Pr.clone {w0 w : World} {b m : Nat} {S T : WS} (h : Pr w0 b m S T w) (hv : Inv S) : Calls Try.prog 33 #[.pointer (some ⟨b, 0, none⟩)] w fun e w' => ∃ b', e = .returned (.pointer (some ⟨b', 0, none⟩)) ∧ Pr w0 b' m S T w' := by
  obtain ⟨hb, hh, c, fv, hm, cm, fm, k, t, hd⟩ := h
  refine (clone33 k hv.n1 hv.n10 (by have := hv.room; omega)).mono ?_
  rintro e w' ⟨b', h', c', fv', rfl, k', hb2⟩
  refine ⟨b', rfl, hb.trans (hb2.mono hb.size), h', c', fv', hm, cm, fm, { k' with Bb := Nat.le_trans hb.size k'.Bb, hn := own_base k'.hn hb.size, fl := own_base k'.fl hb.size }, t.below hb2, fun i hi hp => ?_⟩
  have h1 := (k'.pos i hi).1
  have h2 := (t.pos i hp).2
  omega
set_option maxHeartbeats 2000000 in
set_option maxRecDepth 100000 in
theorem beginBad15 {w : World} {n : Int} (h : n < 1 ∨ 10 < n) : Calls Try.prog 15 #[.int .i64 n] w fun e w' => e = .returned (.tuple #[.pointer none, .int .i64 1]) ∧ w = w' := by
  by_cases h1 : n < 1
  · clear h
    go_enter Try.func15, Try.ntmps15
    go_wp2_with fail
    go_ret2
    exact ⟨rfl, rfl⟩
  · have h2 : 10 < n := h.resolve_left h1
    clear h
    go_enter Try.func15, Try.ntmps15
    go_wp2_with fail
    go_ret2
    exact ⟨rfl, rfl⟩
/-- A computation and its model, beside each other. -/
def Pw (w : World) (z b m : Nat) (S : WS) (w' : World) : Prop := Inv S ∧ S.n = z ∧ Pr w b m S S w'
set_option maxHeartbeats 2000000 in
set_option maxRecDepth 100000 in
theorem worksBad {w : World} {n : Int} {v : Value} {xs : List Ac} (h : InActs w v xs) (hn : n < 1 ∨ 10 < n) : Calls Try.prog 5 #[.int .i64 n, v] w (LawEnd w) := by
  obtain ⟨ao, xc, rfl, -⟩ := acts_cells h
  have hbad := Lib.hid (beginBad15 (w := w) hn)
  clear h
  by_cases h1 : n < 1
  · clear hn
    go_enter Try.func5, Try.ntmps5
    go_wp2_with (first
      | (go_at_call 15; refine hbad.out.mono ?_; rintro e w1 ⟨rfl, rfl⟩)
      | (go_at_call 19; refine (lives19 _).mono ?_; rintro e w2 ⟨rfl, hb⟩; have hb' := Lib.hid hb; clear hb))
    go_ret
    exact ⟨rfl, hb'.out⟩
  · have h2 : 10 < n := hn.resolve_left h1
    clear hn
    go_enter Try.func5, Try.ntmps5
    go_wp2_with (first
      | (go_at_call 15; refine hbad.out.mono ?_; rintro e w1 ⟨rfl, rfl⟩)
      | (go_at_call 19; refine (lives19 _).mono ?_; rintro e w2 ⟨rfl, hb⟩; have hb' := Lib.hid hb; clear hb))
    go_ret
    exact ⟨rfl, hb'.out⟩
set_option maxHeartbeats 20000000 in
set_option maxRecDepth 100000 in
theorem walk5 {w : World} {n : Int} {v : Value} {xs : List Ac} (h : InActs w v xs) : Calls Try.prog 5 #[.int .i64 n, v] w (LawEnd w) := by
  by_cases hbd : n < 1 ∨ 10 < n
  · exact worksBad h hbd
  obtain ⟨z, rfl⟩ : ∃ z : Nat, n = z := ⟨n.toNat, by omega⟩
  have hz1 : 1 ≤ z ∧ z ≤ 10 := by omega
  obtain ⟨ao, xc, rfl, hxc, hxm, hcl⟩ := acts_cells h
  unfold maxLen at hxm
  obtain ⟨q, hq⟩ : ∃ q, q = xs.length := ⟨_, rfl⟩
  rw [← hq] at hcl hxc hxm ⊢
  have hcl' := Lib.hid hcl
  have hbeg := Lib.hid (begin15 (w := w) hz1.1 hz1.2)
  have hrb := Lib.hid (fun (W : World) => begin21 (w := W) hz1.1 hz1.2)
  have hst := Lib.hid (Inv.start hz1.1 hz1.2)
  clear h hcl hq hbd
  go_enter Try.func5, Try.ntmps5
  go_wp2_with (first
    | (go_at_call 15; refine hbeg.out.mono ?_; rintro e w1 ⟨pb, ph, pc, rfl, k, hb⟩; have k' := Lib.hid k; have hb' := Lib.hid hb; clear k hb)
    | (go_at_call 21; refine (hrb.out _).mono ?_; rintro e w2 ⟨mb, mh, mc, rfl, t, hb2⟩
       have hP0 := Lib.hid (show Pw w z pb mb (WS.start z) w2 from ⟨hst.out, by simp [WS.start, WS.n], hb'.out.trans (hb2.mono hb'.out.size), ph, pc, _, mh, mc, _, k'.out.below hb2, { t with Bb := Nat.le_trans hb'.out.size t.Bb, hn := own_base t.hn hb'.out.size, fl := own_base t.fl hb'.out.size }, fun i hi hp => by
         have h1 := (k'.out.pos i hi).2
         have h2 := (t.pos i hp).1
         omega⟩)
       clear k' t hb2 hbeg hrb hst)
    | (go_at_call 19; refine (lives19 _).mono ?_; rintro e w3 ⟨rfl, hb3⟩
       have hP1 := Lib.hid (show Pw w z pb mb (WS.start z) w3 from ⟨hP0.out.1, hP0.out.2.1, hP0.out.2.2.below hb3⟩)
       clear hb3 hP0 hb'))
  go_loopw [5, 8] (fun pv iv wr => ∃ i pb : Nat, i ≤ 260 ∧ i ≤ q ∧ pv = .pointer (some ⟨pb, 0, none⟩) ∧ iv = .int .i64 i ∧ ∃ S, Hid (Pw w z pb mb S wr)) (fun _ iv _ => 260 - (intOf iv).toNat)
  case atStart => exact ⟨0, pb, by omega, by omega, rfl, rfl, _, hP1⟩
  case round =>
    clear hP1
    obtain ⟨i, pb, hi, hiq, rfl, rfl, S, hP⟩ := hrel
    by_cases hlt : i < q
    · by_cases h260 : i < 260
      · obtain ⟨g, o, kd, x, y, rfl, hgw, bk, r0, r1, r2⟩ := hcl'.out i hlt
        have hii : (i : Int) < (q : Int) := by omega
        have hi260 : (i : Int) < 260 := by omega
        have hPv := Lib.hid hP.out.1
        have hPn := Lib.hid hP.out.2.1
        have hPP := Lib.hid hP.out.2.2
        have hbW := Lib.hid hP.out.2.2.1
        have rr := Lib.hid (fun (W : World) (hb : Below w.heap.size w W) => (show W.cell? ⟨g, o + i * 3, none⟩ = some (.int .u8 (kd : Nat)) ∧ W.cell? ⟨g, o + i * 3 + 1, none⟩ = some (.int .i64 x) ∧ W.cell? ⟨g, o + i * 3 + 2, none⟩ = some (.int .i64 y) from ⟨(hb.cell (p := ⟨g, o + i * 3, none⟩) hgw).trans r0, (hb.cell (p := ⟨g, o + i * 3 + 1, none⟩) hgw).trans r1, (hb.cell (p := ⟨g, o + i * 3 + 2, none⟩) hgw).trans r2⟩))
        obtain ⟨x0, x1, x2⟩ := rr.out _ hbW.out
        clear r0 r1 r2 hgw
        by_cases e0 : kd % 4 = 0
        · have hk : (kd : Int) % 4 = 0 := by omega
          clear e0
          obtain ⟨S1, hS1⟩ : ∃ T, T = (sendE S x y).2 := ⟨_, rfl⟩
          have hv1 := Lib.hid (show Inv S1 by rw [hS1]; exact Go.Proofs.Ytbemlfppekpmjaa.Inv.sendE hPv.out x y)
          have hn1 := Lib.hid (show S1.n = z by rw [hS1, (sendE_n S x y).1]; exact hPn.out)
          obtain ⟨cd, hcd⟩ : ∃ cd : Int, cd = (sendE S x y).1 := ⟨_, rfl⟩
          have ha1 := Lib.hid (fun (W : World) (h : Pr w pb mb S S W) => (show Calls Try.prog 27 #[.pointer (some ⟨pb, 0, none⟩), .int .i64 x, .int .i64 y] W fun e w' => e = .returned (.int .i64 cd) ∧ Pr w pb mb S1 S w' by rw [hS1, hcd]; exact h.send hPv.out x y))
          have ha2 := Lib.hid (fun (W : World) (h : Pr w pb mb S1 S W) => (show Calls Try.prog 28 #[.pointer (some ⟨mb, 0, none⟩), .int .i64 x, .int .i64 y] W fun e w' => e = .returned (.int .i64 cd) ∧ Pr w pb mb S1 S1 w' by rw [hcd]; rw [hS1] at h ⊢; exact h.send' hPv.out x y))
          clear hS1 hcd
          go_upto_region 16 with fail
          go_region_with (first
            | (go_at_call 27; refine (ha1.out _ (hPP.out.below (below_drewN (Below.refl _ _) _))).mono ?_; rintro e w4 ⟨rfl, P1⟩; obtain ⟨y0, y1, y2⟩ := rr.out _ P1.1; have P1' := Lib.hid P1; clear P1)
            | (go_at_call 27; refine (ha1.out _ (hPP.out.below (Below.refl _ _).drew)).mono ?_; rintro e w4 ⟨rfl, P1⟩; obtain ⟨y0, y1, y2⟩ := rr.out _ P1.1; have P1' := Lib.hid P1; clear P1)
            | (go_at_call 27; refine (ha1.out _ hPP.out).mono ?_; rintro e w4 ⟨rfl, P1⟩; obtain ⟨y0, y1, y2⟩ := rr.out _ P1.1; have P1' := Lib.hid P1; clear P1)
            | (go_at_call 28; refine (ha2.out _ P1'.out).mono ?_; rintro e w5 ⟨rfl, P2⟩; have P2' := Lib.hid P2; clear P2))
          all_goals
            clear ha1 ha2
            have hwk := Lib.hid (fun (W : World) (h : Pr w pb mb S1 S1 W) => h.works hv1.out)
            go_wp2_with (go_at_call 20; refine (hwk.out _ P2'.out).mono ?_; rintro e w6 ⟨rfl, P3⟩; have P3' := Lib.hid P3; clear P3)
            go_roundw
            case rel => exact ⟨i + 1, pb, by omega, by omega, rfl, by go_num, S1, Lib.hid ⟨hv1.out, hn1.out, P3'.out⟩⟩
            case measure => simp [intOf]; omega
        · by_cases e1 : kd % 4 = 1
          · have hk : (kd : Int) % 4 = 1 := by omega
            clear e0 e1
            obtain ⟨S1, hS1⟩ : ∃ T, T = (idleE S x).2 := ⟨_, rfl⟩
            have hv1 := Lib.hid (show Inv S1 by rw [hS1]; exact Go.Proofs.Ytbemlfppekpmjaa.Inv.idleE hPv.out x)
            have hn1 := Lib.hid (show S1.n = z by rw [hS1, (idleE_n S x).1]; exact hPn.out)
            obtain ⟨cd, hcd⟩ : ∃ cd : Int, cd = (idleE S x).1 := ⟨_, rfl⟩
            have ha1 := Lib.hid (fun (W : World) (h : Pr w pb mb S S W) => (show Calls Try.prog 29 #[.pointer (some ⟨pb, 0, none⟩), .int .i64 x] W fun e w' => e = .returned (.int .i64 cd) ∧ Pr w pb mb S1 S w' by rw [hS1, hcd]; exact h.idle hPv.out x))
            have ha2 := Lib.hid (fun (W : World) (h : Pr w pb mb S1 S W) => (show Calls Try.prog 30 #[.pointer (some ⟨mb, 0, none⟩), .int .i64 x] W fun e w' => e = .returned (.int .i64 cd) ∧ Pr w pb mb S1 S1 w' by rw [hcd]; rw [hS1] at h ⊢; exact h.idle' hPv.out x))
            clear hS1 hcd
            go_upto_region 18 with fail
            go_region_with (first
              | (go_at_call 29; refine (ha1.out _ (hPP.out.below (below_drewN (Below.refl _ _) _))).mono ?_; rintro e w4 ⟨rfl, P1⟩; obtain ⟨y0, y1, y2⟩ := rr.out _ P1.1; have P1' := Lib.hid P1; clear P1)
              | (go_at_call 29; refine (ha1.out _ (hPP.out.below (Below.refl _ _).drew)).mono ?_; rintro e w4 ⟨rfl, P1⟩; obtain ⟨y0, y1, y2⟩ := rr.out _ P1.1; have P1' := Lib.hid P1; clear P1)
              | (go_at_call 29; refine (ha1.out _ hPP.out).mono ?_; rintro e w4 ⟨rfl, P1⟩; obtain ⟨y0, y1, y2⟩ := rr.out _ P1.1; have P1' := Lib.hid P1; clear P1)
              | (go_at_call 30; refine (ha2.out _ P1'.out).mono ?_; rintro e w5 ⟨rfl, P2⟩; have P2' := Lib.hid P2; clear P2))
            all_goals
              clear ha1 ha2
              have hwk := Lib.hid (fun (W : World) (h : Pr w pb mb S1 S1 W) => h.works hv1.out)
              go_wp2_with (go_at_call 20; refine (hwk.out _ P2'.out).mono ?_; rintro e w6 ⟨rfl, P3⟩; have P3' := Lib.hid P3; clear P3)
              go_roundw
              case rel => exact ⟨i + 1, pb, by omega, by omega, rfl, by go_num, S1, Lib.hid ⟨hv1.out, hn1.out, P3'.out⟩⟩
              case measure => simp [intOf]; omega
          · by_cases e2 : kd % 4 = 2
            · have hk : (kd : Int) % 4 = 2 := by omega
              clear e0 e1 e2
              obtain ⟨S1, hS1⟩ : ∃ T, T = (dlvE S x).2 := ⟨_, rfl⟩
              have hv1 := Lib.hid (show Inv S1 by rw [hS1]; exact Go.Proofs.Ytbemlfppekpmjaa.Inv.dlvE hPv.out x)
              have hn1 := Lib.hid (show S1.n = z by rw [hS1, (dlvE_n S x).1]; exact hPn.out)
              obtain ⟨cd, hcd⟩ : ∃ cd : Int, cd = (dlvE S x).1 := ⟨_, rfl⟩
              have ha1 := Lib.hid (fun (W : World) (h : Pr w pb mb S S W) => (show Calls Try.prog 31 #[.pointer (some ⟨pb, 0, none⟩), .int .i64 x] W fun e w' => e = .returned (.int .i64 cd) ∧ Pr w pb mb S1 S w' by rw [hS1, hcd]; exact h.dlv hPv.out x))
              have ha2 := Lib.hid (fun (W : World) (h : Pr w pb mb S1 S W) => (show Calls Try.prog 32 #[.pointer (some ⟨mb, 0, none⟩), .int .i64 x] W fun e w' => e = .returned (.int .i64 cd) ∧ Pr w pb mb S1 S1 w' by rw [hcd]; rw [hS1] at h ⊢; exact h.dlv' hPv.out x))
              clear hS1 hcd
              go_upto_region 20 with fail
              go_region_with (first
                | (go_at_call 31; refine (ha1.out _ (hPP.out.below (below_drewN (Below.refl _ _) _))).mono ?_; rintro e w4 ⟨rfl, P1⟩; obtain ⟨y0, y1, y2⟩ := rr.out _ P1.1; have P1' := Lib.hid P1; clear P1)
                | (go_at_call 31; refine (ha1.out _ (hPP.out.below (Below.refl _ _).drew)).mono ?_; rintro e w4 ⟨rfl, P1⟩; obtain ⟨y0, y1, y2⟩ := rr.out _ P1.1; have P1' := Lib.hid P1; clear P1)
                | (go_at_call 31; refine (ha1.out _ hPP.out).mono ?_; rintro e w4 ⟨rfl, P1⟩; obtain ⟨y0, y1, y2⟩ := rr.out _ P1.1; have P1' := Lib.hid P1; clear P1)
                | (go_at_call 32; refine (ha2.out _ P1'.out).mono ?_; rintro e w5 ⟨rfl, P2⟩; have P2' := Lib.hid P2; clear P2))
              all_goals
                clear ha1 ha2
                have hwk := Lib.hid (fun (W : World) (h : Pr w pb mb S1 S1 W) => h.works hv1.out)
                go_wp2_with (go_at_call 20; refine (hwk.out _ P2'.out).mono ?_; rintro e w6 ⟨rfl, P3⟩; have P3' := Lib.hid P3; clear P3)
                go_roundw
                case rel => exact ⟨i + 1, pb, by omega, by omega, rfl, by go_num, S1, Lib.hid ⟨hv1.out, hn1.out, P3'.out⟩⟩
                case measure => simp [intOf]; omega
            · obtain ⟨d, hd⟩ : ∃ d, d = kd % 4 := ⟨_, rfl⟩
              have hk : (kd : Int) % 4 = (d : Int) := by omega
              have hd0 : ((d : Int) == 0) = false := by simp; omega
              have hd1 : ((d : Int) == 1) = false := by simp; omega
              have hd2 : ((d : Int) == 2) = false := by simp; omega
              clear e0 e1 e2 hd
              have hcn := Lib.hid (fun (W : World) (h : Pr w pb mb S S W) => h.clone hPv.out)
              have hwk := Lib.hid (fun (pb : Nat) (W : World) (h : Pr w pb mb S S W) => h.works hPv.out)
              go_wp2_with (first
                | (go_at_call 33; refine (hcn.out _ hPP.out).mono ?_; rintro e w4 ⟨nb, rfl, P1⟩; have P1' := Lib.hid P1; clear P1)
                | (go_at_call 20; refine (hwk.out _ _ P1'.out).mono ?_; rintro e w6 ⟨rfl, P3⟩; have P3' := Lib.hid P3; clear P3))
              go_roundw
              case rel => exact ⟨i + 1, nb, by omega, by omega, rfl, by go_num, S, Lib.hid ⟨hPv.out, hPn.out, P3'.out⟩⟩
              case measure => simp [intOf]; omega
      · obtain rfl : i = 260 := by omega
        rw [show (((260 : Nat)) : Int) = 260 from rfl]
        have hq260 : (260 : Int) < (q : Int) := by omega
        go_wp2_with fail
        go_ret
        exact ⟨rfl, hP.out.2.2.1⟩
    · obtain rfl : i = q := by omega
      go_wp2_with fail
      go_ret
      exact ⟨rfl, hP.out.2.2.1⟩
end Go.Proofs.Ytbemlfppekpmjaa
