import Derived.Test.YtbemlfppekpmjaaQi
import Derived.Test.YtbemlfppekpmjaaFr
namespace Go.Proofs.Ytbemlfppekpmjaa
open Go.RowKit Rng
theorem rel_n (S : WS) (x : Nat) : (S.rel x).n = S.n := by unfold WS.rel; split <;> simp
theorem rel_len (S : WS) (x : Nat) : (S.rel x).fl.length ≤ S.fl.length + 1 := by
  unfold WS.rel; split
  · omega
  · simp [WS.put, WS.set]
theorem sendE_n (S : WS) (f t : Int) : (sendE S f t).2.n = S.n ∧ (sendE S f t).2.fl.length ≤ S.fl.length + 1 := by
  unfold sendE
  split
  · exact ⟨rfl, Nat.le_succ _⟩
  · split
    · exact ⟨rfl, Nat.le_succ _⟩
    · split
      · exact ⟨rfl, Nat.le_succ _⟩
      · exact ⟨by simp [WS.send], by simp [WS.send]⟩
theorem idleE_n (S : WS) (x : Int) : (idleE S x).2.n = S.n ∧ (idleE S x).2.fl.length ≤ S.fl.length + 1 := by
  unfold idleE
  split
  · exact ⟨rfl, Nat.le_succ _⟩
  · split
    · exact ⟨rfl, Nat.le_succ _⟩
    · split
      · exact ⟨rfl, Nat.le_succ _⟩
      · refine ⟨by simp [WS.idle, rel_n], ?_⟩
        have := rel_len (S.set x.toNat ⟨false, (S.hd x.toNat).par, (S.hd x.toNat).owed⟩) x.toNat
        exact this
theorem dlvE_n (S : WS) (x : Int) : (dlvE S x).2.n = S.n ∧ (dlvE S x).2.fl.length ≤ S.fl.length := by
  unfold dlvE
  split
  · exact ⟨rfl, Nat.le_refl _⟩
  · rename_i h
    obtain ⟨i, rfl, hi⟩ := inB_nat (by simpa using h)
    simp only [Int.toNat_natCast]
    have hd := fl_drop_len (S := S) (k := i) hi
    unfold WS.dlv
    simp only
    split
    · refine ⟨by simp [WS.acked, rel_n], ?_⟩
      have := rel_len ((S.drop i).set (S.fl.getD i L0).to ⟨((S.drop i).hd (S.fl.getD i L0).to).wk, ((S.drop i).hd (S.fl.getD i L0).to).par, ((S.drop i).hd (S.fl.getD i L0).to).owed - 1⟩) (S.fl.getD i L0).to
      rw [fl_set] at this
      unfold WS.acked
      omega
    · unfold WS.take
      split
      · refine ⟨by simp, ?_⟩
        simp; omega
      · refine ⟨by simp, ?_⟩
        simp; omega
/-- A computation that was played, and its model. -/
def Pd (w : World) (z i b m : Nat) (S : WS) (w' : World) : Prop := Inv S ∧ S.n = z ∧ S.fl.length ≤ i ∧ Pr w b m S S w'
def PlEnd (w : World) (z : Nat) (e : Ending) (w' : World) : Prop := ∃ b m S, e = .returned (.tuple #[.pointer (some ⟨b, 0, none⟩), .pointer (some ⟨m, 0, none⟩)]) ∧ Pd w z 120 b m S w'
theorem Pr.over {w0 w : World} {b m : Nat} {S : WS} (h : Pr w0 b m S S w) (hv : Inv S) (he : endB S = true) : Calls Try.prog 39 #[.pointer (some ⟨b, 0, none⟩), .int .i64 S.n] w fun e w' => e = .returned (.bool true) ∧ Pr w0 b m S S w' := by
  obtain ⟨hb, hh, c, fv, hm, cm, fm, k, t, hd⟩ := h
  have h2 : (S.hd 0).wk = false ∧ (S.hd 0).owed = 0 := by
    unfold endB at he
    simpa using he
  refine (over39 k hv.n10 (by have := hv.room; omega) (Rng.ended hv h2.1 h2.2)).mono ?_
  rintro e w' ⟨rfl, hb2⟩
  exact ⟨rfl, Pr.below ⟨hb, hh, c, fv, hm, cm, fm, k, t, hd⟩ hb2⟩
theorem tri_cells {w : World} {v : Value} {xs : List (Nat × Nat × Nat)} (h : InTri w v xs) : ∃ ao c, v = .slice ao xs.length c ∧ xs.length ≤ c ∧ xs.length ≤ maxLen ∧ ∀ i, i < xs.length → ∃ g o c0 c1 c2, ao = some ⟨g, o, none⟩ ∧ g < w.heap.size ∧ c0 < 256 ∧ c1 < 256 ∧ c2 < 256 ∧
    w.cell? ⟨g, o + i * 3, none⟩ = some (.int .u8 (c0 : Nat)) ∧ w.cell? ⟨g, o + i * 3 + 1, none⟩ = some (.int .u8 (c1 : Nat)) ∧ w.cell? ⟨g, o + i * 3 + 2, none⟩ = some (.int .u8 (c2 : Nat)) := by
  obtain ⟨⟨_, ao, c, rfl, hc, _, hcl⟩, hm, hb⟩ := h
  refine ⟨ao, c, rfl, hc, hm, fun i hi => ?_⟩
  obtain ⟨g, o, rfl, hg, hcell⟩ := hcl (by omega)
  have hx := hb xs[i] (List.getElem_mem _)
  have f := fun k hk => flat_at (enc := enc3) (fun _ => rfl) xs i k hi (z := 3) hk
  refine ⟨g, o, xs[i].1, xs[i].2.1, xs[i].2.2, rfl, hg, hx.1, hx.2.1, hx.2.2, hcell _ _ (f 0 (by omega)), ?_, ?_⟩
  · rw [Nat.add_assoc]; exact hcell _ _ (f 1 (by omega))
  · rw [Nat.add_assoc]; exact hcell _ _ (f 2 (by omega))
set_option maxHeartbeats 20000000 in
set_option maxRecDepth 100000 in
theorem played36 {w : World} {v : Value} {xs : List (Nat × Nat × Nat)} (h : InTri w v xs) {a : Nat} (ha : a < 256) : Calls Try.prog 36 #[.int .u8 (a : Int), v] w (PlEnd w (a % 10 + 1)) := by
  obtain ⟨ao, xc, rfl, hxc, hxm, hcl⟩ := tri_cells h
  unfold maxLen at hxm
  obtain ⟨z, hz⟩ : ∃ z, z = a % 10 + 1 := ⟨_, rfl⟩
  have hz1 : 1 ≤ z ∧ z ≤ 10 := by omega
  have hz0 : ¬ (z : Int) = 0 := by omega
  have hzm : (a : Int) % 10 + 1 = (z : Int) := by omega
  rw [← hz]
  obtain ⟨q, hq⟩ : ∃ q, q = xs.length := ⟨_, rfl⟩
  rw [← hq] at hcl hxc hxm ⊢
  have hcl' := Lib.hid hcl
  have hbeg := Lib.hid (begin15 (w := w) hz1.1 hz1.2)
  have hrb := Lib.hid (fun (W : World) => begin21 (w := W) hz1.1 hz1.2)
  have hst := Lib.hid (Inv.start hz1.1 hz1.2)
  clear h hcl hz hq
  go_enter Try.func36, Try.ntmps36
  go_wp2_with (first
    | (go_at_call 15; refine hbeg.out.mono ?_; rintro e w1 ⟨pb, ph, pc, rfl, k, hb⟩; have k' := Lib.hid k; have hb' := Lib.hid hb; clear k hb)
    | (go_at_call 21; refine (hrb.out _).mono ?_; rintro e w2 ⟨mb, mh, mc, rfl, t, hb2⟩; have t' := Lib.hid t; have hb2' := Lib.hid hb2; clear t hb2))
  have hP0 := Lib.hid (show Pd w z 0 pb mb (WS.start z) w2 from ⟨hst.out, by simp [WS.start, WS.n], by simp [WS.start], hb'.out.trans (hb2'.out.mono hb'.out.size), ph, pc, _, mh, mc, _, k'.out.below hb2'.out, { t'.out with Bb := Nat.le_trans hb'.out.size t'.out.Bb, hn := own_base t'.out.hn hb'.out.size, fl := own_base t'.out.fl hb'.out.size }, fun i hi hp => by
    have h1 := (k'.out.pos i hi).2
    have h2 := (t'.out.pos i hp).1
    omega⟩)
  clear k' t' hb2' hbeg hrb
  go_loopw [10] (fun iv wr => ∃ i : Nat, i ≤ 120 ∧ i ≤ q ∧ iv = .int .i64 i ∧ ∃ S, Hid (Pd w z i pb mb S wr)) (fun iv _ => 120 - (intOf iv).toNat)
  case atStart => exact ⟨0, by omega, by omega, rfl, _, hP0⟩
  case round =>
    obtain ⟨i, hi, hiq, rfl, S, hP⟩ := hrel
    by_cases hlt : i < q
    · by_cases h120 : i < 120
      · obtain ⟨g, o, c0, c1, c2, rfl, hgw, b0, b1, b2, r0, r1, r2⟩ := hcl'.out i hlt
        have hbW := Lib.hid hP.out.2.2.2.1
        have x0 := (hbW.out.cell (p := ⟨g, o + i * 3, none⟩) hgw).trans r0
        have x1 := (hbW.out.cell (p := ⟨g, o + i * 3 + 1, none⟩) hgw).trans r1
        have x2 := (hbW.out.cell (p := ⟨g, o + i * 3 + 2, none⟩) hgw).trans r2
        obtain ⟨p, hp⟩ : ∃ p, p = c1 % z := ⟨_, rfl⟩
        obtain ⟨r, hr⟩ : ∃ p, p = c2 % z := ⟨_, rfl⟩
        have hm1 : (c1 : Int) % (z : Int) = (p : Int) := by rw [hp]; rfl
        have hm2 : (c2 : Int) % (z : Int) = (r : Int) := by rw [hr]; rfl
        have hii : (i : Int) < (q : Int) := by omega
        have hi120 : (i : Int) < 120 := by omega
        have hPv := Lib.hid hP.out.1
        have hPn := Lib.hid hP.out.2.1
        have hPl := Lib.hid hP.out.2.2.1
        have hPP := Lib.hid hP.out.2.2.2
        clear r0 r1 r2 hgw hp hr
        by_cases e0 : c0 % 4 = 0
        · have hk : (c0 : Int) % 4 = 0 := by omega
          clear e0
          go_wp2_with fail
          go_quiet (fail)
          generalize hW3 : wr.drewN _ = wq
          have x0 : wq.cell? ⟨g, o + i * 3, none⟩ = some (.int .u8 (c0 : Int)) := by rw [← hW3]; exact x0
          have x1 : wq.cell? ⟨g, o + i * 3 + 1, none⟩ = some (.int .u8 (c1 : Int)) := by rw [← hW3]; exact x1
          have x2 : wq.cell? ⟨g, o + i * 3 + 2, none⟩ = some (.int .u8 (c2 : Int)) := by rw [← hW3]; exact x2
          have hPq := Lib.hid (show Pr w pb mb S S wq by rw [← hW3]; exact hPP.out.below (below_drewN (Below.refl _ _) _))
          clear hW3
          obtain ⟨S1, hS1⟩ : ∃ T, T = (sendE S p r).2 := ⟨_, rfl⟩
          have hv1 := Lib.hid (show Inv S1 by rw [hS1]; exact Go.Proofs.Ytbemlfppekpmjaa.Inv.sendE hPv.out p r)
          have hn1 := Lib.hid (show S1.n = z by rw [hS1, (sendE_n S p r).1]; exact hPn.out)
          have hl1 := Lib.hid (show S1.fl.length ≤ i + 1 by rw [hS1]; have := (sendE_n S p r).2; have := hPl.out; omega)
          have ha1 := Lib.hid (show Calls Try.prog 27 #[.pointer (some ⟨pb, 0, none⟩), .int .i64 p, .int .i64 r] wq fun e w' => e = .returned (.int .i64 (sendE S p r).1) ∧ Pr w pb mb S1 S w' by rw [hS1]; exact (hPq.out).send hPv.out p r)
          have ha2 := Lib.hid (fun (W : World) (h : Pr w pb mb S1 S W) => (show Calls Try.prog 28 #[.pointer (some ⟨mb, 0, none⟩), .int .i64 p, .int .i64 r] W fun e w' => e = .returned (.int .i64 (sendE S p r).1) ∧ Pr w pb mb S1 S1 w' by rw [hS1]; have h2 := h; rw [hS1] at h2; exact h2.send' hPv.out p r))
          clear hS1
          obtain ⟨cd, hcd⟩ : ∃ cd : Int, cd = (sendE S p r).1 := ⟨_, rfl⟩
          rw [← hcd] at ha1 ha2
          clear hcd
          cases hE : endB S1 with
          | true =>
            have h38 := Lib.hid (fun (W : World) (h : Pr w pb mb S1 S1 W) => (show Calls Try.prog 38 #[.pointer (some ⟨pb, 0, none⟩)] W fun e w' => e = .returned (.bool true) ∧ W = w' by have := h.ended hv1.out.n1; rw [hE] at this; exact this))
            have h39 := Lib.hid (fun (W : World) (h : Pr w pb mb S1 S1 W) => (show Calls Try.prog 39 #[.pointer (some ⟨pb, 0, none⟩), .int .i64 z] W fun e w' => e = .returned (.bool true) ∧ Pr w pb mb S1 S1 w' by have := h.over hv1.out hE; rw [hn1.out] at this; exact this))
            clear hE
            go_wp2_with (first
              | (go_at_call 27; refine ha1.out.mono ?_; rintro e w3 ⟨rfl, P1⟩; have P1' := Lib.hid P1; clear P1)
              | (go_at_call 28; refine (ha2.out _ P1'.out).mono ?_; rintro e w4 ⟨rfl, P2⟩; have P2' := Lib.hid P2; clear P2)
              | (go_at_call 38; refine (h38.out _ P2'.out).mono ?_; rintro e w5 ⟨rfl, rfl⟩)
              | (go_at_call 39; refine (h39.out _ P2'.out).mono ?_; rintro e w6 ⟨rfl, P3⟩; have P3' := Lib.hid P3; clear P3))
            go_roundw
            case rel => exact ⟨i + 1, by omega, by omega, by go_num, S1, Lib.hid ⟨hv1.out, hn1.out, hl1.out, P3'.out⟩⟩
            case measure => simp [intOf]; omega
          | false =>
            have h38 := Lib.hid (fun (W : World) (h : Pr w pb mb S1 S1 W) => (show Calls Try.prog 38 #[.pointer (some ⟨pb, 0, none⟩)] W fun e w' => e = .returned (.bool false) ∧ W = w' by have := h.ended hv1.out.n1; rw [hE] at this; exact this))
            clear hE
            go_wp2_with (first
              | (go_at_call 27; refine ha1.out.mono ?_; rintro e w3 ⟨rfl, P1⟩; have P1' := Lib.hid P1; clear P1)
              | (go_at_call 28; refine (ha2.out _ P1'.out).mono ?_; rintro e w4 ⟨rfl, P2⟩; have P2' := Lib.hid P2; clear P2)
              | (go_at_call 38; refine (h38.out _ P2'.out).mono ?_; rintro e w5 ⟨rfl, rfl⟩))
            go_roundw
            case rel => exact ⟨i + 1, by omega, by omega, by go_num, S1, Lib.hid ⟨hv1.out, hn1.out, hl1.out, P2'.out⟩⟩
            case measure => simp [intOf]; omega
        · by_cases e1 : c0 % 4 = 1
          · have hk : (c0 : Int) % 4 = 1 := by omega
            clear e0 e1
            go_wp2_with fail
            go_quiet (fail)
            generalize hW3 : wr.drewN _ = wq
            have x0 : wq.cell? ⟨g, o + i * 3, none⟩ = some (.int .u8 (c0 : Int)) := by rw [← hW3]; exact x0
            have x1 : wq.cell? ⟨g, o + i * 3 + 1, none⟩ = some (.int .u8 (c1 : Int)) := by rw [← hW3]; exact x1
            have x2 : wq.cell? ⟨g, o + i * 3 + 2, none⟩ = some (.int .u8 (c2 : Int)) := by rw [← hW3]; exact x2
            have hPq := Lib.hid (show Pr w pb mb S S wq by rw [← hW3]; exact hPP.out.below (below_drewN (Below.refl _ _) _))
            clear hW3
            obtain ⟨S1, hS1⟩ : ∃ T, T = (idleE S p).2 := ⟨_, rfl⟩
            have hv1 := Lib.hid (show Inv S1 by rw [hS1]; exact Go.Proofs.Ytbemlfppekpmjaa.Inv.idleE hPv.out p)
            have hn1 := Lib.hid (show S1.n = z by rw [hS1, (idleE_n S p).1]; exact hPn.out)
            have hl1 := Lib.hid (show S1.fl.length ≤ i + 1 by rw [hS1]; have := (idleE_n S p).2; have := hPl.out; omega)
            have ha1 := Lib.hid (show Calls Try.prog 29 #[.pointer (some ⟨pb, 0, none⟩), .int .i64 p] wq fun e w' => e = .returned (.int .i64 (idleE S p).1) ∧ Pr w pb mb S1 S w' by rw [hS1]; exact (hPq.out).idle hPv.out p)
            have ha2 := Lib.hid (fun (W : World) (h : Pr w pb mb S1 S W) => (show Calls Try.prog 30 #[.pointer (some ⟨mb, 0, none⟩), .int .i64 p] W fun e w' => e = .returned (.int .i64 (idleE S p).1) ∧ Pr w pb mb S1 S1 w' by rw [hS1]; have h2 := h; rw [hS1] at h2; exact h2.idle' hPv.out p))
            clear hS1
            obtain ⟨cd, hcd⟩ : ∃ cd : Int, cd = (idleE S p).1 := ⟨_, rfl⟩
            rw [← hcd] at ha1 ha2
            clear hcd
            cases hE : endB S1 with
            | true =>
              have h38 := Lib.hid (fun (W : World) (h : Pr w pb mb S1 S1 W) => (show Calls Try.prog 38 #[.pointer (some ⟨pb, 0, none⟩)] W fun e w' => e = .returned (.bool true) ∧ W = w' by have := h.ended hv1.out.n1; rw [hE] at this; exact this))
              have h39 := Lib.hid (fun (W : World) (h : Pr w pb mb S1 S1 W) => (show Calls Try.prog 39 #[.pointer (some ⟨pb, 0, none⟩), .int .i64 z] W fun e w' => e = .returned (.bool true) ∧ Pr w pb mb S1 S1 w' by have := h.over hv1.out hE; rw [hn1.out] at this; exact this))
              clear hE
              go_wp2_with (first
                | (go_at_call 29; refine ha1.out.mono ?_; rintro e w3 ⟨rfl, P1⟩; have P1' := Lib.hid P1; clear P1)
                | (go_at_call 30; refine (ha2.out _ P1'.out).mono ?_; rintro e w4 ⟨rfl, P2⟩; have P2' := Lib.hid P2; clear P2)
                | (go_at_call 38; refine (h38.out _ P2'.out).mono ?_; rintro e w5 ⟨rfl, rfl⟩)
                | (go_at_call 39; refine (h39.out _ P2'.out).mono ?_; rintro e w6 ⟨rfl, P3⟩; have P3' := Lib.hid P3; clear P3))
              go_roundw
              case rel => exact ⟨i + 1, by omega, by omega, by go_num, S1, Lib.hid ⟨hv1.out, hn1.out, hl1.out, P3'.out⟩⟩
              case measure => simp [intOf]; omega
            | false =>
              have h38 := Lib.hid (fun (W : World) (h : Pr w pb mb S1 S1 W) => (show Calls Try.prog 38 #[.pointer (some ⟨pb, 0, none⟩)] W fun e w' => e = .returned (.bool false) ∧ W = w' by have := h.ended hv1.out.n1; rw [hE] at this; exact this))
              clear hE
              go_wp2_with (first
                | (go_at_call 29; refine ha1.out.mono ?_; rintro e w3 ⟨rfl, P1⟩; have P1' := Lib.hid P1; clear P1)
                | (go_at_call 30; refine (ha2.out _ P1'.out).mono ?_; rintro e w4 ⟨rfl, P2⟩; have P2' := Lib.hid P2; clear P2)
                | (go_at_call 38; refine (h38.out _ P2'.out).mono ?_; rintro e w5 ⟨rfl, rfl⟩))
              go_roundw
              case rel => exact ⟨i + 1, by omega, by omega, by go_num, S1, Lib.hid ⟨hv1.out, hn1.out, hl1.out, P2'.out⟩⟩
              case measure => simp [intOf]; omega
          · obtain ⟨d, hd⟩ : ∃ d, d = c0 % 4 := ⟨_, rfl⟩
            have hk : (c0 : Int) % 4 = (d : Int) := by omega
            have hd0 : ((d : Int) == 0) = false := by simp; omega
            have hd1 : ((d : Int) == 1) = false := by simp; omega
            clear e0 e1 hd
            go_wp2_with fail
            go_quiet (fail)
            generalize hW3 : wr.drewN _ = wq
            have x0 : wq.cell? ⟨g, o + i * 3, none⟩ = some (.int .u8 (c0 : Int)) := by rw [← hW3]; exact x0
            have x1 : wq.cell? ⟨g, o + i * 3 + 1, none⟩ = some (.int .u8 (c1 : Int)) := by rw [← hW3]; exact x1
            have x2 : wq.cell? ⟨g, o + i * 3 + 2, none⟩ = some (.int .u8 (c2 : Int)) := by rw [← hW3]; exact x2
            have hPq := Lib.hid (show Pr w pb mb S S wq by rw [← hW3]; exact hPP.out.below (below_drewN (Below.refl _ _) _))
            clear hW3
            obtain ⟨mc1, hmc1⟩ : ∃ u, wq.cell? ⟨mb, 1, none⟩ = some u ∧ ∃ ma mc, u = .slice ma S.fl.length mc := by
              obtain ⟨_, _, _, _, _, _, _, _, t, _⟩ := hPq.out
              obtain ⟨ma, mc, e, _⟩ := t.flv
              exact ⟨_, t.c1, ma, mc, e⟩
            obtain ⟨hm1c, ma, mc, rfl⟩ := hmc1
            obtain ⟨f, hf⟩ : ∃ f, f = S.fl.length := ⟨_, rfl⟩
            rw [← hf] at hm1c
            have hf' := Lib.hid hf
            by_cases hf0 : f = 0
            · subst hf0
              clear hf
              go_wp2_with fail
              go_roundw
              case rel => exact ⟨i + 1, by omega, by omega, by go_num, S, Lib.hid ⟨hPv.out, hPn.out, by have := hPl.out; omega, hPq.out⟩⟩
              case measure => simp [intOf]; omega
            · have hfn : ((f : Int) == 0) = false := by simp; omega
              have hfz : ¬ (f : Int) = 0 := by omega
              obtain ⟨kk, hkk⟩ : ∃ p, p = (c1 + c2) % f := ⟨_, rfl⟩
              have hmk : ((c1 : Int) + (c2 : Int)) % (f : Int) = (kk : Int) := by rw [hkk, show ((c1 : Int) + (c2 : Int)) = ((c1 + c2 : Nat) : Int) by omega]; rfl
              clear hf hkk
              go_wp2_with fail
              go_quiet (fail)
              generalize hW4 : wq.drewN _ = wz
              have hPz := Lib.hid (show Pr w pb mb S S wz by rw [← hW4]; exact hPq.out.below (below_drewN (Below.refl _ _) _))
              clear hW4
              obtain ⟨S1, hS1⟩ : ∃ T, T = (dlvE S kk).2 := ⟨_, rfl⟩
              have hv1 := Lib.hid (show Inv S1 by rw [hS1]; exact Go.Proofs.Ytbemlfppekpmjaa.Inv.dlvE hPv.out kk)
              have hn1 := Lib.hid (show S1.n = z by rw [hS1, (dlvE_n S kk).1]; exact hPn.out)
              have hl1 := Lib.hid (show S1.fl.length ≤ i + 1 by rw [hS1]; have := (dlvE_n S kk).2; have := hPl.out; omega)
              have ha1 := Lib.hid (show Calls Try.prog 31 #[.pointer (some ⟨pb, 0, none⟩), .int .i64 kk] wz fun e w' => e = .returned (.int .i64 (dlvE S kk).1) ∧ Pr w pb mb S1 S w' by rw [hS1]; exact (hPz.out).dlv hPv.out kk)
              have ha2 := Lib.hid (fun (W : World) (h : Pr w pb mb S1 S W) => (show Calls Try.prog 32 #[.pointer (some ⟨mb, 0, none⟩), .int .i64 kk] W fun e w' => e = .returned (.int .i64 (dlvE S kk).1) ∧ Pr w pb mb S1 S1 w' by rw [hS1]; have h2 := h; rw [hS1] at h2; exact h2.dlv' hPv.out kk))
              clear hS1
              obtain ⟨cd, hcd⟩ : ∃ cd : Int, cd = (dlvE S kk).1 := ⟨_, rfl⟩
              rw [← hcd] at ha1 ha2
              clear hcd
              cases hE : endB S1 with
              | true =>
                have h38 := Lib.hid (fun (W : World) (h : Pr w pb mb S1 S1 W) => (show Calls Try.prog 38 #[.pointer (some ⟨pb, 0, none⟩)] W fun e w' => e = .returned (.bool true) ∧ W = w' by have := h.ended hv1.out.n1; rw [hE] at this; exact this))
                have h39 := Lib.hid (fun (W : World) (h : Pr w pb mb S1 S1 W) => (show Calls Try.prog 39 #[.pointer (some ⟨pb, 0, none⟩), .int .i64 z] W fun e w' => e = .returned (.bool true) ∧ Pr w pb mb S1 S1 w' by have := h.over hv1.out hE; rw [hn1.out] at this; exact this))
                clear hE
                go_wp2_with (first
                  | (go_at_call 31; refine ha1.out.mono ?_; rintro e w3 ⟨rfl, P1⟩; have P1' := Lib.hid P1; clear P1)
                  | (go_at_call 32; refine (ha2.out _ P1'.out).mono ?_; rintro e w4 ⟨rfl, P2⟩; have P2' := Lib.hid P2; clear P2)
                  | (go_at_call 38; refine (h38.out _ P2'.out).mono ?_; rintro e w5 ⟨rfl, rfl⟩)
                  | (go_at_call 39; refine (h39.out _ P2'.out).mono ?_; rintro e w6 ⟨rfl, P3⟩; have P3' := Lib.hid P3; clear P3))
                go_roundw
                case rel => exact ⟨i + 1, by omega, by omega, by go_num, S1, Lib.hid ⟨hv1.out, hn1.out, hl1.out, P3'.out⟩⟩
                case measure => simp [intOf]; omega
              | false =>
                have h38 := Lib.hid (fun (W : World) (h : Pr w pb mb S1 S1 W) => (show Calls Try.prog 38 #[.pointer (some ⟨pb, 0, none⟩)] W fun e w' => e = .returned (.bool false) ∧ W = w' by have := h.ended hv1.out.n1; rw [hE] at this; exact this))
                clear hE
                go_wp2_with (first
                  | (go_at_call 31; refine ha1.out.mono ?_; rintro e w3 ⟨rfl, P1⟩; have P1' := Lib.hid P1; clear P1)
                  | (go_at_call 32; refine (ha2.out _ P1'.out).mono ?_; rintro e w4 ⟨rfl, P2⟩; have P2' := Lib.hid P2; clear P2)
                  | (go_at_call 38; refine (h38.out _ P2'.out).mono ?_; rintro e w5 ⟨rfl, rfl⟩))
                go_roundw
                case rel => exact ⟨i + 1, by omega, by omega, by go_num, S1, Lib.hid ⟨hv1.out, hn1.out, hl1.out, P2'.out⟩⟩
                case measure => simp [intOf]; omega
      · obtain rfl : i = 120 := by omega
        rw [show (((120 : Nat)) : Int) = 120 from rfl]
        have hq120 : (120 : Int) < (q : Int) := by omega
        go_wp2_with fail
        go_ret2
        exact ⟨pb, mb, S, rfl, hP.out⟩
    · obtain rfl : i = q := by omega
      go_wp2_with fail
      go_ret2
      exact ⟨pb, mb, S, rfl, hP.out.1, hP.out.2.1, Nat.le_trans hP.out.2.2.1 hi, hP.out.2.2.2⟩
end Go.Proofs.Ytbemlfppekpmjaa
