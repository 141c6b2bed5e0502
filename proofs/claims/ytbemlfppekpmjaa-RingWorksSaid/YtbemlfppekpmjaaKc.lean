import Derived.Test.YtbemlfppekpmjaaKb
namespace Go.Proofs.Ytbemlfppekpmjaa
open Go.RowKit Rng
/-- The state of the outer loop. -/
def Lv (w : World) (b z s : Nat) (S : WS) (w' : World) : Prop := WkK w b S w' ∧ S.n = z ∧ s + S.phi ≤ 1000
theorem Pr.tk {w0 w : World} {b m : Nat} {S T : WS} (h : Pr w0 b m S T w) : ∃ a c, w.cell? ⟨m, 0, none⟩ = some (.slice a T.n c) := by
  obtain ⟨_, _, _, _, _, _, _, _, t, _⟩ := h
  exact ⟨_, _, t.c0⟩
theorem Pr.wk {w0 w : World} {b m : Nat} {S T : WS} (h : Pr w0 b m S T w) (hv : Inv S) : WkK w0 b S w := by
  obtain ⟨hb, hh, c, fv, _, _, _, k, _⟩ := h
  exact ⟨hb, hv, hh, c, fv, k⟩
set_option maxHeartbeats 4000000 in
set_option maxRecDepth 100000 in
theorem walk10 {w : World} {n : Int} {v u : Value} {xs : List (Nat × Nat × Nat)} {os : List Nat} (hw : (Lit.int .u8 n).wf = true) (h : InTri w v xs) (ho : InU8 w u os) : Calls Try.prog 10 #[.int .u8 n, v, u] w (LawEnd w) := by
  obtain ⟨a, rfl, ha⟩ := byte_nat hw
  have hp := Lib.hid (played36 h ha)
  obtain ⟨ao, xc, rfl, -⟩ := tri_cells h
  obtain ⟨z, hz⟩ : ∃ z, z = a % 10 + 1 := ⟨_, rfl⟩
  have hz1 : 1 ≤ z ∧ z ≤ 10 := by omega
  have hz0 : ¬ (z : Int) = 0 := by omega
  rw [← hz] at hp
  obtain ⟨⟨oo, oc, rfl, hoc, hom, hol⟩, h255⟩ := ho
  unfold maxLen at hom
  obtain ⟨r, hr⟩ : ∃ r, r = os.length := ⟨_, rfl⟩
  rw [← hr] at hoc hom hol ⊢
  have hr' := Lib.hid hr
  have hol' := Lib.hid hol
  have h255' := Lib.hid h255
  clear h hw hz hol h255 hr
  go_enter Try.func10, Try.ntmps10
  go_wp2_with (first
    | (go_at_call 36; refine hp.out.mono ?_; rintro e w1 ⟨b, m, S0, rfl, hP⟩; have hP' := Lib.hid hP; clear hP)
    | (go_at_call 19; refine (lives19 _).mono ?_; rintro e w2 ⟨rfl, hb⟩
       obtain ⟨ta, tc, ht⟩ := (hP'.out.2.2.2.below hb).tk
       rw [hP'.out.2.1] at ht
       have hK := Lib.hid (show Lv w b z 0 S0 w2 from ⟨(hP'.out.2.2.2.below hb).wk hP'.out.1, hP'.out.2.1, by have := phi_le S0; have := hP'.out.2.2.1; have := hP'.out.2.1; omega⟩)
       clear hb))
  clear hp hP'
  go_loopw [10] (fun iv wr => ∃ s : Nat, s ≤ 3000 ∧ iv = .int .i64 s ∧ ∃ S, Hid (Lv w b z s S wr)) (fun iv _ => 3000 - (intOf iv).toNat)
  case atStart => exact ⟨0, by omega, rfl, S0, hK⟩
  case round =>
    obtain ⟨s, hs, rfl, S, hL⟩ := hrel
    have hs1 : s ≤ 1000 := by have := hL.out.2.2; omega
    have hsI : (s : Int) < 3000 := by omega
    have hn := Lib.hid hL.out.2.1
    have hbw := Lib.hid hL.out.1.1
    by_cases hr0 : 0 < r
    · obtain ⟨ix, hix⟩ : ∃ ix, ix = s % r := ⟨_, rfl⟩
      have hixr : ix < r := by rw [hix]; exact Nat.mod_lt _ hr0
      have hm0 : (s : Int) % (r : Int) = (ix : Int) := by rw [hix]; rfl
      obtain ⟨g, o, rfl, hgw, hcell⟩ := hol'.out (fun e => by have := hr'.out; rw [e] at this; simp at this; omega)
      have x0 := (hbw.out.cell (p := ⟨g, o + ix, none⟩) hgw).trans (hcell ix (by have := hr'.out; omega))
      obtain ⟨vv, hvv⟩ : ∃ vv, vv = os.getD ix 0 := ⟨_, rfl⟩
      have hv255 : vv ≤ 255 := by rw [hvv]; exact h255'.out ix
      rw [← hvv] at x0
      have hr0I : (0 : Int) < (r : Int) := by omega
      have hrz : ¬ (r : Int) = 0 := by omega
      have hixI : (ix : Int) < (r : Int) := by omega
      clear hcell hgw hvv hix
      obtain ⟨i, hi⟩ : ∃ i, i = vv % z := ⟨_, rfl⟩
      have hiz : i < z := by rw [hi]; exact Nat.mod_lt _ (by omega)
      have hm1 : (vv : Int) % (z : Int) = (i : Int) := by rw [hi]; rfl
      clear hi
      obtain ⟨S1, hS1⟩ : ∃ T, T = (idleE S i).2 := ⟨_, rfl⟩
      obtain ⟨cd, hcd⟩ : ∃ cd, cd = (idleE S i).1 := ⟨_, rfl⟩
      have hi1 := Lib.hid (show Calls Try.prog 29 #[.pointer (some ⟨b, 0, none⟩), .int .i64 i] wr fun e w' => e = .returned (.int .i64 cd) ∧ WkK w b S1 w' by rw [hS1, hcd]; exact hL.out.1.idle i)
      have hcode : cd = 0 ∨ cd = 5 ∨ cd = 7 := by rw [hcd]; exact idleE_code (by rw [hn.out]; exact hiz)
      have hn1 := Lib.hid (show S1.n = z by rw [hS1, (idleE_n S i).1]; exact hn.out)
      have hv1 := Lib.hid (show Inv S1 by rw [hS1]; exact Go.Proofs.Ytbemlfppekpmjaa.Inv.idleE hL.out.1.2.1 i)
      have hph := Lib.hid (show s + S1.phi ≤ 1000 by rw [hS1]; have := phi_idleE hL.out.1.2.1 (x := i) (by rw [hn.out]; exact hiz); have := hL.out.2.2; omega)
      clear hS1 hcd
      rcases hcode with rfl | rfl | rfl
      all_goals
        obtain ⟨f, hf⟩ : ∃ f, f = S1.fl.length := ⟨_, rfl⟩
        have hf' := Lib.hid hf
        by_cases hf0 : f = 0
        · subst hf0
          clear hf
          go_wp2_with (first
            | (go_at_call 29; refine hi1.out.mono ?_; rintro e w3 ⟨rfl, K1⟩; have K1' := Lib.hid K1; clear K1)
            | (go_at_call 37; refine K1'.out.flight.mono ?_; rw [← hf'.out]; rintro e w4 ⟨fa, fc, rfl, K2⟩; have K2' := Lib.hid K2; clear K2))
          go_loopw [15] (fun kv wk => ∃ k : Nat, k ≤ z ∧ kv = .int .i64 k ∧ ∃ T, Hid (WkK w b T wk ∧ Calm S1 T k)) (fun kv _ => z - (intOf kv).toNat)
          case atStart => exact ⟨0, Nat.zero_le _, rfl, S1, Lib.hid ⟨K2'.out, rfl, by have := hf'.out; omega, by have := hf'.out; omega, fun j hj => by omega⟩⟩
          case round =>
            obtain ⟨k, hk, rfl, T, hT⟩ := hrel
            by_cases hkz : k < z
            · have hkI : (k : Int) < (z : Int) := by omega
              have hid := Lib.hid (hT.out.1.idle k)
              have hcl := Lib.hid (hT.out.2.next hT.out.1.2.1 (by rw [hn1.out]; exact hkz) (by omega))
              go_wp2_with (go_at_call 29; refine hid.out.mono ?_; rintro e w5 ⟨rfl, K3⟩; have K3' := Lib.hid K3; clear K3)
              go_roundw
              case rel => exact ⟨k + 1, by omega, by go_num, _, Lib.hid ⟨K3'.out, hcl.out⟩⟩
              case measure => simp [intOf]; omega
            · obtain rfl : k = z := by omega
              obtain ⟨q, hq⟩ : ∃ q, q = T.fl.length := ⟨_, rfl⟩
              have hq' := Lib.hid hq
              by_cases hq0 : q = 0
              · subst hq0
                have hdn := Lib.hid (done hT.out.1.2.1 (fun j hj => hT.out.2.2.2.2 j (by have := hT.out.2.1; have := hn1.out; omega)) hq.symm)
                have hTn := Lib.hid (show T.n = k from hT.out.2.1.trans hn1.out)
                clear hq
                go_wp2_with (first
                  | (go_at_call 37; refine hT.out.1.flight.mono ?_; rw [← hq'.out]; rintro e w6 ⟨ga, gc, rfl, K4⟩; have K4' := Lib.hid K4; clear K4)
                  | (go_at_call 38; refine K4'.out.ended.mono ?_; rw [hdn.out.1]; rintro e w7 ⟨rfl, rfl⟩)
                  | (go_at_call 39; refine (show Calls Try.prog 39 #[.pointer (some ⟨b, 0, none⟩), .int .i64 k] _ _ by have := K4'.out.over hdn.out.2; rw [hTn.out] at this; exact this).mono ?_; rintro e w8 ⟨rfl, K5⟩; have K5' := Lib.hid K5; clear K5))
                go_ret
                exact ⟨rfl, K5'.out.1⟩
              · have hqn : ((q : Int) == 0) = false := by simp; omega
                clear hq
                go_wp2_with (go_at_call 37; refine hT.out.1.flight.mono ?_; rw [← hq'.out]; rintro e w6 ⟨ga, gc, rfl, K4⟩; have K4' := Lib.hid K4; clear K4)
                go_roundw
                case rel => exact ⟨s + 1, by omega, by go_num, T, Lib.hid ⟨K4'.out, hT.out.2.1.trans hn1.out, by have := hT.out.2.2.2.1; have := hph.out; have := hq'.out; omega⟩⟩
                case measure => simp [intOf]; omega
        · have hfn : ((f : Int) == 0) = false := by simp; omega
          have hfz : ¬ (f : Int) = 0 := by omega
          obtain ⟨kk, hkk⟩ : ∃ p, p = vv % f := ⟨_, rfl⟩
          have hkf : kk < f := by rw [hkk]; exact Nat.mod_lt _ (by omega)
          have hmk : (vv : Int) % (f : Int) = (kk : Int) := by rw [hkk]; rfl
          have hdl := Lib.hid (fun (W : World) (K : WkK w b S1 W) => (show Calls Try.prog 31 #[.pointer (some ⟨b, 0, none⟩), .int .i64 kk] W fun e w' => e = .returned (.int .i64 0) ∧ WkK w b (S1.dlv kk) w' by
            have := K.deliver kk
            have e1 : dlvE S1 kk = (0, S1.dlv kk) := by unfold dlvE; rw [if_neg (by rw [← hf]; simp [inB]; omega), Int.toNat_natCast]
            rw [e1] at this; exact this))
          have hpd := Lib.hid (fun (hv : Inv S1) => phi_dlv hv (k := kk) (by rw [← hf]; exact hkf))
          have hnd := Lib.hid (show (S1.dlv kk).n = z by
            have := (dlvE_n S1 kk).1
            have e1 : dlvE S1 kk = (0, S1.dlv kk) := by unfold dlvE; rw [if_neg (by rw [← hf]; simp [inB]; omega), Int.toNat_natCast]
            rw [e1] at this; exact this.trans hn1.out)
          clear hf hkk
          go_wp2_with (first
            | (go_at_call 29; refine hi1.out.mono ?_; rintro e w3 ⟨rfl, K1⟩; have K1' := Lib.hid K1; clear K1)
            | (go_at_call 37; refine K1'.out.flight.mono ?_; rw [← hf'.out]; rintro e w4 ⟨fa, fc, rfl, K2⟩; have K2' := Lib.hid K2; clear K2)
            | (go_at_call 31; refine (hdl.out _ K2'.out).mono ?_; rintro e w5 ⟨rfl, K3⟩; have K3' := Lib.hid K3; clear K3))
          go_roundw
          case rel => exact ⟨s + 1, by omega, by go_num, _, Lib.hid ⟨K3'.out, hnd.out, by have := hpd.out hv1.out; have := hph.out; omega⟩⟩
          case measure => simp [intOf]; omega
    · obtain rfl : r = 0 := by omega
      obtain ⟨i, hi⟩ : ∃ i, i = s % z := ⟨_, rfl⟩
      have hiz : i < z := by rw [hi]; exact Nat.mod_lt _ (by omega)
      have hm1 : (s : Int) % (z : Int) = (i : Int) := by rw [hi]; rfl
      clear hi
      obtain ⟨S1, hS1⟩ : ∃ T, T = (idleE S i).2 := ⟨_, rfl⟩
      obtain ⟨cd, hcd⟩ : ∃ cd, cd = (idleE S i).1 := ⟨_, rfl⟩
      have hi1 := Lib.hid (show Calls Try.prog 29 #[.pointer (some ⟨b, 0, none⟩), .int .i64 i] wr fun e w' => e = .returned (.int .i64 cd) ∧ WkK w b S1 w' by rw [hS1, hcd]; exact hL.out.1.idle i)
      have hcode : cd = 0 ∨ cd = 5 ∨ cd = 7 := by rw [hcd]; exact idleE_code (by rw [hn.out]; exact hiz)
      have hn1 := Lib.hid (show S1.n = z by rw [hS1, (idleE_n S i).1]; exact hn.out)
      have hv1 := Lib.hid (show Inv S1 by rw [hS1]; exact Go.Proofs.Ytbemlfppekpmjaa.Inv.idleE hL.out.1.2.1 i)
      have hph := Lib.hid (show s + S1.phi ≤ 1000 by rw [hS1]; have := phi_idleE hL.out.1.2.1 (x := i) (by rw [hn.out]; exact hiz); have := hL.out.2.2; omega)
      clear hS1 hcd
      rcases hcode with rfl | rfl | rfl
      all_goals
        obtain ⟨f, hf⟩ : ∃ f, f = S1.fl.length := ⟨_, rfl⟩
        have hf' := Lib.hid hf
        by_cases hf0 : f = 0
        · subst hf0
          clear hf
          go_wp2_with (first
            | (go_at_call 29; refine hi1.out.mono ?_; rintro e w3 ⟨rfl, K1⟩; have K1' := Lib.hid K1; clear K1)
            | (go_at_call 37; refine K1'.out.flight.mono ?_; rw [← hf'.out]; rintro e w4 ⟨fa, fc, rfl, K2⟩; have K2' := Lib.hid K2; clear K2))
          go_loopw [15] (fun kv wk => ∃ k : Nat, k ≤ z ∧ kv = .int .i64 k ∧ ∃ T, Hid (WkK w b T wk ∧ Calm S1 T k)) (fun kv _ => z - (intOf kv).toNat)
          case atStart => exact ⟨0, Nat.zero_le _, rfl, S1, Lib.hid ⟨K2'.out, rfl, by have := hf'.out; omega, by have := hf'.out; omega, fun j hj => by omega⟩⟩
          case round =>
            obtain ⟨k, hk, rfl, T, hT⟩ := hrel
            by_cases hkz : k < z
            · have hkI : (k : Int) < (z : Int) := by omega
              have hid := Lib.hid (hT.out.1.idle k)
              have hcl := Lib.hid (hT.out.2.next hT.out.1.2.1 (by rw [hn1.out]; exact hkz) (by omega))
              go_wp2_with (go_at_call 29; refine hid.out.mono ?_; rintro e w5 ⟨rfl, K3⟩; have K3' := Lib.hid K3; clear K3)
              go_roundw
              case rel => exact ⟨k + 1, by omega, by go_num, _, Lib.hid ⟨K3'.out, hcl.out⟩⟩
              case measure => simp [intOf]; omega
            · obtain rfl : k = z := by omega
              obtain ⟨q, hq⟩ : ∃ q, q = T.fl.length := ⟨_, rfl⟩
              have hq' := Lib.hid hq
              by_cases hq0 : q = 0
              · subst hq0
                have hdn := Lib.hid (done hT.out.1.2.1 (fun j hj => hT.out.2.2.2.2 j (by have := hT.out.2.1; have := hn1.out; omega)) hq.symm)
                have hTn := Lib.hid (show T.n = k from hT.out.2.1.trans hn1.out)
                clear hq
                go_wp2_with (first
                  | (go_at_call 37; refine hT.out.1.flight.mono ?_; rw [← hq'.out]; rintro e w6 ⟨ga, gc, rfl, K4⟩; have K4' := Lib.hid K4; clear K4)
                  | (go_at_call 38; refine K4'.out.ended.mono ?_; rw [hdn.out.1]; rintro e w7 ⟨rfl, rfl⟩)
                  | (go_at_call 39; refine (show Calls Try.prog 39 #[.pointer (some ⟨b, 0, none⟩), .int .i64 k] _ _ by have := K4'.out.over hdn.out.2; rw [hTn.out] at this; exact this).mono ?_; rintro e w8 ⟨rfl, K5⟩; have K5' := Lib.hid K5; clear K5))
                go_ret
                exact ⟨rfl, K5'.out.1⟩
              · have hqn : ((q : Int) == 0) = false := by simp; omega
                clear hq
                go_wp2_with (go_at_call 37; refine hT.out.1.flight.mono ?_; rw [← hq'.out]; rintro e w6 ⟨ga, gc, rfl, K4⟩; have K4' := Lib.hid K4; clear K4)
                go_roundw
                case rel => exact ⟨s + 1, by omega, by go_num, T, Lib.hid ⟨K4'.out, hT.out.2.1.trans hn1.out, by have := hT.out.2.2.2.1; have := hph.out; have := hq'.out; omega⟩⟩
                case measure => simp [intOf]; omega
        · have hfn : ((f : Int) == 0) = false := by simp; omega
          have hfz : ¬ (f : Int) = 0 := by omega
          obtain ⟨kk, hkk⟩ : ∃ p, p = s % f := ⟨_, rfl⟩
          have hkf : kk < f := by rw [hkk]; exact Nat.mod_lt _ (by omega)
          have hmk : (s : Int) % (f : Int) = (kk : Int) := by rw [hkk]; rfl
          have hdl := Lib.hid (fun (W : World) (K : WkK w b S1 W) => (show Calls Try.prog 31 #[.pointer (some ⟨b, 0, none⟩), .int .i64 kk] W fun e w' => e = .returned (.int .i64 0) ∧ WkK w b (S1.dlv kk) w' by
            have := K.deliver kk
            have e1 : dlvE S1 kk = (0, S1.dlv kk) := by unfold dlvE; rw [if_neg (by rw [← hf]; simp [inB]; omega), Int.toNat_natCast]
            rw [e1] at this; exact this))
          have hpd := Lib.hid (fun (hv : Inv S1) => phi_dlv hv (k := kk) (by rw [← hf]; exact hkf))
          have hnd := Lib.hid (show (S1.dlv kk).n = z by
            have := (dlvE_n S1 kk).1
            have e1 : dlvE S1 kk = (0, S1.dlv kk) := by unfold dlvE; rw [if_neg (by rw [← hf]; simp [inB]; omega), Int.toNat_natCast]
            rw [e1] at this; exact this.trans hn1.out)
          clear hf hkk
          go_wp2_with (first
            | (go_at_call 29; refine hi1.out.mono ?_; rintro e w3 ⟨rfl, K1⟩; have K1' := Lib.hid K1; clear K1)
            | (go_at_call 37; refine K1'.out.flight.mono ?_; rw [← hf'.out]; rintro e w4 ⟨fa, fc, rfl, K2⟩; have K2' := Lib.hid K2; clear K2)
            | (go_at_call 31; refine (hdl.out _ K2'.out).mono ?_; rintro e w5 ⟨rfl, K3⟩; have K3' := Lib.hid K3; clear K3))
          go_roundw
          case rel => exact ⟨s + 1, by omega, by go_num, _, Lib.hid ⟨K3'.out, hnd.out, by have := hpd.out hv1.out; have := hph.out; omega⟩⟩
          case measure => simp [intOf]; omega
end Go.Proofs.Ytbemlfppekpmjaa
