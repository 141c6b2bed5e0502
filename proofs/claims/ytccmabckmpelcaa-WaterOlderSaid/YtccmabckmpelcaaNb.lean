import Derived.Test.YtccmabckmpelcaaNa
import Derived.Deep.CutRange
namespace Go.Proofs.Ytccmabckmpelcaa
open Go.RowKit

set_option maxHeartbeats 8000000 in
set_option maxRecDepth 100000 in
theorem most45 {w : World} {u v z : Value} {fs tb : List Int} {gs : List (List Int)} {T n m : Nat} (hu : Reads w u fs) (hv : ReadsG w v gs) (hz : Reads w z tb) (hn : n = fs.length) (hng : n = gs.length) (hm : m = T + 1) (htl : tb.length = m) (hT : T ≤ 1000000)
    (i W : Nat) (hi : i < n) (hW : W ≤ T) (hf0 : 0 ≤ fs.getD i 0) (hf1 : fs.getD i 0 ≤ 31) (hg : gainB (gs.getD i []) = true) (htb : ∀ j, 0 ≤ tb.getD j 0 ∧ tb.getD j 0 ≤ 1000000) :
    Calls Try.prog 45 #[u, v, .int .i64 i, .int .i64 W, z] w fun e w' => e = .returned (.int .i64 (mostF tb T (gs.getD i []) (fs.getD i 0) (W : Int))) ∧ ∃ q, w' = w.drewN q := by
  have hu' := Lib.hid hu
  have hv' := Lib.hid hv
  have hz' := Lib.hid hz
  obtain ⟨uo, uc, rfl, _, _⟩ := hu
  obtain ⟨vo, vc, rfl, _, _⟩ := hv
  obtain ⟨zo, zc, rfl, _, _⟩ := hz
  rw [← hn] at hu' ⊢
  rw [← hng] at hv' ⊢
  rw [htl] at hz' ⊢
  obtain ⟨g1, o1, rfl, hg1, hc1⟩ := hu'.out.at hn.symm hi
  obtain ⟨g2, o2, rfl, hg2, ro, rc, hc2, hrow⟩ := hv'.out.at hng.symm hi
  obtain ⟨g3, o3, rfl, hg3, hc3⟩ := hz'.out.at htl (k := 0) (by omega)
  have c1 := hc1 i hi
  obtain ⟨F, hF⟩ : ∃ F, F = fs.getD i 0 := ⟨_, rfl⟩
  rw [← hF] at c1 hf0 hf1 ⊢
  obtain ⟨l, hl⟩ : ∃ l, l = gs.getD i [] := ⟨_, rfl⟩
  rw [← hl] at hc2 hrow hg ⊢
  obtain ⟨r, hr⟩ : ∃ r, r = l.length := ⟨_, rfl⟩
  have h20 := (gain_at hg).1
  rw [← hr] at hc2 hrow h20
  have hrow' := Lib.hid hrow
  have hc3' := Lib.hid hc3
  have htb' := Lib.hid htb
  have hg' := Lib.hid hg
  have hbnd := Lib.hid (show ∀ x, 0 ≤ hMost tb T l F (W : Int) x ∧ hMost tb T l F (W : Int) x ≤ 1020000 from fun x => by
    have h1 := gainTo_bd hg x
    have h2 := htb (jAt T F (W : Int) x)
    unfold hMost; omega)
  have hr' := Lib.hid hr
  obtain ⟨N, hN⟩ : ∃ N : Nat, N = min r ((W : Int) + F).toNat := ⟨_, rfl⟩
  have hN1 : N ≤ r ∧ (N : Int) ≤ (W : Int) + F := by omega
  obtain ⟨hN1, hN2⟩ := hN1
  have hN3 := Lib.hid (show mxb (hMost tb T l F (W : Int)) (N + 1) = mostF tb T l F (W : Int) by
    unfold mostF; rw [mxb_mx _ (fun k _ => (hbnd.out k).1), hN, hr])
  have hN' := Lib.hid hN
  have hm1 : 1 ≤ m := by omega
  have hmT : (T : Int) = (m : Int) - 1 := by omega
  have hm' := Lib.hid hm
  have hmT' := Lib.hid hmT
  have hW2 : W < m := by omega
  have hm2 : m ≤ 1000001 := by omega
  clear hF hl hr hrow hc3 htb hg hc1 hN hm htl hn hng hmT hT hW
  go_enter Try.func45, Try.ntmps45
  go_wp2_with fail
  go_loopw [11, 12] (fun bv i wr => ∃ (k : Nat) (q : Nat), k ≤ N + 1 ∧ i = .int .i64 k ∧ bv = .int .i64 (mxb (hMost tb T l F (W : Int)) k) ∧ wr = w.drewN q) (fun _ i _ => N + 1 - (intOf i).toNat)
  case atStart => exact ⟨0, 0, by omega, rfl, rfl, rfl⟩
  case round =>
    obtain ⟨k, q, hk, rfl, rfl, hq⟩ := hrel
    have hq' := Lib.hid hq
    have c1r : wr.cell? ⟨g1, o1 + i, none⟩ = some (.int .i64 F) := by rw [hq]; exact c1
    have c2r : wr.cell? ⟨g2, o2 + i, none⟩ = some (.slice ro r rc) := by rw [hq]; exact hc2
    have hrowr := Lib.hid (show Reads wr (.slice ro r rc) l by rw [hq]; exact hrow'.out.below (below_drewN (Below.refl _ _) _))
    clear hq
    have hb := mxb_bd (h := hMost tb T l F (W : Int)) (b := 1020000) (by omega) k (fun k _ => (hbnd.out k).2)
    have hnx := Lib.hid (show mxb (hMost tb T l F (W : Int)) (k + 1) = max (mxb (hMost tb T l F (W : Int)) k) (hMost tb T l F (W : Int) k) from rfl)
    obtain ⟨A, hA⟩ : ∃ A, A = mxb (hMost tb T l F (W : Int)) k := ⟨_, rfl⟩
    rw [← hA] at hb hnx ⊢
    obtain ⟨hA0, hA1⟩ := hb
    have hA' := Lib.hid hA
    clear hA
    by_cases hkN : k ≤ N
    · have e1 : k ≤ r := by omega
      have e2 : (k : Int) ≤ (W : Int) + F := by omega
      have d1 : decide (k ≤ r) = true := by simpa using e1
      have d2 : decide ((k : Int) ≤ (W : Int) + F) = true := by simpa using e2
      obtain ⟨J, hJ⟩ : ∃ J : Nat, J = jAt T F (W : Int) k := ⟨_, rfl⟩
      have hJ2 : (J : Int) = min ((m : Int) - 1) ((W : Int) + F - k) := by rw [hJ]; unfold jAt; rw [hmT'.out]; omega
      have c3 : wr.cell? ⟨g3, o3 + J, none⟩ = some (.int .i64 (tb.getD J 0)) := by rw [hq'.out]; exact hc3'.out J (by omega)
      have hjb := htb'.out J
      have hgb := gainTo_bd hg'.out k
      have hh := Lib.hid (show hMost tb T l F (W : Int) k = gainTo l k + tb.getD J 0 by unfold hMost; rw [hJ])
      obtain ⟨Y, hY⟩ : ∃ Y, Y = tb.getD J 0 := ⟨_, rfl⟩
      rw [← hY] at c3 hjb hh
      obtain ⟨G, hG⟩ : ∃ G, G = gainTo l k := ⟨_, rfl⟩
      rw [← hG] at hgb hh
      obtain ⟨hjb1, hjb2⟩ := hjb
      obtain ⟨hgb1, hgb2⟩ := hgb
      have hG' := Lib.hid hG
      clear hY hG hJ
      have hcall := Lib.hid (show ∀ p, Calls Try.prog 43 #[.slice ro r rc, .int .i64 (k : Int)] (wr.drewN p) (fun e w' => e = .returned (.int .i64 G) ∧ w' = wr.drewN p) from fun p => by
        have := gain43 (w := wr.drewN p) (hrowr.out.below (below_drewN (Below.refl _ _) _)) hg'.out (k : Int) (by omega)
        rw [Int.toNat_natCast, ← hG'.out] at this
        exact this)
      have hj0 : (0 : Int) ≤ (J : Int) := by omega
      have hj1 : (J : Int) < (m : Int) := by omega
      have wm : IntKind.i64.wrap ((m : Int) - 1) = (m : Int) - 1 := IntWalk.i64_in _ (by omega)
      have wf : IntKind.i64.wrap ((W : Int) + F) = (W : Int) + F := IntWalk.i64_in _ (by omega)
      have wx : IntKind.i64.wrap ((W : Int) + F - (k : Int)) = (W : Int) + F - (k : Int) := IntWalk.i64_in _ (by omega)
      go_wp2_with fail
      have wg : IntKind.i64.wrap (G + Y) = G + Y := IntWalk.i64_in _ (by omega)
      have hres := Lib.hid (show (if A < G + Y then G + Y else A) = mxb (hMost tb T l F (W : Int)) (k + 1) by rw [hnx.out, hh.out]; split <;> omega)
      by_cases hmin : (m : Int) - 1 ≤ (W : Int) + F - k
      · obtain rfl : J = m - 1 := by omega
        go_quiet ((go_at_call 43; exact Calls.quiet_of_same (hcall.out _)))
        go_wp2
        go_roundw
        case rel => exact ⟨k + 1, q + nq, by omega, by go_num, int_eq hres.out, by rw [hq'.out]; exact World.drewN_drewN _ _ _⟩
        case measure => simp [intOf]; omega
      · have eJ : J = ((W : Int) + F).toNat - k := by omega
        rw [eJ] at c3
        have hx0 : 0 ≤ (W : Int) + F - k := by omega
        have hx1 : (W : Int) + F - k < m := by omega
        have hx2 : (W : Int) + F - k < (m : Int) - 1 := by omega
        clear eJ hmin
        go_quiet ((go_at_call 43; exact Calls.quiet_of_same (hcall.out _)))
        go_wp2
        go_roundw
        case rel => exact ⟨k + 1, q + nq, by omega, by go_num, int_eq hres.out, by rw [hq'.out]; exact World.drewN_drewN _ _ _⟩
        case measure => simp [intOf]; omega
    · have hkk : k = N + 1 := by omega
      have hfin := Lib.hid (show A = mostF tb T l F (W : Int) by rw [hA'.out, hkk, hN3.out])
      have hex := Lib.hid (show wr = w.drewN q from hq'.out)
      by_cases e1 : k ≤ r
      · have e2 : ¬ (k : Int) ≤ (W : Int) + F := by have := hN'.out; omega
        have d1 : decide (k ≤ r) = true := by simpa using e1
        have d2 : decide ((k : Int) ≤ (W : Int) + F) = false := by simpa using e2
        clear hkk
        go_wp2_with fail
        go_ret
        exact ⟨ret_i hfin.out, q, hex.out⟩
      · have d1 : decide (k ≤ r) = false := by simpa using e1
        clear hkk
        go_wp2_with fail
        go_ret
        exact ⟨ret_i hfin.out, q, hex.out⟩
end Go.Proofs.Ytccmabckmpelcaa
