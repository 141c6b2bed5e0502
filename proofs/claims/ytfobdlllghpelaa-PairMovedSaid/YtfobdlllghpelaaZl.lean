import Derived.Test.YtfobdlllghpelaaZk
namespace Go.Proofs.Ytfobdlllghpelaa
open Go.RowKit Go.Shelf Pair
attribute [local go_sem] Oper.semAt_some

theorem proves36_bad {w : World} {v a b : Value} {cs : List (List Int)} (h : Cst w v cs) (hb : validC cs = false) (s : Int) :
    Calls Try.prog 36 #[v, a, b, .int .i64 s] w fun e w' => e = .returned (.tuple #[.bool false, .int .i64 1]) ∧ w = w' := by
  have hv := Lib.hid (valid48' h)
  rw [hb] at hv
  clear h
  go_enter Try.func36, Try.ntmps36
  go_wp2_with fail
  refine (hv.out).mono ?_
  rintro e w1 ⟨rfl, rfl⟩
  go_wp2_with fail
  go_ret2
  exact ⟨rfl, rfl⟩

set_option maxHeartbeats 4000000 in
set_option maxRecDepth 100000 in
theorem proves36 {w : World} {v a b : Value} {cs : List (List Int)} {n : Nat} {R L : List Int} (h : Cst w v cs) (hb : validC cs = true) (hg : Good cs n) (ha : Reads w a R) (hbb : Reads w b L) (hRl : R.length ≤ 1000) (hLl : L.length ≤ 1000) (s : Int) :
    Calls Try.prog 36 #[v, a, b, .int .i64 s] w fun e w' => e = .returned (.tuple #[.bool (prB n R && prB n L && pvB cs n R L s), .int .i64 (if prB n R && prB n L then 0 else 2)]) ∧ w = w' := by
  have hv := Lib.hid (valid48' h)
  rw [hb] at hv
  have hsq := Lib.hid (h.sq hg)
  obtain ⟨ao, c, rfl⟩ := (h.sq hg).val
  have hn8 := hg.eight
  have hbd := Lib.hid hg.bd
  have hpR := Lib.hid (arePrices66 ha hRl n)
  have hpL := Lib.hid (arePrices66 hbb hLl n)
  have ha' := Lib.hid ha
  have hb' := Lib.hid hbb
  obtain ⟨ra, rc, rfl, _⟩ := ha.len
  obtain ⟨la, lc, rfl, _⟩ := hbb.len
  have hat := Lib.hid (prB_at (n := n) (l := R))
  have hlt := Lib.hid (prB_at (n := n) (l := L))
  obtain ⟨p, hp⟩ : ∃ p, p = prB n R := ⟨_, rfl⟩
  obtain ⟨q, hq⟩ : ∃ q, q = prB n L := ⟨_, rfl⟩
  rw [← hp] at hpR hat ⊢
  rw [← hq] at hpL hlt ⊢
  clear h hb hg ha hbb hp hq
  cases p with
  | false =>
    clear hat hlt
    go_enter Try.func36, Try.ntmps36
    go_wp2_with fail
    refine (hv.out).mono ?_
    rintro e w1 ⟨rfl, rfl⟩
    go_wp2_with fail
    refine (hpR.out).mono ?_
    rintro e w1 ⟨rfl, rfl⟩
    go_wp2_with fail
    go_ret2
    exact ⟨rfl, rfl⟩
  | true =>
    cases q with
    | false =>
      clear hat hlt
      go_enter Try.func36, Try.ntmps36
      go_wp2_with fail
      refine (hv.out).mono ?_
      rintro e w1 ⟨rfl, rfl⟩
      go_wp2_with fail
      refine (hpR.out).mono ?_
      rintro e w1 ⟨rfl, rfl⟩
      go_wp2_with fail
      refine (hpL.out).mono ?_
      rintro e w1 ⟨rfl, rfl⟩
      go_wp2_with fail
      go_ret2
      exact ⟨rfl, rfl⟩
    | true =>
      have hRn := (hat.out rfl).1
      have hLn := (hlt.out rfl).1
      have hRb := Lib.hid (hat.out rfl).2
      have hLb := Lib.hid (hlt.out rfl).2
      rw [hRn] at ha' hpR ⊢
      rw [hLn] at hb' hpL ⊢
      have hRn' := Lib.hid hRn
      have hLn' := Lib.hid hLn
      have htb := Lib.hid (totPr_bd hRb.out hLb.out)
      have hP := Lib.hid (show pvB cs n R L s = (allPr cs n R L (List.range' 0 n) && decide (s ≤ totPr R L n)) from rfl)
      clear hat hlt hRn hLn hRl hLl
      simp only [Bool.true_and, if_true]
      go_enter Try.func36, Try.ntmps36
      go_wp2_with fail
      refine (hv.out).mono ?_
      rintro e w1 ⟨rfl, rfl⟩
      go_wp2_with fail
      refine (hpR.out).mono ?_
      rintro e w1 ⟨rfl, rfl⟩
      go_wp2_with fail
      refine (hpL.out).mono ?_
      rintro e w1 ⟨rfl, rfl⟩
      go_wp2_with fail
      go_loop [10, 32] (fun tv iv => ∃ (k : Nat) (t : Int), k ≤ n ∧ iv = .int .i64 k ∧ tv = .int .i64 t ∧ Hid (t = totPr R L k) ∧ Hid (allPr cs n R L (List.range' 0 n) = allPr cs n R L (List.range' k (n - k)))) (fun _ iv => n - (intOf iv).toNat)
      case atStart => exact ⟨0, 0, Nat.zero_le _, rfl, rfl, Lib.hid rfl, Lib.hid rfl⟩
      case round =>
        obtain ⟨k, t, hk, rfl, rfl, ht, hj⟩ := hrel
        by_cases hkn : k < n
        · obtain ⟨g1, o1, rfl, hg1, hc1⟩ := ha'.out.at hRn'.out hkn
          obtain ⟨g2, o2, rfl, hg2, hc2⟩ := hb'.out.at hLn'.out hkn
          obtain ⟨g3, o3, rfl, hg3, g4, o4, rc4, c3, hg4, hc4⟩ := hsq.out.at hkn
          have c1 := hc1 k hkn
          have c2 := hc2 k hkn
          have hx := hRb.out k hkn
          have hy := hLb.out k hkn
          have hts := Lib.hid (show totPr R L (k + 1) = t + (R.getD k 0 + L.getD k 0) by rw [ht.out]; rfl)
          have htl : -2000000000 * (k : Int) ≤ t ∧ t ≤ 2000000000 * (k : Int) := by rw [ht.out]; exact htb.out k (by omega)
          have hj2 := Lib.hid (show allPr cs n R L (List.range' 0 n) = (rowPr cs (R.getD k 0) L k (List.range' 0 n) && allPr cs n R L (List.range' (k + 1) (n - (k + 1)))) by rw [hj.out, range'_cons k n hkn, allPr_cons])
          have hc2' := Lib.hid hc2
          have hc4' := Lib.hid hc4
          obtain ⟨x, hxq⟩ : ∃ x, x = R.getD k 0 := ⟨_, rfl⟩
          obtain ⟨y, hyq⟩ : ∃ y, y = L.getD k 0 := ⟨_, rfl⟩
          rw [← hxq] at c1 hx hts hj2
          rw [← hyq] at c2 hy hts
          clear hc1 hc2 hc4 hxq hyq ht hj
          go_wp2_with fail
          go_loop [47] (fun iv => ∃ j : Nat, j ≤ n ∧ iv = .int .i64 j ∧ Hid (rowPr cs x L k (List.range' 0 n) = rowPr cs x L k (List.range' j (n - j)))) (fun iv => n - (intOf iv).toNat)
          case atStart => exact ⟨0, Nat.zero_le _, rfl, Lib.hid rfl⟩
          case round =>
            obtain ⟨j, hjn, rfl, hr⟩ := hrel
            by_cases hjl : j < n
            · have d2 := hc2'.out j hjl
              have d4 := hc4'.out j hjl
              have hz := hLb.out j hjl
              have hr2 := Lib.hid (show rowPr cs x L k (List.range' 0 n) = (decide (x + L.getD j 0 ≤ costAt cs k j) && rowPr cs x L k (List.range' (j + 1) (n - (j + 1)))) by rw [hr.out, range'_cons j n hjl, rowPr_cons])
              obtain ⟨z, hzq⟩ : ∃ z, z = L.getD j 0 := ⟨_, rfl⟩
              obtain ⟨u, huq⟩ : ∃ u, u = costAt cs k j := ⟨_, rfl⟩
              rw [← hzq] at d2 hz hr2
              rw [← huq] at d4 hr2
              clear hzq huq hr
              by_cases hu : x + z ≤ u
              · have hr3 := Lib.hid (show rowPr cs x L k (List.range' 0 n) = rowPr cs x L k (List.range' (j + 1) (n - (j + 1))) by rw [hr2.out, decide_eq_true hu, Bool.true_and])
                go_wp2_with fail
                go_round
                case rel => exact ⟨j + 1, by omega, by go_num, hr3⟩
                case measure => simp [intOf]; omega
              · have hf := Lib.hid (show pvB cs n R L s = false by rw [hP.out, hj2.out, hr2.out, decide_eq_false hu]; rfl)
                have hu' : u < x + z := by omega
                go_wp2_with fail
                go_ret2
                exact ⟨by rw [hf.out]; rfl, rfl⟩
            · have hr3 := Lib.hid (show allPr cs n R L (List.range' 0 n) = allPr cs n R L (List.range' (k + 1) (n - (k + 1))) by
                rw [hj2.out, hr.out, show n - j = 0 by omega]; rfl)
              go_wp2_with fail
              go_round
              case rel => exact ⟨k + 1, t + (x + y), by omega, by go_num, by go_num, Lib.hid hts.out.symm, hr3⟩
              case measure => simp [intOf]; omega
        · obtain rfl : n = k := by omega
          have hf := Lib.hid (show pvB cs n R L s = decide (s ≤ t) by rw [hP.out, hj.out, Nat.sub_self, ht.out]; rfl)
          go_wp2_with fail
          go_ret2
          exact ⟨by rw [hf.out]; rfl, rfl⟩

set_option maxHeartbeats 4000000 in
set_option maxRecDepth 100000 in
theorem refProves34 {w : World} {v a b : Value} {cs : List (List Int)} {n : Nat} {R L : List Int} (h : Cst w v cs) (hg : Good cs n) (ha : Reads w a R) (hbb : Reads w b L) (hR : prB n R = true) (hL : prB n L = true) (s : Int) :
    Calls Try.prog 34 #[v, a, b, .int .i64 s] w fun e w' => e = .returned (.bool (pvB cs n R L s)) ∧ Below w.heap.size w w' := by
  have hsq := Lib.hid (h.sq hg)
  obtain ⟨ao, c, rfl⟩ := (h.sq hg).val
  have hn8 := hg.eight
  have ha' := Lib.hid ha
  have hb' := Lib.hid hbb
  obtain ⟨ra, rc, rfl, _⟩ := ha.len
  obtain ⟨la, lc, rfl, _⟩ := hbb.len
  have hRn := (prB_at hR).1
  have hLn := (prB_at hL).1
  have hRb := Lib.hid (prB_at hR).2
  have hLb := Lib.hid (prB_at hL).2
  rw [hRn] at ha' ⊢
  rw [hLn] at hb' ⊢
  have hRn' := Lib.hid hRn
  have hLn' := Lib.hid hLn
  have htb := Lib.hid (totPr_bd hRb.out hLb.out)
  have hP := Lib.hid (show pvB cs n R L s = (allPr cs n R L (List.range' 0 n) && decide (s ≤ totPr R L n)) from rfl)
  clear hRn hLn hR hL h hg ha hbb
  go_enter Try.func34, Try.ntmps34
  go_wp2_with fail
  go_loopw [9, 10] (fun tv iv wr => ∃ (k : Nat) (t : Int), k ≤ n ∧ iv = .int .i64 k ∧ tv = .int .i64 t ∧ Hid (t = totPr R L k) ∧ Hid (allPr cs n R L (List.range' 0 n) = allPr cs n R L (List.range' k (n - k))) ∧ Hid (Below w.heap.size w wr)) (fun _ iv _ => n - (intOf iv).toNat)
  case atStart => exact ⟨0, 0, Nat.zero_le _, rfl, rfl, Lib.hid rfl, Lib.hid rfl, Lib.hid (Below.refl _ _)⟩
  case round =>
    obtain ⟨k, t, hk, rfl, rfl, ht, hj, hbw⟩ := hrel
    by_cases hkn : k < n
    · obtain ⟨g1, o1, rfl, hg1, hc1⟩ := ha'.out.at hRn'.out hkn
      obtain ⟨g2, o2, rfl, hg2, hc2⟩ := hb'.out.at hLn'.out hkn
      obtain ⟨g3, o3, rfl, hg3, g4, o4, rc4, c3, hg4, hc4⟩ := hsq.out.at hkn
      have c1 := (hbw.out.cell (p := ⟨g1, o1 + k, none⟩) hg1).trans (hc1 k hkn)
      have c2 := (hbw.out.cell (p := ⟨g2, o2 + k, none⟩) hg2).trans (hc2 k hkn)
      have c1' := Lib.hid (hc1 k hkn)
      have c3' := Lib.hid c3
      have hx := hRb.out k hkn
      have hy := hLb.out k hkn
      have hts := Lib.hid (show totPr R L (k + 1) = t + (R.getD k 0 + L.getD k 0) by rw [ht.out]; rfl)
      have htl : -2000000000 * (k : Int) ≤ t ∧ t ≤ 2000000000 * (k : Int) := by rw [ht.out]; exact htb.out k (by omega)
      have hj2 := Lib.hid (show allPr cs n R L (List.range' 0 n) = (rowPr cs (R.getD k 0) L k (List.range' 0 n) && allPr cs n R L (List.range' (k + 1) (n - (k + 1)))) by rw [hj.out, range'_cons k n hkn, allPr_cons])
      have hc2' := Lib.hid hc2
      have hc4' := Lib.hid hc4
      obtain ⟨x, hxq⟩ : ∃ x, x = R.getD k 0 := ⟨_, rfl⟩
      obtain ⟨y, hyq⟩ : ∃ y, y = L.getD k 0 := ⟨_, rfl⟩
      rw [← hxq] at c1 c1' hx hts hj2
      rw [← hyq] at c2 hy hts
      clear hc1 hc2 hc4 hxq hyq ht hj c3
      go_wp2_with fail
      go_quiet (fail)
      go_wp2_with fail
      go_loopw [11] (fun iv wr => ∃ j : Nat, j ≤ n ∧ iv = .int .i64 j ∧ Hid (rowPr cs x L k (List.range' 0 n) = rowPr cs x L k (List.range' j (n - j))) ∧ Hid (Below w.heap.size w wr)) (fun iv _ => n - (intOf iv).toNat)
      case atStart => exact ⟨0, Nat.zero_le _, rfl, Lib.hid rfl, Lib.hid (below_drewN hbw.out _)⟩
      case round =>
        clear hbw c1 c2
        obtain ⟨j, hjn, rfl, hr, hbw⟩ := hrel
        by_cases hjl : j < n
        · have d1 := (hbw.out.cell (p := ⟨g1, o1 + k, none⟩) hg1).trans c1'.out
          have d2 := (hbw.out.cell (p := ⟨g2, o2 + j, none⟩) hg2).trans (hc2'.out j hjl)
          have d3 := (hbw.out.cell (p := ⟨g3, o3 + k, none⟩) hg3).trans c3'.out
          have d4 := (hbw.out.cell (p := ⟨g4, o4 + j, none⟩) hg4).trans (hc4'.out j hjl)
          have hz := hLb.out j hjl
          have hr2 := Lib.hid (show rowPr cs x L k (List.range' 0 n) = (decide (x + L.getD j 0 ≤ costAt cs k j) && rowPr cs x L k (List.range' (j + 1) (n - (j + 1)))) by rw [hr.out, range'_cons j n hjl, rowPr_cons])
          obtain ⟨z, hzq⟩ : ∃ z, z = L.getD j 0 := ⟨_, rfl⟩
          obtain ⟨u, huq⟩ : ∃ u, u = costAt cs k j := ⟨_, rfl⟩
          rw [← hzq] at d2 hz hr2
          rw [← huq] at d4 hr2
          clear hzq huq hr
          by_cases hu : x + z ≤ u
          · have hr3 := Lib.hid (show rowPr cs x L k (List.range' 0 n) = rowPr cs x L k (List.range' (j + 1) (n - (j + 1))) by rw [hr2.out, decide_eq_true hu, Bool.true_and])
            go_wp2_with fail
            go_quiet (fail)
            go_wp2_with fail
            go_roundw
            case rel => exact ⟨j + 1, by omega, by go_num, hr3, Lib.hid (below_drewN hbw.out _)⟩
            case measure => simp [intOf]; omega
          · have hf := Lib.hid (show pvB cs n R L s = false by rw [hP.out, hj2.out, hr2.out, decide_eq_false hu]; rfl)
            have hu' : u < x + z := by omega
            go_wp2_with fail
            go_quiet (fail)
            go_wp2_with fail
            go_ret
            exact ⟨ret_b hf.out.symm, below_drewN hbw.out _⟩
        · have hr3 := Lib.hid (show allPr cs n R L (List.range' 0 n) = allPr cs n R L (List.range' (k + 1) (n - (k + 1))) by
            rw [hj2.out, hr.out, show n - j = 0 by omega]; rfl)
          go_wp2_with fail
          go_roundw
          case rel => exact ⟨k + 1, t + (x + y), by omega, by go_num, by go_num, Lib.hid hts.out.symm, hr3, hbw⟩
          case measure => simp [intOf]; omega
    · obtain rfl : n = k := by omega
      have hf := Lib.hid (show pvB cs n R L s = decide (s ≤ t) by rw [hP.out, hj.out, Nat.sub_self, ht.out]; rfl)
      go_wp2_with fail
      go_ret
      exact ⟨ret_b hf.out.symm, hbw.out⟩
end Go.Proofs.Ytfobdlllghpelaa
