import Derived.Test.YtccmabckmpelcaaSa
namespace Go.Proofs.Ytccmabckmpelcaa
open Go.RowKit

theorem wErr_ok {fs : List Int} {gs : List (List Int)} {us : List Int} (hr : rivB fs gs = true) (hl : us.length = fs.length) (hn : NonNeg us) (hp : ∀ k, k ≤ fs.length → S (L us) k ≤ S (L fs) k) : wErr fs gs us = 0 := by
  have h1 : negB us = false := by
    unfold negB
    rw [List.any_eq_false]
    intro x hx
    obtain ⟨j, hj, rfl⟩ := List.mem_iff_getElem.1 hx
    have := hn j hj
    rw [List.getD_eq_getElem?_getD, List.getElem?_eq_getElem hj] at this
    simp at this ⊢; omega
  have h2 : poss 0 fs us = true := (poss_L hl).2 hp
  unfold wErr
  rw [if_neg (by rw [hr]; simp), if_neg (by simp [hl]), if_neg (by rw [h1]; simp), if_neg (by rw [h2]; simp)]

theorem L_snoc (us : List Int) (v : Int) (j : Nat) : L (us ++ [v]) j = if j < us.length then L us j else if j = us.length then v else 0 := by
  unfold L
  by_cases h : j < us.length
  · rw [if_pos h, List.getD_eq_getElem?_getD, List.getElem?_append_left h, List.getD_eq_getElem?_getD]
  · rw [if_neg h, List.getD_eq_getElem?_getD, List.getElem?_append_right (by omega)]
    by_cases e : j = us.length
    · subst e; simp
    · rw [if_neg e, List.getElem?_eq_none (by simp; omega)]; rfl
theorem S_snoc_le (us : List Int) (v : Int) (k : Nat) (h : k ≤ us.length) : S (L (us ++ [v])) k = S (L us) k := S_congr fun i hi => by rw [L_snoc, if_pos (by omega)]
theorem S_snoc_end (us : List Int) (v : Int) : S (L (us ++ [v])) (us.length + 1) = S (L us) us.length + v := by
  rw [S, S_snoc_le us v _ (Nat.le_refl _), L_snoc, if_neg (by omega), if_pos rfl]

set_option maxHeartbeats 4000000 in
set_option maxRecDepth 100000 in
theorem walk8 {w : World} {a b c : Value} {xs ys : List Int} {xss : List (List Int)} (hf : InRow w a xs) (hg : InRows w b xss) (hy : InRow w c ys) :
    Calls Try.prog 8 #[.agg #[a, b], c] w fun e w' => e = .returned (.bool true) ∧ Below w.heap.size w w' := by
  obtain ⟨ao, ac, rfl, _⟩ := hf.2.2
  have hg' := Lib.hid hg
  obtain ⟨bo, bc, rfl, _⟩ := hg
  have hf' := Lib.hid hf
  obtain ⟨hyr, hym, co, cc, rfl, _⟩ := hy
  have hyr' := Lib.hid hyr
  obtain ⟨M, hM⟩ : ∃ M, M = ys.length := ⟨_, rfl⟩
  rw [← hM] at hyr' hym ⊢
  unfold maxLen at hym
  have hM' := Lib.hid hM
  clear hf hyr hM
  go_enter Try.func8, Try.ntmps8
  go_wp2_with fail
  have hb0 := below_alloc1 w (.cells #[.slice ao xs.length ac, .slice bo xss.length bc] 25)
  refine (made37' (hf'.out.below hb0) (hg'.out.below hb0) 8 (by omega) (by omega)).mono ?_
  rintro e w1 ⟨uo, uc, vo, vc, fs, gs, n, rfl, hn, hfn, h1, h8, hr, hriv, hb1⟩
  have hb1 := below_call hb0 hb1
  obtain ⟨_, _, hfl, hfo, hok, _⟩ := rivB_facts hr
  obtain ⟨-, -, sp1, sp2, sp3⟩ := best_spec hok hfl hfo
  have hsp1 := Lib.hid sp1
  have hsp2 := Lib.hid sp2
  have hsp3 := Lib.hid sp3
  have hriv' := Lib.hid hriv
  have hn' := Lib.hid hn
  have hfl' := Lib.hid hfl
  have hfn' := Lib.hid hfn
  have hok' := Lib.hid hok
  have hfo' := Lib.hid hfo
  clear hriv hn hfl hok hfo hfn sp1 sp2 sp3
  go_wp2_with fail
  refine (best22' hriv'.out hr hn'.out).mono ?_
  rintro e w2 ⟨xo, xc, rfl, hx, hb2⟩
  have hxl := Lib.hid (show (bestU fs gs).length = n by rw [(bestU_ok hfl'.out).1, hn'.out])
  have hx' := Lib.hid hx
  have hwe := Lib.hid (wErr_ok hr (us := bestU fs gs) (by rw [hxl.out, hfn'.out]) (bestU_ok hfl'.out).nn (fun k hk => hsp1.out.2 k (by rw [← hfl'.out]; exact hk)))
  have hwv := Lib.hid (show wVal fs gs (bestU fs gs) = bestW fs gs by unfold wVal; rw [hwe.out]; rfl)
  clear hx
  go_wp2_with fail
  refine (worth17 (hriv'.out.below hb2) hx'.out (by rw [hxl.out]; omega)).mono ?_
  rw [hwe.out, hwv.out]
  rintro e w3 ⟨rfl, hb3⟩
  go_wp2_with fail
  refine (lives20 w3).mono ?_
  rintro e w4 ⟨rfl, hb4⟩
  have hB := Lib.hid (below_call (below_call (below_call hb1 hb2) hb3) hb4)
  have hrv4 := Lib.hid (((hriv'.out.below hb2).below hb3).below hb4)
  have hx4 := Lib.hid ((hx'.out.below hb3).below hb4)
  have hy4 := Lib.hid (hyr'.out.below hB.out)
  go_wp2_with fail
  go_loopw [12] (fun i wr => ∃ (k : Nat), k ≤ n ∧ i = .int .i64 k ∧ Below w4.heap.size w4 wr) (fun i _ => n - (intOf i).toNat)
  case atStart => exact ⟨0, Nat.zero_le _, rfl, Below.refl _ _⟩
  case round =>
    obtain ⟨k, hk, rfl, hb⟩ := hrel
    by_cases hlt : k < n
    · obtain ⟨_, huk⟩ := (bestU_ok hfl'.out).2 k (by rw [hxl.out]; exact hlt)
      obtain ⟨g1, o1, rfl, hg1, hc1⟩ := hx4.out.at hxl.out hlt
      obtain ⟨g3, o3, rfl, hg3, ro, rc, hc3, _⟩ := hrv4.out.2.1.at hn'.out.symm hlt
      have c1 := (hb.cell (p := ⟨g1, o1 + k, none⟩) hg1).trans (hc1 k hlt)
      have c3 := (hb.cell (p := ⟨g3, o3 + k, none⟩) hg3).trans hc3
      obtain ⟨U, hU⟩ : ∃ U, U = (bestU fs gs).getD k 0 := ⟨_, rfl⟩
      obtain ⟨m, hm⟩ : ∃ m, m = (gs.getD k []).length := ⟨_, rfl⟩
      rw [← hU] at c1 huk
      rw [← hm] at c3 huk
      clear hc1 hc3 hU hm
      go_wp2
      go_quiet (fail)
      go_wp2
      go_roundw
      case rel => exact ⟨k + 1, by omega, by go_num, below_drewN hb _⟩
      case measure => simp [intOf]; omega
    · obtain ⟨wo, rfl⟩ : ∃ wo : World, wo = wr := ⟨_, rfl⟩
      have hbo := Lib.hid hb
      have hlit := Lib.hid (Ints.lit wo wo.heap.size (Nat.le_refl _))
      have hbl := Lib.hid (below_alloc1 wo (.cells #[] 3))
      have hrvo := Lib.hid (hrv4.out.below hb)
      have hyo := Lib.hid (hy4.out.below hb)
      clear hb
      go_wp2_with fail
      go_loopw [13, 14, 15] (fun uv lv i w5 => ∃ (k : Nat) (left : Int) (us : List Int), k ≤ n ∧ i = .int .i64 k ∧ lv = .int .i64 left ∧ 0 ≤ left ∧ left ≤ 31 * (k : Int) ∧ Ints w5 wo.heap.size uv us ∧ Hid (us.length = k) ∧ Hid (NonNeg us) ∧ Hid (∀ j, j ≤ k → S (L us) j ≤ S (L fs) j) ∧ Hid (left = S (L fs) k - S (L us) k) ∧ Below wo.heap.size wo w5) (fun _ _ i _ => n - (intOf i).toNat)
      case atStart => exact ⟨0, 0, [], Nat.zero_le _, rfl, rfl, by omega, by omega, hlit.out, rfl, Lib.hid (fun j hj => by simp at hj), Lib.hid (fun j hj => by rw [show j = 0 from by omega]; exact Int.le_refl _), rfl, hbl.out⟩
      case round =>
        obtain ⟨k2, left, us, hk2, rfl, rfl, hl0, hl1, hus, hul, hunn, hufe, hleft, hb5⟩ := hrel
        have hs5 := hb5.size
        obtain ⟨va, vd, rfl, hvd, _⟩ := hus.shape
        have hus' := Lib.hid hus
        rw [hul.out] at hus' hvd ⊢
        clear hus
        by_cases hlt2 : k2 < n
        · obtain ⟨f0, f1⟩ := hfo'.out.2 k2 (by rw [hfn'.out]; exact hlt2)
          obtain ⟨g1, o1, rfl, hg1, hc1⟩ := hrvo.out.1.at hfn'.out hlt2
          have c1 := (hb5.cell (p := ⟨g1, o1 + k2, none⟩) hg1).trans (hc1 k2 hlt2)
          have hSf := Lib.hid (show S (L fs) (k2 + 1) = S (L fs) k2 + fs.getD k2 0 from rfl)
          obtain ⟨X, hX⟩ : ∃ X, X = fs.getD k2 0 := ⟨_, rfl⟩
          rw [← hX] at c1 f0 f1 hSf
          clear hc1 hX
          have hstep := Lib.hid (show ∀ v : Int, 0 ≤ v → v ≤ left + X → (us ++ [v]).length = k2 + 1 ∧ NonNeg (us ++ [v]) ∧ (∀ j, j ≤ k2 + 1 → S (L (us ++ [v])) j ≤ S (L fs) j) ∧ left + X - v = S (L fs) (k2 + 1) - S (L (us ++ [v])) (k2 + 1) from fun v hv0 hv1 => by
            have hend := S_snoc_end us v
            rw [hul.out] at hend
            refine ⟨by rw [List.length_append, hul.out]; rfl, fun j hj => ?_, fun j hj => ?_, ?_⟩
            · show 0 ≤ L (us ++ [v]) j
              rw [L_snoc]
              by_cases e : j < us.length
              · rw [if_pos e]; exact hunn.out j e
              · rw [if_neg e]; split <;> omega
            · by_cases e : j = k2 + 1
              · subst e; rw [hend, hSf.out]; have := hleft.out; omega
              · rw [S_snoc_le us v j (by rw [hul.out]; omega)]; exact hufe.out j (by omega)
            · rw [hend, hSf.out]; have := hleft.out; omega)
          by_cases hkM : k2 < M
          · obtain ⟨g2, o2, rfl, hg2, hc2⟩ := hyo.out.at hM'.out.symm hkM
            have c2 := (hb5.cell (p := ⟨g2, o2 + k2, none⟩) hg2).trans (hc2 k2 hkM)
            obtain ⟨Z, hZ⟩ : ∃ Z, Z = ys.getD k2 0 := ⟨_, rfl⟩
            rw [← hZ] at c2
            have hfd := foldZ_bd Z (left + X + 1) (by omega)
            obtain ⟨q, hq⟩ : ∃ q, q = foldZ Z (left + X + 1) := ⟨_, rfl⟩
            rw [← hq] at hfd
            have hq' := Lib.hid hq
            obtain ⟨q0, q1⟩ := hfd
            clear hc2 hZ hq
            go_wp2_with fail
            refine (fold38 Z (left + X + 1) _ (by omega) (by omega)).mono ?_
            rw [← hq'.out]
            rintro e w6 ⟨rfl, rfl⟩
            go_wp2_with (first | (at_builtin; refine app_int hus'.out (by rw [hul.out]; omega) hs5 rfl _ _ rfl rfl rfl ?_; intro v' w7 hown7 hb7))
            go_roundw
            case rel =>
              obtain ⟨t1, t2, t3, t4⟩ := hstep.out q q0 (by omega)
              exact ⟨k2 + 1, left + X - q, _, by omega, by go_num, rfl, by omega, by omega, hown7, Lib.hid t1, Lib.hid t2, Lib.hid t3, Lib.hid t4, hb5.trans hb7⟩
            case measure => simp [intOf]; omega
          · go_wp2_with (first | (at_builtin; refine app_int (y := 0) hus'.out (by rw [hul.out]; omega) hs5 rfl _ _ rfl rfl rfl ?_; intro v' w7 hown7 hb7))
            go_roundw
            case rel =>
              obtain ⟨t1, t2, t3, t4⟩ := hstep.out 0 (by omega) (by omega)
              exact ⟨k2 + 1, left + X, _, by omega, by go_num, rfl, by omega, by omega, hown7, Lib.hid t1, Lib.hid t2, Lib.hid t3, Lib.hid (by rw [← t4]; omega), hb5.trans hb7⟩
            case measure => simp [intOf]; omega
        · have hkn : n = k2 := by omega
          subst hkn
          have hwe2 := Lib.hid (wErr_ok hr (us := us) (by rw [hul.out, hfn'.out]) hunn.out (fun k hk => hufe.out k (by rw [hfn'.out] at hk; exact hk)))
          have hwv2 := Lib.hid (show wVal fs gs us ≤ bestW fs gs by
            unfold wVal; rw [hwe2.out]
            rw [if_pos rfl, worthL_eq gs us (by rw [hul.out, hn'.out]), hsp3.out, hul.out, hn'.out]
            exact (hsp2.out (L us) ⟨fun i hi => hunn.out i (by rw [hul.out, hn'.out]; exact hi), fun k hk => hufe.out k (by rw [hn'.out]; exact hk)⟩).1)
          obtain ⟨Q, hQ⟩ : ∃ Q, Q = wVal fs gs us := ⟨_, rfl⟩
          rw [← hQ] at hwv2
          have hQ' := Lib.hid hQ
          clear hQ
          go_wp2_with fail
          refine (worth17 (hrvo.out.below hb5) hus'.out.shape (by rw [hul.out]; omega)).mono ?_
          rw [hwe2.out, ← hQ'.out]
          rintro e w8 ⟨rfl, hb8⟩
          have hfin := decide_eq_true hwv2.out
          go_wp2_with fail
          go_ret
          exact ⟨rfl, below_call (below_call (below_call hB.out hbo.out) hb5) hb8⟩
end Go.Proofs.Ytccmabckmpelcaa
