import Derived.Test.YtccmabckmpelcaaKb
namespace Go.Proofs.Ytccmabckmpelcaa
open Go.RowKit

set_option maxHeartbeats 40000000 in
set_option maxRecDepth 100000 in
theorem walk10 {w : World} {a b c : Value} {xs ys : List Int} {xss : List (List Int)} (hf : InRow w a xs) (hg : InRows w b xss) (hy : InRow w c ys) :
    Calls Try.prog 10 #[.agg #[a, b], c] w fun e w' => e = .returned (.bool true) ∧ Below w.heap.size w w' := by
  obtain ⟨ao, ac, rfl, _⟩ := hf.2.2
  have hg' := Lib.hid hg
  obtain ⟨bo, bc, rfl, _⟩ := hg
  have hf' := Lib.hid hf
  obtain ⟨hyr, hym, co, cc, rfl, _⟩ := hy
  have hyr' := Lib.hid hyr
  obtain ⟨M, hM⟩ : ∃ M, M = ys.length := ⟨_, rfl⟩
  clear hym
  rw [← hM] at hyr' ⊢
  have hM' := Lib.hid hM
  clear hf hyr hM
  go_enter Try.func10, Try.ntmps10
  go_wp2_with fail
  have hb0 := below_alloc1 w (.cells #[.slice ao xs.length ac, .slice bo xss.length bc] 25)
  refine (made37' (hf'.out.below hb0) (hg'.out.below hb0) 5 (by omega) (by omega)).mono ?_
  rintro e w1 ⟨uo, uc, vo, vc, fs, gs, n, rfl, hn, hfn, h1, h5, hr, hriv, hb1⟩
  have hb1 := below_call hb0 hb1
  obtain ⟨_, _, hfl, hfo, hok, _⟩ := rivB_facts hr
  have hriv' := Lib.hid hriv
  have hn' := Lib.hid hn
  have hfl' := Lib.hid hfl
  have hfn' := Lib.hid hfn
  have hok' := Lib.hid hok
  have hfo' := Lib.hid hfo
  clear hriv hn hfl hok hfo hfn
  go_wp2_with fail
  refine (shares30' hriv'.out hr hn'.out).mono ?_
  rintro e w2 ⟨xo, xc, rfl, hx, hb2⟩
  have hx' := Lib.hid hx
  clear hx
  go_wp2_with fail
  refine (lives20 w2).mono ?_
  rintro e w4 ⟨rfl, hb4⟩
  have hB := Lib.hid (below_call (below_call hb1 hb2) hb4)
  have hrv4 := Lib.hid ((hriv'.out.below hb2).below hb4)
  have hx4 := Lib.hid (hx'.out.below hb4)
  have hy4 := Lib.hid (hyr'.out.below hB.out)
  obtain ⟨T, hT⟩ : ∃ T, T = 2 ^ n := ⟨_, rfl⟩
  have hwT : wrap64 ((2 : Int) ^ n) = (T : Int) := by rw [hT]; exact wrap_pow n (by omega)
  have hT1 : 2 ≤ T ∧ T ≤ 64 := by rw [hT]; exact pow_bd n h1 (by omega)
  obtain ⟨hT1, hT2⟩ := hT1
  have hT' := Lib.hid hT
  clear hT hb1 hb2 hb4 hb0
  have hlit := Lib.hid (Ints.lit w4 w4.heap.size (Nat.le_refl _))
  have hbl := Lib.hid (below_alloc1 w4 (.cells #[] 3))
  go_wp2_with fail
  go_loopw [9, 10, 11] (fun ov sv i wr => OthRel n (share fs gs) w4 ov sv i wr) (fun _ _ i _ => n - (intOf i).toNat)
  case atStart => exact ⟨0, [], true, Nat.zero_le _, rfl, rfl, hlit.out, rfl, Lib.hid (fun j hj => by omega), Lib.hid (by simp), hbl.out⟩
  case round =>
    obtain ⟨k, os, bb, hk, rfl, rfl, ho, hol, hobd, hob, hb⟩ := hrel
    obtain ⟨wo, rfl⟩ : ∃ wo : World, wo = wr := ⟨_, rfl⟩
    have ho' := Lib.hid ho
    clear ho
    by_cases hkl : k < n
    · obtain ⟨g1, o1, rfl, hg1, hc1⟩ := hx4.out.at (by rw [sharesK_len]) hkl
      have c1 := (hb.cell (p := ⟨g1, o1 + k, none⟩) hg1).trans (hc1 k hkl)
      rw [shares_at _ _ _ _ hkl] at c1
      have hsb := share_bd (fs := fs) hok'.out (j := k) (by rw [← hn'.out]; exact hkl)
      obtain ⟨Y, hY⟩ : ∃ Y, Y = share fs gs k := ⟨_, rfl⟩
      rw [← hY] at c1 hsb
      obtain ⟨hY0, hY1⟩ := hsb
      have hY' := Lib.hid hY
      have hsz := hb.size
      obtain ⟨V, hV⟩ : ∃ V, V = if k < M then Y + (foldZ (ys.getD k 0) 7 - 3) else Y := ⟨_, rfl⟩
      have hfd := foldZ_bd (ys.getD k 0) 7 (by omega)
      have hV0 : -180003 ≤ V ∧ V ≤ 180003 := by rw [hV]; split <;> omega
      obtain ⟨hV0, hV1⟩ := hV0
      have hV' := Lib.hid hV
      have hol2 : os.length ≤ 1000000 := by rw [hol.out]; omega
      clear hc1 hY hV
      go_upto_if 59 with fail
      go_cut [12] from 56 to 67 (fun t wx => t = .int .i64 V ∧ wo = wx)
      case first =>
        by_cases hkM : k < M
        · obtain ⟨g2, o2, rfl, hg2, hc2⟩ := hy4.out.at hM'.out.symm hkM
          have c2 := (hb.cell (p := ⟨g2, o2 + k, none⟩) hg2).trans (hc2 k hkM)
          obtain ⟨Z, hZ⟩ : ∃ Z, Z = ys.getD k 0 := ⟨_, rfl⟩
          rw [← hZ] at c2 hfd
          obtain ⟨q, hq⟩ : ∃ q, q = foldZ Z 7 := ⟨_, rfl⟩
          rw [← hq] at hfd
          have hq' := Lib.hid hq
          obtain ⟨q0, q1⟩ := hfd
          have hVq := Lib.hid (show Y + (q - 3) = V by rw [hV'.out, if_pos hkM, hq, hZ])
          clear hc2 hZ hq
          go_wp2_with fail
          refine (fold38 Z 7 _ (by omega) (by omega)).mono ?_
          rw [← hq'.out]
          rintro e w6 ⟨rfl, rfl⟩
          go_wp2_with fail
          go_meet
          exact ⟨int_eq hVq.out, rfl⟩
        · have hVq : Y = V := by rw [hV'.out, if_neg hkM]
          subst hVq
          go_wp2_with fail
          go_meet
          exact ⟨rfl, rfl⟩
      case rest =>
        obtain ⟨rfl, rfl⟩ := hcut
        clear hfd
        obtain ⟨cc', hcc⟩ : ∃ cc', cc' = (V == Y) := ⟨_, rfl⟩
        obtain ⟨t1, t2, t3⟩ := oth_next (c := bb && cc') hol.out hobd.out hob.out ⟨hV0, hV1⟩ (by rw [hcc, ← hY'.out])
        have t1' := Lib.hid t1
        have t2' := Lib.hid t2
        have t3' := Lib.hid t3
        clear t1 t2 t3
        cases bb
        · have hcc' := Lib.hid hcc
          clear hcc
          go_wp2_with fail
          refine wp_region_any (by kernel_rfl) ?_
          change wpAny _ _ _ _ _ _ _ (World.drew _)
          refine wpAny_take (i := 0) (v := ?_) rfl (by kernel_rfl) (by kernel_rfl) (by kernel_rfl) (fun _ _ _ h => h) (Or.inl ⟨by rfl, ?_⟩) ?_
          rotate_left
          · intro wz; go_simp; try with_reducible rfl
          try go_simp
          refine wpAny_take (i := 1) (v := ?_) rfl (by kernel_rfl) (by kernel_rfl) (by kernel_rfl) (fun _ _ _ h => h) (Or.inl ⟨by rfl, ?_⟩) ?_
          rotate_left
          · intro wz; go_simp; try with_reducible rfl
          try go_simp
          refine wpAny_take (i := 4) (v := ?_) rfl (by kernel_rfl) (by kernel_rfl) (by kernel_rfl) (fun _ _ _ h => h) (Or.inl ⟨by rfl, ?_⟩) ?_
          rotate_left
          · intro wz; go_simp; try with_reducible rfl
          try go_simp
          refine wpAny_ready (rs := [2]) (by kernel_rfl) (by simp) ?_
          refine AllReady.cons rfl (fun K hK => ?_) AllReady.nil
          go_simp
          refine hK _ _ ?_
          clear hK K
          refine wpAny_ready (rs := [3]) (by kernel_rfl) (by simp) ?_
          refine AllReady.cons rfl (fun K hK => ?_) AllReady.nil
          refine step_app_int (y := V) rfl (.tmp 68) (.tmp 70) rfl ⟨wo.heap.size, 0, none⟩ (by rfl) (by rfl) (by show (wo.alloc (.cells #[.int .i64 V] 3)).cell? ⟨wo.heap.size, 0, none⟩ = _; rw [World.cell?_alloc_at (hn := rfl)]; rfl) (ho'.out.below (below_alloc1 _ _).drew) (by omega) (by simp; omega) ?_
          intro v5 w5 hown5 hb5
          try go_simp
          refine hK _ _ ?_
          clear hK K
          refine wpAny_take (i := 5) (v := ?_) rfl (by kernel_rfl) (by kernel_rfl) (by kernel_rfl) (fun _ _ _ h => h) (Or.inl ⟨by rfl, ?_⟩) ?_
          rotate_left
          · intro wz; go_simp; try with_reducible rfl
          try go_simp
          refine wpAny_take (i := 6) (v := undef) rfl (by kernel_rfl) (by kernel_rfl) (by kernel_rfl) (fun _ _ _ h => h) (Or.inr ⟨by rfl, rfl⟩) ?_
          refine wpAny_take (i := 7) (v := undef) rfl (by kernel_rfl) (by kernel_rfl) (by kernel_rfl) (fun _ _ _ h => h) (Or.inr ⟨by rfl, rfl⟩) ?_
          refine wpAny_take (i := 8) (v := undef) rfl (by kernel_rfl) (by kernel_rfl) (by kernel_rfl) (fun _ _ _ h => h) (Or.inr ⟨by rfl, rfl⟩) ?_
          refine wpAny_take (i := 9) (v := undef) rfl (by kernel_rfl) (by kernel_rfl) (by kernel_rfl) (fun _ _ _ h => h) (Or.inr ⟨by rfl, rfl⟩) ?_
          refine wpAny_take (i := 10) (v := undef) rfl (by kernel_rfl) (by kernel_rfl) (by kernel_rfl) (fun _ _ _ h => h) (Or.inr ⟨by rfl, rfl⟩) ?_
          refine wpAny_take (i := 11) (v := undef) rfl (by kernel_rfl) (by kernel_rfl) (by kernel_rfl) (fun _ _ _ h => h) (Or.inr ⟨by rfl, rfl⟩) ?_
          refine wpAny_take (i := 12) (v := ?_) rfl (by kernel_rfl) (by kernel_rfl) (by kernel_rfl) (fun _ _ _ h => h) (Or.inl ⟨by rfl, ?_⟩) ?_
          rotate_left
          · intro wz; go_simp; try with_reducible rfl
          try go_simp
          refine wpAny_take (i := 13) (v := ?_) rfl (by kernel_rfl) (by kernel_rfl) (by kernel_rfl) (fun _ _ _ h => h) (Or.inl ⟨by rfl, ?_⟩) ?_
          rotate_left
          · intro wz; go_simp; try with_reducible rfl
          try go_simp
          refine wpAny_take (i := 14) (v := ?_) rfl (by kernel_rfl) (by kernel_rfl) (by kernel_rfl) (fun _ _ _ h => h) (Or.inl ⟨by rfl, ?_⟩) ?_
          rotate_left
          · intro wz; go_simp; try with_reducible rfl
          try go_simp
          refine wpAny_done (by kernel_rfl) ?_ _
          go_wp2_with fail
          go_roundw
          case rel => exact ⟨k + 1, os ++ [V], false, by omega, by go_num, rfl, hown5, t1', t2', t3', hb.trans ((below_alloc1' hsz _).drew.trans hb5)⟩
          case measure => simp [intOf]; omega
        · have hcc' : (V == Y) = cc' := hcc.symm
          clear hcc
          go_wp2_with fail
          go_region_held3 (fun w' => w'.cell? ⟨g1, o1 + k, none⟩ = some (.int .i64 Y)) (first | go_keep | exact (Below.cell (p := ⟨g1, o1 + k, none⟩) hb5 (by assumption)).trans (by simp [*]))
            ((refine step_app_int (y := V) rfl (.tmp 68) (.tmp 70) rfl ⟨wo.heap.size, 0, none⟩ (by rfl) (by rfl) (by first | exact cell_one_new _ _ _ | (show (wo.alloc (.cells #[.int .i64 V] 3)).cell? ⟨wo.heap.size, 0, none⟩ = _; rw [World.cell?_alloc_at (hn := rfl)]; rfl)) (ho'.out.below (by first | exact below_alloc1 _ _ | exact (below_alloc1 _ _).drew)) (by omega) (by simp; omega) ?_; intro v5 w5 hown5 hb5))
          all_goals
            go_wp2_with fail
            go_roundw
            case rel => exact ⟨k + 1, os ++ [V], cc', by omega, by go_num, rfl, hown5, t1', t2', t3', hb.trans ((below_alloc1' hsz _).drew.trans hb5)⟩
            case measure => simp [intOf]; omega
    · obtain rfl : k = n := by omega
      cases bb
      · have hob' := Lib.hid (show ¬ ∀ j, j < k → os.getD j 0 = share fs gs j from fun h => by have := hob.out.2 h; simp at this)
        have hro := Lib.hid ho'.out.shape
        obtain ⟨va, vd, rfl, _⟩ := id hro.out
        rw [hol.out] at hro ⊢
        have hbw := Lib.hid (below_call hB.out hb)
        have hrvw := Lib.hid (hrv4.out.below hb)
        clear hb ho' hob
        go_wp2_with fail
        go_loopw [13] (fun i wr => ∃ (x : Nat), x ≤ T ∧ i = .int .i64 x ∧ Hid (Within fs gs k (L os) x) ∧ Below wo.heap.size wo wr) (fun i _ => T - (intOf i).toNat)
        case atStart => exact ⟨0, Nat.zero_le _, rfl, Lib.hid (Within.zero _ _ _ _), Below.refl _ _⟩
        case round =>
          obtain ⟨x, hx, rfl, hwi, hb⟩ := hrel
          obtain ⟨wp, rfl⟩ : ∃ wp : World, wp = wr := ⟨_, rfl⟩
          by_cases hlt : x < T
          · have hlit2 := Lib.hid (Ints.lit wp wp.heap.size (Nat.le_refl _))
            have hbl2 := Lib.hid (below_alloc1 wp (.cells #[] 3))
            have hbo := Lib.hid hb
            have hrvo := Lib.hid (hrvw.out.below hb)
            have hxo := Lib.hid (hro.out.below hb)
            clear hb
            go_wp2_with fail
            rw [hwT]
            go_loopw [14, 15, 16] (fun gv sv i wr => GrpRel k x (L os) wp gv sv i wr) (fun _ _ i _ => k - (intOf i).toNat)
            case atStart => exact ⟨0, [], 0, Nat.zero_le _, rfl, rfl, by omega, by omega, hlit2.out, Lib.hid (Places.nil k), Lib.hid rfl, Lib.hid (fun j hj => by omega), hbl2.out⟩
            case round =>
              obtain ⟨m, p, s, hm, rfl, rfl, hs0, hs1, hp, hP, hs, hbit, hb⟩ := hrel
              by_cases hml : m < k
              · obtain ⟨z, hz⟩ : ∃ z, bits BinOp.and IntKind.i64 ((x : Int) / 2 ^ m) 1 = z := ⟨_, rfl⟩
                obtain ⟨g1, o1, rfl, hg1, hc1⟩ := hxo.out.at hol.out hml
                have c1 := (hb.cell (p := ⟨g1, o1 + m, none⟩) hg1).trans (hc1 m hml)
                have hsb := hobd.out m hml
                obtain ⟨Y, hY⟩ : ∃ Y, Y = os.getD m 0 := ⟨_, rfl⟩
                rw [← hY] at c1 hsb
                obtain ⟨hY0, hY1⟩ := hsb
                have hY' := Lib.hid (show Y = L os m from hY)
                have hzd := Lib.hid hz
                have hp' := Lib.hid hp
                have hsz := hb.size
                have lp := hP.out.2.2
                clear hp hc1 hY
                by_cases hz1 : z = 1
                · have ht : (z == 1) = true := by simp [hz1]
                  have hz' := Lib.hid hz1
                  clear hz1
                  go_wp2_with fail
                  go_region_held3 (fun w' => w'.cell? ⟨g1, o1 + m, none⟩ = some (.int .i64 Y)) (first | go_keep | exact (Below.cell (p := ⟨g1, o1 + m, none⟩) hb5 (by assumption)).trans (by simp [*]))
                    ((refine step_app_int (y := (m : Int)) rfl (.tmp 101) (.tmp 103) rfl ⟨wr.heap.size, 0, none⟩ (by rfl) (by rfl) (by first | exact cell_one_new _ _ _ | (show (wr.alloc (.cells #[.int .i64 (m : Int)] 3)).cell? ⟨wr.heap.size, 0, none⟩ = _; rw [World.cell?_alloc_at (hn := rfl)]; rfl)) (hp'.out.below (by first | exact below_alloc1 _ _ | exact (below_alloc1 _ _).drew)) (by omega) (by simp; omega) ?_; intro v5 w5 hown5 hb5))
                  all_goals
                    go_wp2_with fail
                    go_roundw
                    case rel =>
                      exact ⟨m + 1, p ++ [(m : Int)], s + Y, by omega, by go_num, int_eq (IntWalk.i64_in _ (by omega)), by omega, by omega, hown5, Lib.hid (hP.out.snoc hml), Lib.hid (by rw [sumOf_yes hP.out, ← hs.out, ← hY'.out]), Lib.hid (fun j hj => by
                        rw [inG_snoc]
                        by_cases e : j = m
                        · subst e; rw [hP.out.not]; unfold bitZ; rw [hzd.out, hz'.out]; simp
                        · rw [hbit.out j (by omega)]; simp [e]), hb.trans ((below_alloc1' hsz _).drew.trans hb5)⟩
                    case measure => simp [intOf]; omega
                · have ht : (z == 1) = false := by simp [hz1]
                  have hz' := Lib.hid ht
                  clear hz1
                  go_wp2_with fail
                  go_roundw
                  case rel => exact ⟨m + 1, p, s, by omega, by go_num, rfl, by omega, by omega, hp'.out, Lib.hid hP.out.up, Lib.hid (by rw [sumOf_no hP.out, ← hs.out]), Lib.hid (fun j hj => by
                        by_cases e : j = m
                        · subst e; rw [hP.out.not]; unfold bitZ; rw [hzd.out, hz'.out]
                        · rw [hbit.out j (by omega)]), hb⟩
                  case measure => simp [intOf]; omega
              · obtain rfl : m = k := by omega
                have hbb := Lib.hid (below_call hbo.out hb)
                have hrvr := Lib.hid (hrvo.out.below hb)
                have gp := Lib.hid (show grpFrom fs.length 0 p = true by rw [hfn'.out]; exact hP.out.1)
                have lp := Lib.hid (show p.length ≤ fs.length by rw [hfn'.out]; exact hP.out.2.2)
                have hpr := Lib.hid hp.shape
                obtain ⟨X1, hX1⟩ : ∃ X, X = Al fs gs (inG p) m := ⟨_, rfl⟩
                obtain ⟨Y1, hY1⟩ : ∃ X, X = asp fs gs (inG p) := ⟨_, rfl⟩
                have hnext := Lib.hid (show X1 ≤ s → s ≤ Y1 → Within fs gs m (L os) (x + 1) from fun i1 i2 => hwi.out.next hP.out hbit.out (by rw [← hX1, ← hs.out]; exact i1) (by rw [← hY1, ← hs.out]; exact i2))
                have hX1' := Lib.hid hX1
                have hY1' := Lib.hid hY1
                clear hX1 hY1 hp hb hs0 hs1 hwT
                go_wp2_with fail
                refine (alone25 hrvr.out hr hpr.out gp.out).mono ?_
                rw [hfn'.out, ← hX1'.out]
                rintro e w5 ⟨rfl, c5⟩
                go_wp2_with fail
                refine (aspires26 (hrvr.out.below c5) hr (hpr.out.below c5) gp.out lp.out (gErr_ok hr gp.out)).mono ?_
                rw [← hY1'.out]
                rintro e w6 ⟨rfl, c6⟩
                have c56 := Lib.hid (below_call hbb.out (below_call c5 c6))
                clear c5 c6
                by_cases q3 : s < X1
                · have d3 : decide (s < X1) = true := by simpa using q3
                  go_wp2_with fail
                  go_ret
                  exact ⟨rfl, below_call hbw.out c56.out⟩
                · have d3 : decide (s < X1) = false := by simpa using q3
                  by_cases q4 : Y1 < s
                  · have d4 : decide (Y1 < s) = true := by simpa using q4
                    go_wp2_with fail
                    go_ret
                    exact ⟨rfl, below_call hbw.out c56.out⟩
                  · have d4 : decide (Y1 < s) = false := by simpa using q4
                    have hnx := Lib.hid (hnext.out (by omega) (by omega))
                    have hx64 : (x : Int) + 1 ≤ 64 := by omega
                    have hx0 : (0 : Int) ≤ (x : Int) := by omega
                    go_wp2_with fail
                    go_roundw
                    case rel => exact ⟨x + 1, by omega, by go_num, hnx, c56.out⟩
                    case measure => simp [intOf]; omega
          · obtain rfl : x = T := by omega
            exact absurd (only_shares hok'.out hfl'.out hfo'.out hn'.out (by omega) (u := L os) (by rw [← hT'.out]; exact hwi.out)) hob'.out
      · go_wp2_with fail
        go_ret
        exact ⟨rfl, below_call hB.out hb⟩
end Go.Proofs.Ytccmabckmpelcaa
