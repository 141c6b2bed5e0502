import Derived.Test.YtccmabckmpelcaaKa
namespace Go.Proofs.Ytccmabckmpelcaa
open Go.RowKit

set_option maxHeartbeats 40000000 in
set_option maxRecDepth 100000 in
theorem walk9 {w : World} {a b : Value} {xs : List Int} {xss : List (List Int)} (hf : InRow w a xs) (hg : InRows w b xss) :
    Calls Try.prog 9 #[.agg #[a, b]] w fun e w' => e = .returned (.bool true) ∧ Below w.heap.size w w' := by
  obtain ⟨ao, ac, rfl, _⟩ := hf.2.2
  have hg' := Lib.hid hg
  obtain ⟨bo, bc, rfl, _⟩ := hg
  have hf' := Lib.hid hf
  clear hf
  go_enter Try.func9, Try.ntmps9
  go_wp2_with fail
  have hb0 := below_alloc1 w (.cells #[.slice ao xs.length ac, .slice bo xss.length bc] 25)
  refine (made37' (hf'.out.below hb0) (hg'.out.below hb0) 6 (by omega) (by omega)).mono ?_
  rintro e w1 ⟨uo, uc, vo, vc, fs, gs, n, rfl, hn, hfn, h1, h6, hr, hriv, hb1⟩
  have hb1 := below_call hb0 hb1
  obtain ⟨_, _, hfl, hfo, hok, _⟩ := rivB_facts hr
  have hriv' := Lib.hid hriv
  have hn' := Lib.hid hn
  have hfl' := Lib.hid hfl
  have hfn' := Lib.hid hfn
  have hok' := Lib.hid hok
  have hfo' := Lib.hid hfo
  clear hriv hn hfl hok hfo hfn
  go_wp2_with fail
  refine (shares30' hriv'.out hr hn'.out).mono ?_
  rintro e w2 ⟨xo, xc, rfl, hx, hb2⟩
  have hx' := Lib.hid hx
  clear hx
  go_wp2_with fail
  refine (best22' (hriv'.out.below hb2) hr hn'.out).mono ?_
  rintro e w3 ⟨po, pc, rfl, -, hb3⟩
  obtain ⟨W, hW⟩ : ∃ W, W = bestW fs gs := ⟨_, rfl⟩
  have hW' := Lib.hid hW
  rw [← hW]
  clear hW
  go_wp2_with fail
  refine (lives20 w3).mono ?_
  rintro e w4 ⟨rfl, hb4⟩
  have hB := Lib.hid (below_call (below_call (below_call hb1 hb2) hb3) hb4)
  have hrv4 := Lib.hid (((hriv'.out.below hb2).below hb3).below hb4)
  have hx4 := Lib.hid ((hx'.out.below hb3).below hb4)
  obtain ⟨T, hT⟩ : ∃ T, T = 2 ^ n := ⟨_, rfl⟩
  have hwT : wrap64 ((2 : Int) ^ n) = (T : Int) := by rw [hT]; exact wrap_pow n h6
  have hT1 : 2 ≤ T ∧ T ≤ 64 := by rw [hT]; exact pow_bd n h1 h6
  obtain ⟨hT1, hT2⟩ := hT1
  have hT' := Lib.hid hT
  clear hT
  clear hb1 hb2 hb3 hb4 hb0
  go_wp2_with fail
  go_loopw [10] (fun i wr => ∃ (x : Nat), x ≤ T ∧ i = .int .i64 x ∧ Below w4.heap.size w4 wr) (fun i _ => T - (intOf i).toNat)
  case atStart => exact ⟨0, Nat.zero_le _, rfl, Below.refl _ _⟩
  case round =>
    obtain ⟨x, hx, rfl, hb⟩ := hrel
    obtain ⟨wo, rfl⟩ : ∃ wo : World, wo = wr := ⟨_, rfl⟩
    by_cases hlt : x < T
    · have hlit := Lib.hid (Ints.lit wo wo.heap.size (Nat.le_refl _))
      have hbl := Lib.hid (below_alloc1 wo (.cells #[] 3))
      have hbo := Lib.hid hb
      have hrvo := Lib.hid (hrv4.out.below hb)
      have hxo := Lib.hid (hx4.out.below hb)
      clear hb
      go_wp2_with fail
      rw [hwT]
      go_loopw [11, 12, 13] (fun gv sv i wr => GrpRel n x (share fs gs) wo gv sv i wr) (fun _ _ i _ => n - (intOf i).toNat)
      case atStart => exact ⟨0, [], 0, Nat.zero_le _, rfl, rfl, by omega, by omega, hlit.out, Lib.hid (Places.nil n), Lib.hid rfl, Lib.hid (fun j hj => by omega), hbl.out⟩
      case round =>
        obtain ⟨k, p, s, hk, rfl, rfl, hs0, hs1, hp, hP, hs, hbit, hb⟩ := hrel
        by_cases hkl : k < n
        · obtain ⟨z, hz⟩ : ∃ z, bits BinOp.and IntKind.i64 ((x : Int) / 2 ^ k) 1 = z := ⟨_, rfl⟩
          obtain ⟨g1, o1, rfl, hg1, hc1⟩ := hxo.out.at (by rw [sharesK_len]) hkl
          have c1 := (hb.cell (p := ⟨g1, o1 + k, none⟩) hg1).trans (hc1 k hkl)
          rw [shares_at _ _ _ _ hkl] at c1
          have hsb := share_bd (fs := fs) hok'.out (j := k) (by rw [← hn'.out]; exact hkl)
          obtain ⟨Y, hY⟩ : ∃ Y, Y = share fs gs k := ⟨_, rfl⟩
          rw [← hY] at c1 hsb
          obtain ⟨hY0, hY1⟩ := hsb
          have hY' := Lib.hid hY
          have hzd := Lib.hid hz
          have hp' := Lib.hid hp
          have hsz := hb.size
          have lp := hP.out.2.2
          have hbk : k < wr.heap.size + 1000 := by omega
          clear hp hc1 hY
          by_cases hz1 : z = 1
          · have ht : (z == 1) = true := by simp [hz1]
            have hz' := Lib.hid hz1
            clear hz1
            go_wp2_with fail
            go_region_held3 (fun w' => w'.cell? ⟨g1, o1 + k, none⟩ = some (.int .i64 Y)) (first | go_keep | exact (Below.cell (p := ⟨g1, o1 + k, none⟩) hb5 (by assumption)).trans (by simp [*]))
              ((refine step_app_int (y := (k : Int)) rfl (.tmp 72) (.tmp 74) rfl ⟨wr.heap.size, 0, none⟩ (by rfl) (by rfl) (by first | exact cell_one_new _ _ _ | (show (wr.alloc (.cells #[.int .i64 (k : Int)] 3)).cell? ⟨wr.heap.size, 0, none⟩ = _; rw [World.cell?_alloc_at (hn := rfl)]; rfl)) (hp'.out.below (by first | exact below_alloc1 _ _ | exact (below_alloc1 _ _).drew)) (by omega) (by simp; omega) ?_; intro v5 w5 hown5 hb5))
            all_goals
              go_wp2_with fail
              go_roundw
              case rel =>
                exact ⟨k + 1, p ++ [(k : Int)], s + Y, by omega, by go_num, int_eq (IntWalk.i64_in _ (by omega)), by omega, by omega, hown5, Lib.hid (hP.out.snoc hkl), Lib.hid (by rw [sumOf_yes hP.out, ← hs.out, ← hY'.out]), Lib.hid (fun j hj => by
                  rw [inG_snoc]
                  by_cases e : j = k
                  · subst e; rw [hP.out.not]; unfold bitZ; rw [hzd.out, hz'.out]; simp
                  · rw [hbit.out j (by omega)]; simp [e]), hb.trans ((below_alloc1' hsz _).drew.trans hb5)⟩
              case measure => simp [intOf]; omega
          · have ht : (z == 1) = false := by simp [hz1]
            have hz' := Lib.hid ht
            clear hz1
            go_wp2_with fail
            go_roundw
            case rel => exact ⟨k + 1, p, s, by omega, by go_num, rfl, by omega, by omega, hp'.out, Lib.hid hP.out.up, Lib.hid (by rw [sumOf_no hP.out, ← hs.out]), Lib.hid (fun j hj => by
                  by_cases e : j = k
                  · subst e; rw [hP.out.not]; unfold bitZ; rw [hzd.out, hz'.out]
                  · rw [hbit.out j (by omega)]), hb⟩
            case measure => simp [intOf]; omega
        · obtain rfl : k = n := by omega
          have hbb := Lib.hid (below_call hbo.out hb)
          have hrvr := Lib.hid (hrvo.out.below hb)
          have gp := Lib.hid (show grpFrom fs.length 0 p = true by rw [hfn'.out]; exact hP.out.1)
          have lp := Lib.hid (show p.length ≤ fs.length by rw [hfn'.out]; exact hP.out.2.2)
          have hpr := Lib.hid hp.shape
          obtain ⟨q1, q2⟩ := fair_both hok'.out hfl'.out hfo'.out hn'.out hP.out
          rw [← hs.out] at q1 q2
          have hfull := Lib.hid (show x = T - 1 → s = W from fun e => by
            rw [hs.out, sumOf_all (n := k) (fun j hj => by rw [hbit.out j hj, e, hT'.out, bits_full k h6 j hj]; rfl), S_share, hn'.out, row_all hfl'.out, hW'.out])
          obtain ⟨X1, hX1⟩ : ∃ X, X = Al fs gs (inG p) k := ⟨_, rfl⟩
          obtain ⟨Y1, hY1⟩ : ∃ X, X = asp fs gs (inG p) := ⟨_, rfl⟩
          rw [← hX1] at q1
          rw [← hY1] at q2
          have hX1' := Lib.hid hX1
          have hY1' := Lib.hid hY1
          clear hX1 hY1 hp hb
          go_wp2_with fail
          refine (alone25 hrvr.out hr hpr.out gp.out).mono ?_
          rw [hfn'.out, ← hX1'.out]
          rintro e w5 ⟨rfl, c5⟩
          go_wp2_with fail
          refine (aspires26 (hrvr.out.below c5) hr (hpr.out.below c5) gp.out lp.out (gErr_ok hr gp.out)).mono ?_
          rw [← hY1'.out]
          rintro e w6 ⟨rfl, c6⟩
          have c56 := Lib.hid (below_call hbb.out (below_call c5 c6))
          have q3 : ¬ s < X1 := by omega
          have q4 : ¬ Y1 < s := by omega
          have d3 : decide (s < X1) = false := by simp; omega
          have d4 : decide (Y1 < s) = false := by simp; omega
          by_cases hxT : x = T - 1
          · have hsW := hfull.out hxT
            have e1 : ((x : Int) == (T : Int) - 1) = true := by simp; omega
            have e2 : (s == W) = true := by simp [hsW]
            have e3 : (s != W) = false := by simp [hsW]
            clear hxT hsW c5 c6
            go_wp2_with fail
            go_roundw
            case rel => exact ⟨x + 1, by omega, by go_num, c56.out⟩
            case measure => simp [intOf]; omega
          · have e1 : ((x : Int) == (T : Int) - 1) = false := by simp; omega
            clear hxT c5 c6
            go_wp2_with fail
            go_roundw
            case rel => exact ⟨x + 1, by omega, by go_num, c56.out⟩
            case measure => simp [intOf]; omega
    · go_wp2_with fail
      go_ret
      exact ⟨rfl, below_call hB.out hb⟩
end Go.Proofs.Ytccmabckmpelcaa
