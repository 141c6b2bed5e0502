import Derived.Test.YtccmabckmpelcaaUb
import Derived.Test.YtccmabckmpelcaaLaw3
namespace Go.Proofs.Ytccmabckmpelcaa
open Go.RowKit

set_option maxHeartbeats 40000000 in
set_option maxRecDepth 100000 in
theorem walk12 {w : World} {a b : Value} {xs ys : List Int} {Z0 Z1 Z2 : Nat} (hx : InRow w a xs) (hy : InRow w b ys) (z0 : Z0 ≤ 255) (z1 : Z1 ≤ 255) (z2 : Z2 ≤ 255) :
    Calls Try.prog 12 #[a, b, .agg #[.int .u8 Z0, .int .u8 Z1, .int .u8 Z2]] w fun e w' => e = .returned (.bool true) ∧ Below w.heap.size w w' := by
  obtain ⟨hxr, _, ao, ac, rfl, _⟩ := hx
  obtain ⟨hyr, _, bo, bc, rfl, _⟩ := hy
  have hxr' := Lib.hid hxr
  have hyr' := Lib.hid hyr
  obtain ⟨M, hM⟩ : ∃ M, M = xs.length := ⟨_, rfl⟩
  obtain ⟨N, hN⟩ : ∃ N, N = ys.length := ⟨_, rfl⟩
  rw [← hM] at hxr' ⊢
  rw [← hN] at hyr' ⊢
  have hM' := Lib.hid hM
  have hN' := Lib.hid hN
  obtain ⟨n, hn⟩ : ∃ n, n = max 1 (min M 8) := ⟨_, rfl⟩
  have hn1 : 1 ≤ n := by omega
  have hn8 : n ≤ 8 := by omega
  obtain ⟨wx, hwx⟩ : ∃ wx, wx = w.alloc (Obj.cells #[Value.int .u8 Z0, Value.int .u8 Z1, Value.int .u8 Z2] 52) := ⟨_, rfl⟩
  obtain ⟨gz, hgz⟩ : ∃ g, g = w.heap.size := ⟨_, rfl⟩
  have hbx : Below w.heap.size w wx := by rw [hwx]; exact below_alloc1 w _
  have hsx : gz < wx.heap.size := by rw [hwx, hgz]; simp
  have cz0 : wx.cell? ⟨gz, 0, none⟩ = some (.int .u8 Z0) := by rw [hwx, World.cell?_alloc_at (hn := hgz)]; rfl
  have cz1 : wx.cell? ⟨gz, 1, none⟩ = some (.int .u8 Z1) := by rw [hwx, World.cell?_alloc_at (hn := hgz)]; rfl
  have cz2 : wx.cell? ⟨gz, 2, none⟩ = some (.int .u8 Z2) := by rw [hwx, World.cell?_alloc_at (hn := hgz)]; rfl
  have hxx := Lib.hid (hxr'.out.below hbx)
  have hyx := Lib.hid (hyr'.out.below hbx)
  have hbx' := Lib.hid hbx
  clear hM hN hxr hyr hxr' hyr' hbx
  go_enter Try.func12, Try.ntmps12
  go_upto_region 1 with fail
  go_cut [7] from 27 to 30 (fun nv w1 => nv = .int .i64 (n : Int) ∧ wx = w1)
  case first =>
    go_wp2_with fail
    all_goals
      go_meet
      exact ⟨int_eq (by omega), hwx⟩
  case rest =>
    obtain ⟨rfl, rfl⟩ := hcut
    rw [← hgz]
    have hgz' := Lib.hid hgz
    have hn' := Lib.hid hn
    obtain ⟨B, hB⟩ : ∃ B, B = wx.heap.size := ⟨_, rfl⟩
    have hst : Old1 wx B n Z0 (.slice (some ⟨wx.heap.size, 0, none⟩) 0 0) (.slice (some ⟨wx.heap.size + 1, 0, none⟩) 0 0) (.slice (some ⟨wx.heap.size + 1 + 1, 0, none⟩) 0 0) (.int .i64 0) (((wx.alloc (.cells #[] 3)).alloc (.cells #[] 3)).alloc (.cells #[] 3)) := by
      have b1 := below_alloc1 wx (.cells #[] 3)
      have b2 := below_alloc1 (wx.alloc (.cells #[] 3)) (.cells #[] 3)
      have b3 := below_alloc1 ((wx.alloc (.cells #[] 3)).alloc (.cells #[] 3)) (.cells #[] 3)
      have i1 := Ints.lit wx B (by omega)
      have i2 := Ints.lit (wx.alloc (.cells #[] 3)) B (by simp; omega)
      have i3 := Ints.lit ((wx.alloc (.cells #[] 3)).alloc (.cells #[] 3)) B (by simp; omega)
      simp only [World.size_alloc] at i2 i3
      refine ⟨0, [], [], Nat.zero_le _, rfl, Lib.hid ((i1.below b2).below b3), Lib.hid (i2.below b3), Lib.hid i3, Lib.hid ⟨fun k h e => ?_, fun k h e => ?_, fun k h e => ?_⟩, Lib.hid ⟨rfl, rfl, fun j hj => by simp at hj, fun j hj => by simp at hj⟩, by simp; omega, ?_⟩
      · simp [Value.ownBlock] at h e; omega
      · simp [Value.ownBlock] at h e; omega
      · simp [Value.ownBlock] at h e; omega
      · rw [hB]; exact (b1.trans (b2.mono (by simp))).trans (b3.mono (by simp; omega))
    have hst' := Lib.hid hst
    rw [← hB] at hsx
    have hB' := Lib.hid hB
    clear hst hwx hgz hn hB
    go_wp2_with fail
    go_loopw [8, 9, 10, 11] (fun fv rv av iv wr => Old1 wx B n Z0 fv rv av iv wr) (fun _ _ _ iv _ => n - (intOf iv).toNat)
    case atStart => exact hst'.out
    case round =>
      obtain ⟨k, F, R, hk, rfl, hF, hR, hA, hD, hfr, hBr, hb⟩ := hrel
      obtain ⟨wo, rfl⟩ : ∃ wo : World, wo = wr := ⟨_, rfl⟩
      have hbw : Below wx.heap.size wx wo := by rw [← hB'.out]; exact hb
      by_cases hkn : k < n
      · obtain ⟨f1, f2, f3, f4⟩ := hfr.out
        obtain ⟨A, hA0⟩ : ∃ A, A = if k < M then foldZ (xs.getD k 0) 30 else 0 := ⟨_, rfl⟩
        obtain ⟨C, hC0⟩ : ∃ C, C = if k < N then foldZ (ys.getD k 0) 31 else 0 := ⟨_, rfl⟩
        have hAb : 0 ≤ A ∧ A ≤ 29 := by rw [hA0]; have := foldZ_bd (xs.getD k 0) 30 (by omega); split <;> omega
        have hCb : 0 ≤ C ∧ C ≤ 30 := by rw [hC0]; have := foldZ_bd (ys.getD k 0) 31 (by omega); split <;> omega
        obtain ⟨hA1, hA2⟩ := hAb
        obtain ⟨hC1, hC2⟩ := hCb
        have hA0' := Lib.hid hA0
        have hC0' := Lib.hid hC0
        have f1' := Lib.hid f1
        have f2' := Lib.hid f2
        have f34 := Lib.hid (And.intro f3 f4)
        clear hA0 hC0 f1 f2 f3 f4
        go_upto_if 42 with fail
        go_cut [12] from 39 to 47 (fun t w1 => t = .int .i64 A ∧ wo = w1)
        case first =>
          by_cases hkM : k < M
          · obtain ⟨g1, o1, rfl, hg1, hc1⟩ := hxx.out.at hM'.out.symm hkM
            have c1 := (hbw.cell (p := ⟨g1, o1 + k, none⟩) hg1).trans (hc1 k hkM)
            have hAq := Lib.hid (show foldZ (xs.getD k 0) 30 = A by rw [hA0'.out, if_pos hkM])
            obtain ⟨X, hX⟩ : ∃ X, X = xs.getD k 0 := ⟨_, rfl⟩
            rw [← hX] at c1 hAq
            clear hc1 hX
            go_wp2_with fail
            refine (fold38 X 30 _ (by omega) (by omega)).mono ?_
            rw [hAq.out]
            rintro e w6 ⟨rfl, rfl⟩
            go_wp2_with fail
            go_meet
            exact ⟨rfl, rfl⟩
          · have hAq : A = 0 := by rw [hA0'.out, if_neg hkM]
            subst hAq
            go_wp2_with fail
            go_meet
            exact ⟨rfl, rfl⟩
        case rest =>
          obtain ⟨rfl, rfl⟩ := hcut
          go_upto_if 51 with fail
          go_cut [13] from 48 to 56 (fun t w1 => t = .int .i64 C ∧ wo = w1)
          case first =>
            by_cases hkN : k < N
            · obtain ⟨g1, o1, rfl, hg1, hc1⟩ := hyx.out.at hN'.out.symm hkN
              have c1 := (hbw.cell (p := ⟨g1, o1 + k, none⟩) hg1).trans (hc1 k hkN)
              have hCq := Lib.hid (show foldZ (ys.getD k 0) 31 = C by rw [hC0'.out, if_pos hkN])
              obtain ⟨X, hX⟩ : ∃ X, X = ys.getD k 0 := ⟨_, rfl⟩
              rw [← hX] at c1 hCq
              clear hc1 hX
              go_wp2_with fail
              refine (fold38 X 31 _ (by omega) (by omega)).mono ?_
              rw [hCq.out]
              rintro e w6 ⟨rfl, rfl⟩
              go_wp2_with fail
              go_meet
              exact ⟨rfl, rfl⟩
            · have hCq : C = 0 := by rw [hC0'.out, if_neg hkN]
              subst hCq
              go_wp2_with fail
              go_meet
              exact ⟨rfl, rfl⟩
          case rest =>
            obtain ⟨rfl, rfl⟩ := hcut
            have hst3 := st_three hF.out hR.out hA.out hD.out.1 hD.out.2.1 hD.out.2.2 hBr
            have czr := (hb.cell (p := ⟨gz, 0, none⟩) hsx).trans cz0
            have y1 : IntKind.i64.wrap ((k : Int) + (Z0 : Int)) = (k : Int) + (Z0 : Int) := IntWalk.i64_in _ (by omega)
            have y2 : ((k : Int) + (Z0 : Int)).tmod (n : Int) = (((k + Z0) % n : Nat) : Int) := by rw [Int.tmod_eq_emod_of_nonneg (by omega)]; simp
            have y3 : IntKind.i64.wrap (Z0 : Int) = (Z0 : Int) := IntWalk.i64_in _ (by omega)
            have y4 : ¬ n = 0 := by omega
            have k1 : F.length ≤ 1000000 := by rw [f1'.out]; omega
            have k2 : R.length ≤ 1000000 := by rw [f2'.out]; omega
            have k3 : (ageL n Z0 k).length ≤ 1000000 := by rw [ageL_len]; omega
            clear hbw hxx hyx
            go_wp2_with fail
            go_region_held3 (fun w' => w'.cell? ⟨gz, 0, none⟩ = some (.int .u8 Z0)) (first | exact St.cell (a := ⟨gz, 0, none⟩) hst7 hsx czr | exact St.cell (a := ⟨gz, 0, none⟩) (hst7.alloc _) hsx czr | exact St.cell (a := ⟨gz, 0, none⟩) ((hst7.alloc _).alloc _) hsx czr | exact St.cell (a := ⟨gz, 0, none⟩) hst3.drew hsx czr | exact St.cell (a := ⟨gz, 0, none⟩) (hst3.alloc _).drew hsx czr | exact St.cell (a := ⟨gz, 0, none⟩) ((hst3.alloc _).alloc _).drew hsx czr | exact St.cell (a := ⟨gz, 0, none⟩) (((hst3.alloc _).alloc _).alloc _).drew hsx czr | go_keep)
              (first
                | (refine step_app_st 0 (y := A) rfl (.tmp 57) (.tmp 59) rfl rfl (by first | exact hst7 | exact hst7.alloc _ | exact (hst7.alloc _).alloc _ | exact (hst3.alloc _).drew | exact ((hst3.alloc _).alloc _).drew | exact (((hst3.alloc _).alloc _).alloc _).drew) (by rfl) (by rfl) (by rfl) (by simp) (by simpa using k1) ?_; intro v7 w7 hst7)
                | (refine step_app_st 1 (y := C) rfl (.tmp 61) (.tmp 63) rfl rfl (by first | exact hst7 | exact hst7.alloc _ | exact (hst7.alloc _).alloc _ | exact (hst3.alloc _).drew | exact ((hst3.alloc _).alloc _).drew | exact (((hst3.alloc _).alloc _).alloc _).drew) (by rfl) (by rfl) (by rfl) (by simp) (by simpa using k2) ?_; intro v7 w7 hst7)
                | (refine step_app_st 2 (y := ((k : Int) + (Z0 : Int)) % (n : Int)) rfl (.tmp 65) (.tmp 73) rfl rfl (by first | exact hst7 | exact hst7.alloc _ | exact (hst7.alloc _).alloc _ | exact (hst3.alloc _).drew | exact ((hst3.alloc _).alloc _).drew | exact (((hst3.alloc _).alloc _).alloc _).drew) (by rfl) (by rfl) (by rfl) (by simp) (by simpa using k3) ?_; intro v7 w7 hst7))
            all_goals
              have f1 := hst7.ints 0 rfl
              have f2 := hst7.ints 1 rfl
              have f3 := hst7.ints 2 rfl
              have f4 := hst7.dis 0 1 (by omega) rfl rfl
              have f5 := hst7.dis 0 2 (by omega) rfl rfl
              have f6 := hst7.dis 1 2 (by omega) rfl rfl
              rw [show ((k : Int) + (Z0 : Int)) % (n : Int) = (((k + Z0) % n : Nat) : Int) by simp, ← ageL_snoc] at f3
              have hnx := Lib.hid (show Old1 wx B n Z0 _ _ _ (.int .i64 ((k + 1 : Nat) : Int)) w7 from ⟨k + 1, F ++ [A], R ++ [C], by omega, rfl, Lib.hid f1, Lib.hid f2, Lib.hid f3, Lib.hid ⟨f4, f5, f6⟩, Lib.hid ⟨by rw [List.length_append, f1'.out]; rfl, by rw [List.length_append, f2'.out]; rfl, f34.out.1.snoc hA1 hA2, f34.out.2.snoc hC1 hC2⟩, hst7.size, hb.trans hst7.below⟩)
              clear f1 f2 f3 f4 f5 f6
              go_wp2_with fail
              go_roundw
              case rel => exact hnx.out
              case measure => simp [intOf]; omega
      · obtain rfl : k = n := by omega
        obtain ⟨AG, hAG⟩ : ∃ AG, AG = if 128 ≤ Z0 then flipL k Z0 k else ageL k Z0 k := ⟨_, rfl⟩
        have hAG' := Lib.hid hAG
        have czr := (hb.cell (p := ⟨gz, 0, none⟩) hsx).trans cz0
        obtain ⟨gA, cA, e10, hgA, hgA2, -, -, -⟩ := ints_parts hA.out (by intro e; have := ageL_len k Z0 k; rw [e] at this; simp at this; omega)
        rw [ageL_len] at e10
        have hD' := Lib.hid hD.out
        subst e10
        have hb' := Lib.hid hb
        clear hAG hb hD hbw
        go_upto_if 77 with fail
        go_cut [14] from 75 to 92 (fun _ w2 => Hid (Ints w2 B (.slice (some ⟨gA, 0, none⟩) k cA) AG) ∧ Hid (Ints w2 B u8 F ∧ Ints w2 B u9 R) ∧ Hid (B ≤ w2.heap.size ∧ Below B wo w2))
        case first =>
          by_cases h128 : 128 ≤ Z0
          · have d1 : decide (128 ≤ Z0) = true := by simpa using h128
            have d2 : (128 : Int) ≤ (Z0 : Int) := by omega
            have hq : AG = flipL k Z0 k := by rw [hAG'.out, if_pos h128]
            have hst4 := Lib.hid (And.intro hA.out (And.intro hF.out hR.out))
            go_wp2_with fail
            go_loopw [14] (fun iv w2 => ∃ j : Nat, j ≤ k ∧ iv = .int .i64 (j : Int) ∧ Hid (Ints w2 B (.slice (some ⟨gA, 0, none⟩) k cA) (flipL k Z0 j)) ∧ Hid (Ints w2 B u8 F ∧ Ints w2 B u9 R) ∧ Hid (B ≤ w2.heap.size ∧ Below B wo w2)) (fun iv _ => k - (intOf iv).toNat)
            case atStart => exact ⟨0, Nat.zero_le _, rfl, Lib.hid (by rw [flipL_zero]; exact hst4.out.1), Lib.hid hst4.out.2, Lib.hid ⟨hBr, Below.refl _ _⟩⟩
            case round =>
              obtain ⟨j, hj, rfl, hI, hFR, hBB⟩ := hrel
              by_cases hjk : j < k
              · obtain ⟨g, cap, e, hBg, hgs, hcells, hfro, hset⟩ := ints_parts hI.out (by intro e; have := flipL_len k Z0 j; rw [e] at this; simp at this; omega)
                have eg : g = gA := by rw [flipL_len] at e; simp only [Value.slice.injEq, Option.some.injEq, Addr.mk.injEq, and_true, true_and] at e; exact e.1.symm
                subst eg
                have c1 := hcells j (by rw [flipL_len]; exact hjk)
                rw [flipL_at _ _ _ _ hjk, if_neg (by omega)] at c1
                have c2 := hfro j
                have hm := Nat.mod_lt (j + Z0) (show 0 < k by omega)
                obtain ⟨Q, hQ⟩ : ∃ Q, Q = (j + Z0) % k := ⟨_, rfl⟩
                have hset' := Lib.hid (hset j ((k : Int) - 1 - (Q : Int)))
                rw [hQ, flipL_set _ _ _ hjk] at hset'
                rw [← hQ] at c1 hm hset'
                have hd1 := Lib.hid (ints_set_dis (j := j) (y := .int .i64 ((k : Int) - 1 - (Q : Int))) hFR.out.1 hD'.out.2.1)
                have hd2 := Lib.hid (ints_set_dis (j := j) (y := .int .i64 ((k : Int) - 1 - (Q : Int))) hFR.out.2 hD'.out.2.2)
                have x0 : (0 : Int) ≤ (j : Int) := by omega
                have x1 : (j : Int) < (k : Int) := by omega
                clear hcells hfro hset hQ e
                go_wp2_with fail
                go_roundw
                case rel => exact ⟨j + 1, by omega, by go_num, hset', Lib.hid ⟨hd1.out, hd2.out⟩, Lib.hid ⟨by have := hBB.out.1; simp; omega, below_set hBB.out.2 hBg⟩⟩
                case measure => simp [intOf]; omega
              · obtain rfl : j = k := by omega
                go_wp2_with fail
                go_meet
                exact ⟨by rw [hq]; exact hI, hFR, hBB⟩
          · have d1 : decide (128 ≤ Z0) = false := by simpa using h128
            have d2 : ¬ (128 : Int) ≤ (Z0 : Int) := by omega
            have hq : AG = ageL k Z0 k := by rw [hAG'.out, if_neg h128]
            subst hq
            have hst4 := Lib.hid (And.intro hA.out (And.intro hF.out hR.out))
            go_wp2_with fail
            go_meet
            exact ⟨Lib.hid hst4.out.1, Lib.hid hst4.out.2, Lib.hid ⟨hBr, Below.refl _ _⟩⟩
        case rest =>
          obtain ⟨hI, hFR, hBB⟩ := hcut
          obtain ⟨f1, f2, f3, f4⟩ := hfr.out
          have hag : agesB AG k = true := by rw [hAG'.out]; split; exact ages_flip hn1; exact ages_turn hn1
          have hagr : ∀ j, j < k → 0 ≤ AG.getD j 0 ∧ AG.getD j 0 < k := by
            intro j hj
            have hm := Nat.mod_lt (j + Z0) (show 0 < k by omega)
            rw [hAG'.out]
            split
            · rw [flipL_at _ _ _ _ hj, if_pos hj]; omega
            · rw [ageL_at _ _ _ _ hj]; omega
          have hagl : AG.length = k := by rw [hAG'.out]; split; exact flipL_len _ _ _; exact ageL_len _ _ _
          have hFlow : FlowOk F := (f3.up (by omega)).flow (by omega)
          have hright := rights_of f1 hn1 hn8 f2 (f3.up (by omega)) f4 hag
          have hag2 : agesB AG F.length = true := by rw [f1]; exact hag
          obtain ⟨fa, fc, e8, _⟩ := hFR.out.1.shape
          obtain ⟨ra, rc, e9, _⟩ := hFR.out.2.shape
          rw [f1] at e8
          rw [f2] at e9
          subst e8
          subst e9
          have hUl : (served F R AG k).length = k := by rw [served_len, f1]
          have hUp : poss 0 F (served F R AG k) = true := served_poss hFlow hag2 k (by omega)
          have hUr := Lib.hid (fun j (hj : j < k) => served_rights (rs := R) hFlow hag2 (fun j hj => (f4 j (by omega)).1) (j := j) (by omega) (by rw [f1]; exact hagr j hj))
          rw [f1] at hUr
          have hUn : NonNeg (served F R AG k) := fun j hj => by rw [hUl] at hj; exact (hUr.out j hj).1
          have hOlder := Lib.hid (fun (R' : List Int) (m : Nat) (hm : m ≤ k) (hr' : ∀ j, j < k → AG.getD j 0 < (m : Int) → R.getD j 0 = R'.getD j 0) (j : Nat) (hj : j < k) (hjm : AG.getD j 0 < m) => older_same (rs := R) (rs' := R') hag2 (m := m) (by rw [f1]; exact hr') (j := j) (by omega) (hagr j hj).1 hjm (by omega))
          have hrd := Lib.hid (And.intro hFR.out.1.shape (And.intro hFR.out.2.shape hI.out.shape))
          have hb2 := Lib.hid (hb'.out.trans hBB.out.2)
          have hB2 := Lib.hid hBB.out.1
          have f1' := Lib.hid f1
          have f2' := Lib.hid f2
          have f3' := Lib.hid f3
          have f4' := Lib.hid f4
          have hagl' := Lib.hid hagl
          have hagr' := Lib.hid hagr
          have hFlow' := Lib.hid hFlow
          have hUl' := Lib.hid hUl
          have hUp' := Lib.hid hUp
          have hUn' := Lib.hid hUn
          have hag2' := Lib.hid hag2
          have hag' := Lib.hid hag
          clear f1 f2 f3 f4 hagl hagr hFlow hUl hUp hUn hag2 hag hI hFR hBB hA hF hR
          go_wp2_with fail
          refine (calls34 hrd.out.1 hrd.out.2.1 hrd.out.2.2 hright).mono ?_
          rw [f1'.out]
          rintro e w2 ⟨x, rfl, hx2, b2⟩
          have hx2' := Lib.hid hx2
          obtain ⟨xo, xc, e2, _⟩ := hx2.len
          rw [hUl'.out] at e2
          subst e2
          have hrd2 := Lib.hid (And.intro (hrd.out.1.below b2) (And.intro (hrd.out.2.1.below b2) (hrd.out.2.2.below b2)))
          have hb3 := Lib.hid (hb2.out.trans (b2.mono hB2.out))
          have hB3 := Lib.hid (Nat.le_trans hB2.out b2.size)
          clear hx2 b2 hright
          go_wp2_with fail
          refine (possible19 hrd2.out.1 hx2'.out (by rw [hUl'.out, f1'.out]) hFlow'.out hUn'.out).mono ?_
          rw [hUp'.out]
          rintro e w3 ⟨rfl, rfl⟩
          go_wp2_with fail
          refine (lives20 w2).mono ?_
          rintro e w4 ⟨rfl, b4⟩
          have hrd4 := Lib.hid (And.intro (hrd2.out.1.below b4) (And.intro (hrd2.out.2.1.below b4) (hrd2.out.2.2.below b4)))
          have hx4 := Lib.hid (hx2'.out.below b4)
          have hb4 := Lib.hid (hb3.out.trans (b4.mono hB3.out))
          have hB4 := Lib.hid (Nat.le_trans hB3.out b4.size)
          have cz14 := (hb4.out.cell (p := ⟨gz, 1, none⟩) hsx).trans cz1
          have cz24 := (hb4.out.cell (p := ⟨gz, 2, none⟩) hsx).trans cz2
          have hlit := Lib.hid (Ints.lit w4 w4.heap.size (Nat.le_refl _))
          have hba := Lib.hid (below_alloc1 w4 (.cells #[] 3))
          have hra := Lib.hid (hrd4.out.2.1.below hba.out)
          have hrad := Lib.hid (reads_addr hrd4.out.2.1 f2'.out hn1)
          have hgw := Lib.hid (show w4.heap.size ≤ (w4.alloc (.cells #[] 3)).heap.size by simp)
          have y3 : IntKind.i64.wrap (Z1 : Int) = (Z1 : Int) := IntWalk.i64_in _ (by omega)
          have y4 : ¬ k = 0 := by omega
          clear b4
          go_wp2_with (first | (at_builtin; refine app_ints hlit.out hra.out (.inr hrad.out) (by rw [f2'.out]; simp; omega) hgw.out rfl _ _ rfl rfl rfl ?_; intro v5 w5 hown5 hb5))
          rw [List.nil_append] at hown5
          obtain ⟨gO, cO, e5, hgO, hgO2, -, -, -⟩ := ints_parts hown5 (by intro e; have := f2'.out; rw [e] at this; simp at this; omega)
          rw [f2'.out] at e5
          subst e5
          obtain ⟨AGE, hAGE⟩ : ∃ m : Nat, (m : Int) = (Z1 : Int) % (k : Int) := ⟨Z1 % k, by simp⟩
          have hAGEk : AGE < k := by have := Int.emod_lt_of_pos (Z1 : Int) (show (0 : Int) < k by omega); omega
          rw [← hAGE]
          clear hAGE y3 y4
          obtain ⟨B2, hB2e⟩ : ∃ B2, B2 = w4.heap.size := ⟨_, rfl⟩
          rw [← hB2e] at hown5 hgO hb5
          have hown5' := Lib.hid hown5
          have hb45 := Lib.hid (show Below B2 w4 w5 by rw [hB2e] at hb5 ⊢; exact hba.out.trans hb5)
          have hB2e' := Lib.hid hB2e
          have hgzB : gz < B2 := by rw [hB2e]; have := hB4.out; omega
          clear hown5 hb5 hB2e hgO2
          go_loopw [18, 20] (fun ov iv wr => ∃ (i old : Nat) (O : List Int), i ≤ k ∧ iv = .int .i64 (i : Int) ∧ ov = .int .i64 (old : Int) ∧ old < k ∧ Hid (Ints wr B2 (.slice (some ⟨gO, 0, none⟩) k cO) O) ∧ Hid (O.length = k ∧ Rng O 30) ∧ Hid (∀ j, j < k → AG.getD j 0 < ((AGE + 1 : Nat) : Int) → R.getD j 0 = O.getD j 0) ∧ Hid (∀ j, j < i → AG.getD j 0 = 0 → old = j) ∧ Below B2 w4 wr) (fun _ iv _ => k - (intOf iv).toNat)
          case atStart => exact ⟨0, 0, R, Nat.zero_le _, rfl, rfl, by omega, hown5', Lib.hid ⟨f2'.out, f4'.out⟩, Lib.hid (fun j _ _ => rfl), Lib.hid (fun j hj => by omega), hb45.out⟩
          case round =>
            obtain ⟨i, old, O, hi, rfl, rfl, hold, hO, hOl, hOs, hOd, hb6⟩ := hrel
            obtain ⟨wp, rfl⟩ : ∃ wp : World, wp = wr := ⟨_, rfl⟩
            have hb6w : Below w4.heap.size w4 wp := by rw [← hB2e'.out]; exact hb6
            by_cases hik : i < k
            · obtain ⟨gU, oU, rfl, hgU, hcU⟩ := hx4.out.at hUl'.out hik
              obtain ⟨gR, oR, rfl, hgR, hcR⟩ := hrd4.out.2.1.at f2'.out hik
              obtain ⟨g3, o3, eA, hg3, hcA⟩ := hrd4.out.2.2.at hagl'.out hik
              simp only [Option.some.injEq, Addr.mk.injEq, and_true] at eA
              obtain ⟨rfl, rfl⟩ := eA
              have cU := (hb6w.cell (p := ⟨gU, oU + i, none⟩) hgU).trans (hcU i hik)
              have cR := (hb6w.cell (p := ⟨gR, oR + i, none⟩) hgR).trans (hcR i hik)
              have cA4 := hcA i hik
              rw [show 0 + i = i by omega] at cA4
              have cAi := (hb6w.cell (p := ⟨gA, i, none⟩) hg3).trans cA4
              have cA4' := Lib.hid cA4
              have hgAB : gA < B2 := by rw [hB2e'.out]; exact hg3
              have cz26 := (hb6w.cell (p := ⟨gz, 2, none⟩) (by rw [← hB2e'.out]; exact hgzB)).trans cz24
              obtain ⟨u0, u1⟩ := hUr.out i hik
              obtain ⟨r0, r1⟩ := f4'.out i (by rw [f2'.out]; exact hik)
              obtain ⟨a0, a1⟩ := hagr'.out i hik
              obtain ⟨gO', cO', e, _, _, hcells, hfro, hset⟩ := ints_parts hO.out (by intro e; have := hOl.out.1; rw [e] at this; simp at this; omega)
              have eg : gO' = gO := by simp only [Value.slice.injEq, Option.some.injEq, Addr.mk.injEq, and_true] at e; exact e.1.symm
              subst eg
              have cO1 := hcells i (by rw [hOl.out.1]; exact hik)
              have fO1 := hfro i
              obtain ⟨X, hX⟩ : ∃ X, X = R.getD i 0 := ⟨_, rfl⟩
              obtain ⟨Y, hY⟩ : ∃ Y, Y = AG.getD i 0 := ⟨_, rfl⟩
              obtain ⟨Q, hQ⟩ : ∃ Q, Q = (served F R AG k).getD i 0 := ⟨_, rfl⟩
              obtain ⟨P, hP⟩ : ∃ P, P = O.getD i 0 := ⟨_, rfl⟩
              obtain ⟨V, hV⟩ : ∃ V, V = foldZ (X + (Z2 : Int)) 31 := ⟨_, rfl⟩
              have hVb := foldZ_bd (X + (Z2 : Int)) 31 (by omega)
              have hset' := Lib.hid (hset i V)
              rw [← hX] at cR r0 r1 u1
              rw [← hY] at cAi a0 a1 cA4'
              rw [← hQ] at cU u0 u1
              rw [← hP] at cO1
              rw [← hV] at hVb
              obtain ⟨v0, v1⟩ := hVb
              have hV' := Lib.hid hV
              have hY' := Lib.hid hY
              have n1 : ¬ gR = gO' := by rw [hB2e'.out] at hgO; omega
              have n2 : ¬ gz = gO' := by omega
              have x0 : (0 : Int) ≤ (i : Int) := by omega
              have x1 : (i : Int) < (k : Int) := by omega
              have w1' : IntKind.i64.wrap (Z2 : Int) = (Z2 : Int) := IntWalk.i64_in _ (by omega)
              have w2' : IntKind.i64.wrap (X + (Z2 : Int)) = X + (Z2 : Int) := IntWalk.i64_in _ (by omega)
              have hb6' := Lib.hid hb6
              clear hcU hcR hcA cA4 hcells hfro hset hX hQ hP hV hY e hb6w hb6
              go_wp2_with fail
              go_quiet (fail)
              go_upto_if 152 with fail
              go_cut [152] from 147 to 164 (fun _ w3 => ∃ O', Hid (Ints w3 B2 (.slice (some ⟨gO', 0, none⟩) k cO) O') ∧ Hid (O'.length = k ∧ Rng O' 30) ∧ Hid (∀ j, j < k → AG.getD j 0 < ((AGE + 1 : Nat) : Int) → R.getD j 0 = O'.getD j 0) ∧ Hid (Below B2 w4 w3))
              case first =>
                by_cases hYA : (AGE : Int) < Y
                · have d1 : decide ((AGE : Int) < Y) = true := by simpa using hYA
                  obtain ⟨g2, cap2, e2, _, _, _, _, hset2⟩ := ints_parts (hO.out.below ((below_drewN (Below.refl wp.heap.size wp) nq).drew)) (by intro e; have := hOl.out.1; rw [e] at this; simp at this; omega)
                  have eg2 : g2 = gO' := by simp only [Value.slice.injEq, Option.some.injEq, Addr.mk.injEq, and_true] at e2; exact e2.1.symm
                  subst eg2
                  have hset3 := Lib.hid (hset2 i V)
                  have hbs := Lib.hid (below_set (k := i) (u := .int .i64 V) (below_drewN hb6'.out nq).drew hgO)
                  have hOln := Lib.hid (show (O.set i V).length = k ∧ Rng (O.set i V) 30 from ⟨by rw [List.length_set]; exact hOl.out.1, fun j hj => by
                    rw [List.length_set] at hj
                    by_cases e : j = i
                    · subst e; rw [List.getD_eq_getElem?_getD, List.getElem?_set_self (by exact hj)]; simp only [Option.getD_some]; omega
                    · rw [List.getD_eq_getElem?_getD, List.getElem?_set_ne (fun h => e h.symm), ← List.getD_eq_getElem?_getD]; exact hOl.out.2 j hj⟩)
                  have hOsn := Lib.hid (show ∀ j, j < k → AG.getD j 0 < ((AGE + 1 : Nat) : Int) → R.getD j 0 = (O.set i V).getD j 0 from fun j hj hlt => by
                    have e : j ≠ i := fun e => by rw [e, ← hY'.out] at hlt; omega
                    rw [List.getD_eq_getElem?_getD (l := O.set i V), List.getElem?_set_ne (fun h => e h.symm), ← List.getD_eq_getElem?_getD]
                    exact hOs.out j hj hlt)
                  clear hset2 e2
                  go_wp2_with fail
                  go_region_held3 (fun w' => w'.cell? ⟨gR, oR + i, none⟩ = some (.int .i64 X) ∧ w'.cell? ⟨gz, 2, none⟩ = some (.int .u8 Z2)) (first | exact ⟨by rw [World.cell?_setCell_other _ _ _ _ (by intro e; simp only [Addr.mk.injEq] at e; omega)]; exact cR, by rw [World.cell?_setCell_other _ _ _ _ (by intro e; simp only [Addr.mk.injEq] at e; omega)]; exact cz26⟩ | go_keep)
                    ((go_at_call 38; refine (fold38 (X + (Z2 : Int)) 31 _ (by omega) (by omega)).mono ?_; rw [← hV'.out]; rintro e w7 ⟨rfl, rfl⟩))
                  all_goals
                    go_wp2_with fail
                    go_meet
                    exact ⟨_, hset3, hOln, hOsn, hbs⟩
                · have d1 : decide ((AGE : Int) < Y) = false := by simpa using hYA
                  go_wp2_with fail
                  go_meet
                  exact ⟨O, Lib.hid (hO.out.below (below_drewN (Below.refl _ _) _)), hOl, hOs, Lib.hid (below_drewN hb6'.out _)⟩
              case rest =>
                obtain ⟨O', hO2, hO2l, hO2s, hb7⟩ := hcut
                have cA5 := (hb7.out.cell (p := ⟨gA, i, none⟩) hgAB).trans cA4'.out
                have x2 : i < k := hik
                clear cU cR cO1 fO1 cz26 w1' w2' n1 n2
                go_upto_if 169 with fail
                by_cases hY0 : Y = 0
                · have d1 : (Y == 0) = true := by simp [hY0]
                  have hOd2 := Lib.hid (show ∀ j, j < i + 1 → AG.getD j 0 = 0 → i = j from fun j hj hz => by
                    have p1 := (place_facts hag'.out (k := 0) (by omega)).2.2 j (by omega) (by rw [hz]; rfl)
                    have p2 := (place_facts hag'.out (k := 0) (by omega)).2.2 i hik (by rw [← hY'.out, hY0]; rfl)
                    omega)
                  clear hY0
                  go_wp2_with fail
                  go_roundw
                  case rel => exact ⟨i + 1, i, O', by omega, by go_num, rfl, hik, hO2, hO2l, hO2s, hOd2, hb7.out⟩
                  case measure => simp [intOf]; omega
                · have d1 : (Y == 0) = false := by simp [hY0]
                  have hOd2 := Lib.hid (show ∀ j, j < i + 1 → AG.getD j 0 = 0 → old = j from fun j hj hz => by
                    by_cases e : j = i
                    · exact absurd (by rw [hY'.out, ← e]; exact hz) hY0
                    · exact hOd.out j (by omega) hz)
                  go_wp2_with fail
                  go_roundw
                  case rel => exact ⟨i + 1, old, O', by omega, by go_num, rfl, hold, hO2, hO2l, hO2s, hOd2, hb7.out⟩
                  case measure => simp [intOf]; omega
            · obtain rfl : i = k := by omega
              have hb8 := Lib.hid (hb4.out.trans (hb6.mono (by rw [hB2e'.out]; exact hB4.out)))
              have hrd8 := Lib.hid (And.intro (hrd4.out.1.below hb6w) (And.intro (hrd4.out.2.1.below hb6w) (hrd4.out.2.2.below hb6w)))
              have hx8 := Lib.hid (hx4.out.below hb6w)
              have hB8 := Lib.hid (Nat.le_trans hB4.out hb6w.size)
              have hO8 := Lib.hid hO.out.shape
              have hold0 := Lib.hid (show AG.getD old 0 = 0 from by
                obtain ⟨p1, p2, _⟩ := place_facts hag'.out (k := 0) (by omega)
                rw [hOd.out _ p1 (by rw [p2]; rfl), p2]; rfl)
              have hright2 := rights_of f1'.out hn1 hn8 hOl.out.1 (f3'.out.up (by omega)) hOl.out.2 hag'.out
              have hS8 := Lib.hid (fun j (hj : j < i) (hlt : AG.getD j 0 < ((AGE + 1 : Nat) : Int)) => hOlder.out O (AGE + 1) (by omega) hOs.out j hj hlt)
              have hVl := Lib.hid (show (served F O AG i).length = i by rw [served_len, f1'.out])
              clear hb6w hb6 hO
              go_wp2_with fail
              refine (calls34 hrd8.out.1 hO8.out hrd8.out.2.2 hright2).mono ?_
              rw [f1'.out]
              rintro e w6 ⟨x, rfl, hv6, b6⟩
              have hv6' := Lib.hid hv6
              obtain ⟨vo, vc, e2, _⟩ := hv6.len
              rw [hVl.out] at e2
              subst e2
              have hrd9 := Lib.hid (And.intro (hrd8.out.1.below b6) (And.intro (hrd8.out.2.1.below b6) (hrd8.out.2.2.below b6)))
              have hx9 := Lib.hid (hx8.out.below b6)
              have hb9 := Lib.hid (hb8.out.trans (b6.mono hB8.out))
              have hB9 := Lib.hid (Nat.le_trans hB8.out b6.size)
              clear hv6 b6 hright2
              go_wp2_with fail
              go_loopw [23] (fun jv wr => ∃ j : Nat, j ≤ i ∧ jv = .int .i64 (j : Int) ∧ Below w6.heap.size w6 wr) (fun jv _ => i - (intOf jv).toNat)
              case atStart => exact ⟨0, Nat.zero_le _, rfl, Below.refl _ _⟩
              case round =>
                obtain ⟨j, hj, rfl, hb10⟩ := hrel
                by_cases hji : j < i
                · obtain ⟨gU, oU, rfl, hgU, hcU⟩ := hx9.out.at hUl'.out hji
                  obtain ⟨gV, oV, rfl, hgV, hcV⟩ := hv6'.out.at hVl.out hji
                  obtain ⟨g3, o3, eA, hg3, hcA⟩ := hrd9.out.2.2.at hagl'.out hji
                  simp only [Option.some.injEq, Addr.mk.injEq, and_true] at eA
                  obtain ⟨rfl, rfl⟩ := eA
                  have cU := (hb10.cell (p := ⟨gU, oU + j, none⟩) hgU).trans (hcU j hji)
                  have cV := (hb10.cell (p := ⟨gV, oV + j, none⟩) hgV).trans (hcV j hji)
                  have cA4 := hcA j hji
                  rw [show 0 + j = j by omega] at cA4
                  have cAj := (hb10.cell (p := ⟨gA, j, none⟩) hg3).trans cA4
                  obtain ⟨Y, hY⟩ : ∃ Y, Y = AG.getD j 0 := ⟨_, rfl⟩
                  obtain ⟨Q, hQ⟩ : ∃ Q, Q = (served F R AG i).getD j 0 := ⟨_, rfl⟩
                  obtain ⟨P, hP⟩ : ∃ P, P = (served F O AG i).getD j 0 := ⟨_, rfl⟩
                  rw [← hY] at cAj
                  rw [← hQ] at cU
                  rw [← hP] at cV
                  have hQP := Lib.hid (show Y ≤ (AGE : Int) → Q = P from fun h => by
                    have h2 := hS8.out j hji (by rw [← hY]; omega)
                    rw [f1'.out] at h2
                    rw [hQ, hP]; exact h2)
                  have hb10' := Lib.hid hb10
                  clear hcU hcV hcA cA4 hY hQ hP hb10
                  by_cases hYA : Y ≤ (AGE : Int)
                  · have d1 : decide (Y ≤ (AGE : Int)) = true := by simpa using hYA
                    obtain rfl : Q = P := hQP.out hYA
                    have d2 : (Q != Q) = false := by simp
                    go_wp2_with fail
                    go_quiet (fail)
                    go_wp2_with fail
                    go_roundw
                    case rel => exact ⟨j + 1, by omega, by go_num, below_drewN hb10'.out _⟩
                    case measure => simp [intOf]; omega
                  · have d1 : decide (Y ≤ (AGE : Int)) = false := by simpa using hYA
                    go_wp2_with fail
                    go_quiet (fail)
                    go_wp2_with fail
                    go_roundw
                    case rel => exact ⟨j + 1, by omega, by go_num, below_drewN hb10'.out _⟩
                    case measure => simp [intOf]; omega
                · have hb11 := Lib.hid (hb9.out.trans (hb10.mono hB9.out))
                  have hB11 := Lib.hid (Nat.le_trans hB9.out hb10.size)
                  have hrd11 := Lib.hid (And.intro (hrd9.out.1.below hb10) (And.intro (hrd9.out.2.1.below hb10) (hrd9.out.2.2.below hb10)))
                  have hx11 := Lib.hid (hx9.out.below hb10)
                  have cz2r := (hb11.out.cell (p := ⟨gz, 2, none⟩) hsx).trans cz2
                  have hlit2 := Lib.hid (Ints.lit wr wr.heap.size (Nat.le_refl _))
                  have hba2 := Lib.hid (below_alloc1 wr (.cells #[] 3))
                  have hfa := Lib.hid (hrd11.out.1.below hba2.out)
                  have hfad := Lib.hid (reads_addr hrd11.out.1 f1'.out hn1)
                  have hgw2 := Lib.hid (show wr.heap.size ≤ (wr.alloc (.cells #[] 3)).heap.size by simp)
                  have m0 : 0 ≤ (Z2 : Int) % (i : Int) := by omega
                  have m1 : (Z2 : Int) % (i : Int) < (i : Int) := Int.emod_lt_of_pos _ (by omega)
                  have m3 : Z2 % i < i := Nat.mod_lt _ (by omega)
                  have m2 : ((Z2 : Int) % (i : Int)).toNat = Z2 % i := by rw [← Int.natCast_emod]; rfl
                  have y3 : IntKind.i64.wrap (Z2 : Int) = (Z2 : Int) := IntWalk.i64_in _ (by omega)
                  have y4 : ¬ i = 0 := by omega
                  have hjn : ¬ j < i := hji
                  have hgz8 : gz < wr.heap.size := Nat.lt_of_lt_of_le hsx hB11.out
                  clear hb10
                  go_wp2_with (first | (at_builtin; refine app_ints hlit2.out hfa.out (.inr hfad.out) (by rw [f1'.out]; simp; omega) hgw2.out rfl _ _ rfl rfl rfl ?_; intro v8 w8 hown8 hb12; rw [List.nil_append] at hown8; obtain ⟨gM, cM, eM, hgM, hgM2, hcM, hfM, hsM⟩ := ints_parts hown8 (by intro e; have := f1'.out; rw [e] at this; simp at this; omega); rw [f1'.out] at eM hcM; subst eM; have cM1 := hcM (Z2 % i) m3; have fM1 := hfM (Z2 % i); have hsM' := Lib.hid (hsM (Z2 % i) (F.getD (Z2 % i) 0 + 1)); obtain ⟨fl0, fl1⟩ := f3'.out (Z2 % i) (by rw [f1'.out]; exact m3); obtain ⟨FZ, hFZ⟩ : ∃ x, x = F.getD (Z2 % i) 0 := ⟨_, rfl⟩; rw [← hFZ] at cM1 hsM' fl0 fl1; have hFZ' := Lib.hid hFZ; clear hFZ hcM hfM hsM hown8; have hb12' := Lib.hid (hba2.out.trans hb12); have cz8 : w8.cell? ⟨gz, 2, none⟩ = some (.int .u8 Z2) := (hb12'.out.cell (p := ⟨gz, 2, none⟩) hgz8).trans cz2r; clear hb12))
                  have hgrow := Lib.hid (show F.set (Z2 % i) (FZ + 1) = grow1 F (Z2 % i) by unfold grow1; rw [hFZ'.out])
                  have hG1 : (grow1 F (Z2 % i)).length = i := by rw [grow1_len, f1'.out]
                  have hGr : Rng (grow1 F (Z2 % i)) 30 := fun j2 hj2 => by
                    rw [hG1] at hj2
                    rw [grow1_at _ _ _ (by rw [f1'.out]; exact m3)]
                    have q1 := f3'.out j2 (by rw [f1'.out]; exact hj2)
                    have q2 := f3'.out (Z2 % i) (by rw [f1'.out]; exact m3)
                    split <;> omega
                  have hright3 := rights_of hG1 hn1 hn8 f2'.out hGr f4'.out hag'.out
                  have hmore := Lib.hid (oldest_more (rs := R) (p := old) hFlow'.out (hGr.flow (by omega)) hag2'.out (q := Z2 % i) (by rw [f1'.out]; exact m3) (by rw [f1'.out]; exact hold) hold0.out (by rw [f1'.out]; exact hn1))
                  rw [f1'.out] at hmore
                  have hWl := Lib.hid (show (served (grow1 F (Z2 % i)) R AG i).length = i by rw [served_len, hG1])
                  rw [hgrow.out] at hsM'
                  have hbs := Lib.hid (below_set (k := Z2 % i) (u := .int .i64 (FZ + 1)) hb12'.out hgM)
                  have hG1' := Lib.hid hG1
                  clear hG1 hGr
                  refine (calls34 hsM'.out.shape (hrd11.out.2.1.below hbs.out) (hrd11.out.2.2.below hbs.out) hright3).mono ?_
                  rw [hG1'.out]
                  rintro e w9 ⟨x, rfl, hw9, b9⟩
                  have hw9' := Lib.hid hw9
                  obtain ⟨wo2, wc2, e2, _⟩ := hw9.len
                  rw [hWl.out] at e2
                  subst e2
                  have hx12 := Lib.hid ((hx11.out.below hbs.out).below b9)
                  have hb13 := Lib.hid (below_call hbs.out b9)
                  obtain ⟨gU, oU, rfl, hgU, hcU⟩ := hx12.out.at hUl'.out hold
                  obtain ⟨gV, oV, rfl, hgV, hcV⟩ := hw9'.out.at hWl.out hold
                  have cU := hcU old hold
                  have cV := hcV old hold
                  obtain ⟨Q, hQ⟩ : ∃ Q, Q = (served F R AG i).getD old 0 := ⟨_, rfl⟩
                  obtain ⟨P, hP⟩ : ∃ P, P = (served (grow1 F (Z2 % i)) R AG i).getD old 0 := ⟨_, rfl⟩
                  rw [← hQ] at cU hmore
                  rw [← hP] at cV hmore
                  have hQP : Q ≤ P := hmore.out
                  have d1 : decide (Q ≤ P) = true := by simpa using hQP
                  have x0 : (0 : Int) ≤ (old : Int) := by omega
                  have x1 : (old : Int) < (i : Int) := by omega
                  clear hcU hcV hQ hP hw9 b9 hright3 m0 m1 m2 y3 y4 cz2r cz8 cM1 fM1 fl0 fl1
                  go_wp2_with fail
                  go_quiet (fail)
                  go_wp2_with fail
                  go_ret
                  exact ⟨rfl, below_drewN (below_call hbx'.out (by rw [← hB'.out]; exact hb11.out.trans (hb13.out.mono hB11.out))) _⟩
end Go.Proofs.Ytccmabckmpelcaa
