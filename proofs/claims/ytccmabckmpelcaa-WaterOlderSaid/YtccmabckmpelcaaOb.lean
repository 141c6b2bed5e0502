import Derived.Test.YtccmabckmpelcaaOa
namespace Go.Proofs.Ytccmabckmpelcaa
open Go.RowKit

set_option maxHeartbeats 40000000 in
set_option maxRecDepth 100000 in
theorem alone28 {w : World} {u v z : Value} {fs ps : List Int} {gs : List (List Int)} {n : Nat} (hu : Reads w u fs) (hv : ReadsG w v gs) (hz : Reads w z ps) (hn : n = fs.length) (hng : n = gs.length) (hfo : FlowOk fs) (hok : GOk gs) (hg : grpFrom n 0 ps = true) :
    Calls Try.prog 28 #[u, v, z] w fun e w' => e = .returned (.int .i64 (Al fs gs (inG ps) n)) ∧ Below w.heap.size w w' := by
  have h9 : n ≤ 9 := by rw [hn]; exact hfo.1
  have hpl := grp_len hg
  have hu' := Lib.hid hu
  have hv' := Lib.hid hv
  have hz' := Lib.hid hz
  obtain ⟨uo, uc, rfl, huc, _⟩ := hu
  obtain ⟨vo, vc, rfl, hvc, _⟩ := hv
  obtain ⟨zo, zc, rfl, _, _⟩ := hz
  obtain ⟨m, hm⟩ : ∃ m, m = ps.length := ⟨_, rfl⟩
  rw [← hn] at hu' huc ⊢
  rw [← hng] at hv' hvc ⊢
  rw [← hm] at hz' hpl ⊢
  have hn' := Lib.hid hn
  have hng' := Lib.hid hng
  have hfo' := Lib.hid hfo
  have hok' := Lib.hid hok
  have hm' := Lib.hid hm
  have hg' := Lib.hid hg
  clear hn hng hfo hok hm hg
  go_enter Try.func28, Try.ntmps28
  go_wp2_with fail
  go_loopw [7, 8] (fun sv iv wr => ∃ (i : Nat) (s : Int), i ≤ m ∧ iv = .int .i64 (i : Int) ∧ sv = .int .i64 s ∧ 0 ≤ s ∧ s ≤ 180000 * (i : Int) ∧ Hid (AlC fs gs ps i s) ∧ Below w.heap.size w wr) (fun _ iv _ => m - (intOf iv).toNat)
  case atStart => exact ⟨0, 0, Nat.zero_le _, rfl, rfl, Int.le_refl _, by omega, Lib.hid (AlC.start _ _ _), Below.refl _ _⟩
  case round =>
    obtain ⟨i, s, hi, rfl, rfl, hs0, hs1, hst, hb⟩ := hrel
    by_cases hlt : i < m
    · obtain ⟨a, hrow⟩ := RowSt.start hg'.out hst.out (by rw [← hm'.out]; exact hlt)
      have hrow' := Lib.hid hrow
      have hbo := Lib.hid hb
      clear hrow hb
      obtain ⟨wo, rfl⟩ : ∃ wo : World, wo = wr := ⟨_, rfl⟩
      go_wp2_with fail
      go_loopw [9] (fun kv wr => ∃ (k b : Nat), kv = .int .i64 (k : Int) ∧ k ≤ m ∧ i < k ∧ Hid (RowSt fs gs ps i k s a b) ∧ Below wo.heap.size wo wr) (fun kv _ => m - (intOf kv).toNat)
      case atStart => exact ⟨i + 1, a, by go_num, by omega, by omega, hrow', Below.refl _ _⟩
      case round =>
        obtain ⟨k, b, rfl, hkm, hik, hst2, hb⟩ := hrel
        obtain ⟨wr', rfl⟩ : ∃ wo : World, wo = wr := ⟨_, rfl⟩
        have hbx := Lib.hid (below_call hbo.out hb)
        obtain ⟨g3, o3, rfl, hg3, hc3⟩ := hz'.out.at hm'.out.symm hlt
        have cc : ∀ j, j < m → wr'.cell? ⟨g3, o3 + j, none⟩ = some (.int .i64 (ps.getD j 0)) := fun j hj => (hbx.out.cell (p := ⟨g3, o3 + j, none⟩) hg3).trans (hc3 j hj)
        obtain ⟨r1, r2, r3, r4, r5, r6, r7⟩ := hst2.out
        have c1 := cc (k - 1) (by omega)
        rw [r4] at c1
        have c0 := cc i hlt
        rw [r3] at c0
        have c2 : k < m → wr'.cell? ⟨g3, o3 + k, none⟩ = some (.int .i64 (ps.getD k 0)) := fun h => cc k h
        obtain ⟨Q, hQ⟩ : ∃ Q, Q = ps.getD k 0 := ⟨_, rfl⟩
        have hQb : k < m → 0 ≤ Q ∧ Q < n := fun h => by have := grp_at ps 0 hg'.out k (by rw [← hm'.out]; exact h); rw [hQ]; exact ⟨this.1, this.2.1⟩
        have hbn : (b : Int) < n := by have := grp_at ps 0 hg'.out (k - 1) (by omega); rw [r4] at this; exact this.2.1
        rw [← hQ] at c2
        obtain ⟨c, hc⟩ : ∃ c, c = decide (k < m ∧ Q = (b : Int) + 1) := ⟨_, rfl⟩
        have hc' := Lib.hid hc
        have hQ' := Lib.hid hQ
        have r5' := r5
        clear cc hc3 r1 r2 r3 r4 r6 r7 hQ hc
        have x1 : IntKind.i64.wrap ((k : Int) - 1) = (k : Int) - 1 := IntWalk.i64_in _ (by omega)
        have x2 : 0 ≤ (k : Int) - 1 := by omega
        have x3 : (k : Int) - 1 < m := by omega
        have x4 : ((k : Int) - 1).toNat = k - 1 := by omega
        have x5 : (1 : Int) ≤ k := by omega
        have x6 : IntKind.i64.wrap ((b : Int) + 1) = (b : Int) + 1 := IntWalk.i64_in _ (by omega)
        go_upto_region 5 with fail
        go_cut [36] from 20 to 36 (fun t wx => t = .bool c ∧ ∃ q, wx = wr'.drewN q)
        case first =>
          by_cases hk : k < m
          · have c2' := c2 hk
            obtain ⟨q0, q1⟩ := hQb hk
            have hkI : (k : Int) < m := by omega
            by_cases he : Q = (b : Int) + 1
            · have hcc : c = true := by rw [hc'.out]; simp [hk, he]
              have e1 : (Q == (b : Int) + 1) = true := by simp [he]
              subst hcc
              have he' := Lib.hid he
              clear c2 hQb he
              go_quiet (fail)
              go_wp2_with fail
              go_meet
              exact ⟨rfl, _, rfl⟩
            · have hcc : c = false := by rw [hc'.out]; simp; omega
              have e1 : (Q == (b : Int) + 1) = false := by simp [he]
              subst hcc
              clear c2 hQb
              go_quiet (fail)
              go_wp2_with fail
              go_meet
              exact ⟨rfl, _, rfl⟩
          · have hcc : c = false := by rw [hc'.out]; simp; omega
            subst hcc
            clear c2 hQb
            go_quiet (fail)
            go_wp2_with fail
            go_meet
            exact ⟨rfl, _, rfl⟩
        case rest =>
          obtain ⟨rfl, q, hwc⟩ := hcut
          have hb2 := Lib.hid (show Below wo.heap.size wo wc by rw [hwc]; exact below_drewN hb _)
          have c1' : wc.cell? ⟨g3, o3 + (k - 1), none⟩ = some (.int .i64 (b : Int)) := by rw [hwc]; exact c1
          have c0' : wc.cell? ⟨g3, o3 + i, none⟩ = some (.int .i64 (a : Int)) := by rw [hwc]; exact c0
          clear hwc c0 c1 c2 hb
          cases c
          · have hcl := hst2.out.close hg'.out (k := k) (by rw [← hm'.out, ← hQ'.out]; intro h; have h2 := hc'.out; rw [decide_eq_true h] at h2; cases h2)
            have hrb := row_bd (fs := fs) hok'.out a (b + 1) (by rw [← hng'.out]; omega)
            obtain ⟨g1, o1, hu1, hr1⟩ := hu'.out.part hn'.out.symm (a := a) (b := b + 1) (by omega) (by omega)
            obtain ⟨g2, o2, hv1, hr2⟩ := hv'.out.part hng'.out.symm (a := a) (b := b + 1) (by omega) (by omega)
            subst hu1
            subst hv1
            have hcl' := Lib.hid hcl
            have hr1' := Lib.hid hr1
            have hr2' := Lib.hid hr2
            clear hcl hr1 hr2 hc' hQb
            go_wp2_with fail
            go_quiet (fail)
            obtain ⟨R, hR⟩ : ∃ R, R = row fs gs a (b + 1) := ⟨_, rfl⟩
            rw [← hR] at hrb hcl'
            have hR' := Lib.hid hR
            obtain ⟨hr0, hr1⟩ := hrb
            have hbx2 := Lib.hid (below_call hbo.out hb2.out)
            have hcall := Lib.hid (show ∀ W, Below wc.heap.size wc W → Calls Try.prog 23 #[.slice (some ⟨g1, o1 + a, none⟩) (b + 1 - a) (uc - a), .slice (some ⟨g2, o2 + a, none⟩) (b + 1 - a) (vc - a)] W (fun e w' => ∃ x, e = .returned (.tuple #[x, .int .i64 R]) ∧ Below W.heap.size W w') from fun W hW => by
              refine (best23' (hr1'.out.below (below_call hbx2.out hW)) (hr2'.out.below (below_call hbx2.out hW)) (n := b + 1 - a) (by rw [part_len _ _ _ (by rw [← hn'.out]; omega)]) (by rw [part_len _ _ _ (by rw [← hng'.out]; omega)]) (by omega) (hfo'.out.part _ _ (by rw [← hn'.out]; omega)) (hok'.out.part _ _ (by rw [← hng'.out]; omega))).mono ?_
              rintro e w' ⟨xo, xc, rfl, _, hb'⟩
              exact ⟨_, by rw [hR'.out]; rfl, hb'⟩)
            clear hR
            have y1 : a < uc := by omega
            have y2 : a < vc := by omega
            have y3 : b + 1 ≤ uc := by omega
            have y4 : b + 1 ≤ vc := by omega
            have y5 : a ≤ b + 1 := by omega
            have y6 : ((b : Int) + 1).toNat = b + 1 := by omega
            have y7 : (0 : Int) ≤ (b : Int) + 1 := by omega
            have y8 : (a : Int) ≤ (b : Int) + 1 := by omega
            have hsb : s ≤ 1620000 := by omega
            clear huc hvc
            go_upto_region 8 with fail
            go_cut [12, 13] from 49 to 60 (fun _ t wx => t = .int .i64 R ∧ Below wo.heap.size wo wx)
            case first =>
              go_region_with (go_at_call 23; refine (hcall.out _ ?_).mono ?_; (first | exact (below_drewN (Below.refl _ _) _).drew | exact (below_drewN (Below.refl _ _) _)); rintro e w7 ⟨x7, rfl, hb7⟩)
              all_goals
                go_wp2_with fail
                go_meet
                exact ⟨rfl, below_call (below_drewN hb2.out _).drew hb7⟩
            case rest =>
              obtain ⟨rfl, hbc⟩ := hcut
              go_wp2_with fail
              go_roundw
              case rel => exact ⟨k, s + R, by omega, rfl, by go_num, by omega, by omega, hcl', below_call hbo.out hbc⟩
              case measure => simp [intOf]; omega
          · have hcc := of_decide_eq_true hc'.out.symm
            have hnx := Lib.hid (hst2.out.step (by rw [← hm'.out]; exact hcc.1) (by rw [← hQ'.out]; exact hcc.2))
            have hk1 := hcc.1
            clear hcc hQb
            go_wp2_with fail
            go_roundw
            case rel => exact ⟨k + 1, b + 1, by go_num, by omega, by omega, hnx, hb2.out⟩
            case measure => simp [intOf]; omega
    · obtain rfl : i = m := by omega
      have hfin := Lib.hid (show s = Al fs gs (inG ps) n from AlC.done hg'.out (by rw [← hm'.out]; exact hst.out))
      go_wp2_with fail
      go_ret
      exact ⟨ret_i hfin.out, hb⟩
end Go.Proofs.Ytccmabckmpelcaa
