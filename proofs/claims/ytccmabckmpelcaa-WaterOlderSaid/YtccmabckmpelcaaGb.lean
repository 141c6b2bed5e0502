import Derived.Test.YtccmabckmpelcaaGa
import Derived.Deep.RegionWith
import Derived.StillTailTactics
import Derived.Deep.CutRange
namespace Go.Proofs.Ytccmabckmpelcaa
open Go.RowKit

theorem grpRes_yes {er : Int} {u v : Value} (h : er = 0) : grpRes er u v = .returned (.tuple #[.agg #[u, v], .int .i64 0]) := by unfold grpRes; rw [if_pos h]
theorem gErr_ok {fs : List Int} {gs : List (List Int)} {ps : List Int} (hr : rivB fs gs = true) (hg : grpFrom fs.length 0 ps = true) : gErr fs gs ps = 0 := by
  unfold gErr; rw [if_neg (by rw [hr]; simp), if_neg (by rw [hg]; simp)]
theorem grp_len {n : Nat} {ps : List Int} (hg : grpFrom n 0 ps = true) : ps.length ≤ n := by
  have : ∀ j, j < ps.length → (j : Int) ≤ ps.getD j 0 := by
    intro j
    induction j with
    | zero => intro h; exact (grp_at ps 0 hg 0 h).1
    | succ j ih => intro h; have := ih (by omega); have := (grp_at ps 0 hg (j + 1) h).2.2 j (by omega); omega
  by_cases h : 0 < ps.length
  · have := this (ps.length - 1) (by omega)
    have := (grp_at ps 0 hg (ps.length - 1) (by omega)).2.1
    omega
  · omega
theorem row_bd {fs : List Int} {gs : List (List Int)} (hok : GOk gs) (a b : Nat) (hb : b ≤ gs.length) : 0 ≤ row fs gs a b ∧ row fs gs a b ≤ 180000 := bestW_bd (hok.part a b hb) _

set_option maxHeartbeats 40000000 in
set_option maxRecDepth 100000 in
theorem alone25 {w : World} {u v z : Value} {fs ps : List Int} {gs : List (List Int)} (h : Riv w u v fs gs) (hr : rivB fs gs = true) (hz : Reads w z ps) (hg : grpFrom fs.length 0 ps = true) :
    Calls Try.prog 25 #[u, v, z] w fun e w' => e = .returned (.tuple #[.int .i64 (Al fs gs (inG ps) fs.length), .int .i64 0]) ∧ Below w.heap.size w w' := by
  obtain ⟨_, h8, hfl, hfo, hok, _⟩ := rivB_facts hr
  have he := gErr_ok hr hg
  have hpl := grp_len hg
  have h' := Lib.hid h
  have hz' := Lib.hid hz
  obtain ⟨fo, fc, rfl, _, _⟩ := h.1
  obtain ⟨go, gc, rfl, _, _⟩ := h.2.1
  obtain ⟨zo, zc, rfl, _, _⟩ := hz
  obtain ⟨n, hn⟩ : ∃ n, n = fs.length := ⟨_, rfl⟩
  obtain ⟨m, hm⟩ : ∃ m, m = ps.length := ⟨_, rfl⟩
  rw [← hn] at h' h8 hg hpl ⊢
  rw [← hfl, ← hn] at h' ⊢
  rw [← hm] at hz' hpl ⊢
  clear h
  have hfo' := Lib.hid hfo
  have hok' := Lib.hid hok
  have hfl' := Lib.hid hfl
  have hn' := Lib.hid hn
  have hm' := Lib.hid hm
  have hg' := Lib.hid hg
  clear hfo hok hfl hn hm hg
  go_enter Try.func25, Try.ntmps25
  go_wp2_with fail
  refine (group46 h'.out hz'.out (by rw [← hm'.out]; omega)).mono ?_
  rw [grpRes_yes he]
  rintro e w1 ⟨rfl, hb1⟩
  obtain ⟨w2, hw2⟩ : ∃ w2, w2 = w1.alloc (.cells #[.slice fo n fc, .slice go n gc] 57) := ⟨_, rfl⟩
  have hb2 : Below w.heap.size w w2 := by rw [hw2]; exact hb1.alloc hb1.size _
  obtain ⟨b, hbeq⟩ : ∃ b, b = w1.heap.size := ⟨_, rfl⟩
  have cb0 : w2.cell? ⟨b, 0, none⟩ = some (.slice fo n fc) := by rw [hw2, World.cell?_alloc_at (hn := hbeq)]; rfl
  have cb : w2.cell? ⟨b, 1, none⟩ = some (.slice go n gc) := by rw [hw2, World.cell?_alloc_at (hn := hbeq)]; rfl
  have hlt0 : b < w2.heap.size := by rw [hw2]; simp; omega
  go_wp2_with fail
  rw [← hbeq, ← hw2]
  have hw2' := Lib.hid hw2
  clear hw2 hbeq
  go_loopw [10, 11, 28] (fun sv fv i wr => ∃ (k : Nat) (sum : Int) (f : Nat), k ≤ m ∧ i = .int .i64 k ∧ sv = .int .i64 sum ∧ fv = .int .i64 f ∧ 0 ≤ sum ∧ sum ≤ 180000 * (k : Int) ∧ Hid (AlState fs gs ps k sum f) ∧ Below w2.heap.size w2 wr) (fun _ _ i _ => m - (intOf i).toNat)
  case atStart => exact ⟨0, 0, 0, Nat.zero_le _, rfl, rfl, rfl, by omega, by omega, Lib.hid (AlState.start _ _ _), Below.refl _ _⟩
  case round =>
    obtain ⟨k, sum, f, hk, rfl, rfl, rfl, hs0, hs1, hst, hb⟩ := hrel
    obtain ⟨wo, rfl⟩ : ∃ wo : World, wo = wr := ⟨_, rfl⟩
    by_cases hlt : k < m
    · obtain ⟨q0, q1, _⟩ := grp_at ps 0 hg'.out k (by rw [← hm'.out]; exact hlt)
      obtain ⟨q, hq⟩ : ∃ q : Nat, (q : Int) = ps.getD k 0 := ⟨(ps.getD k 0).toNat, by omega⟩
      obtain ⟨f', hf', hfm, hfa, hsum⟩ := hst.out.at hg'.out (by rw [← hm'.out]; exact hlt) hq.symm
      rw [← hm'.out] at hfm
      have hsum' := Lib.hid hsum
      have hbw := below_call hb2 hb
      obtain ⟨g3, o3, rfl, hg3, hc3⟩ := hz'.out.at hm'.out.symm hlt
      have cc : ∀ j, j < m → wo.cell? ⟨g3, o3 + j, none⟩ = some (.int .i64 (ps.getD j 0)) := fun j hj => (hbw.cell (p := ⟨g3, o3 + j, none⟩) hg3).trans (hc3 j hj)
      have c1 := cc k hlt
      rw [← hq] at c1
      have c0 : 0 < k → wo.cell? ⟨g3, o3 + (k - 1), none⟩ = some (.int .i64 (ps.getD (k - 1) 0)) := fun h0 => cc (k - 1) (by omega)
      have c2 : k + 1 < m → wo.cell? ⟨g3, o3 + (k + 1), none⟩ = some (.int .i64 (ps.getD (k + 1) 0)) := fun h0 => cc (k + 1) h0
      have cf : wo.cell? ⟨g3, o3 + f', none⟩ = some (.int .i64 (aSt (inG ps) q)) := by rw [cc f' hfm, hfa]
      have cbb0 := (hb.cell (p := ⟨b, 0, none⟩) hlt0).trans cb0
      have cbb := (hb.cell (p := ⟨b, 1, none⟩) hlt0).trans cb
      have hrv := Lib.hid (h'.out.below hbw)
      have hP := grp_at ps 0 hg'.out
      have hPp : 0 < k → 0 ≤ ps.getD (k - 1) 0 ∧ ps.getD (k - 1) 0 < n := fun h0 => by
        obtain ⟨x1, x2, _⟩ := hP (k - 1) (by rw [← hm'.out]; omega)
        exact ⟨x1, x2⟩
      have hPn : k + 1 < m → (q : Int) < ps.getD (k + 1) 0 ∧ ps.getD (k + 1) 0 < n := fun h0 => by
        obtain ⟨_, x2, x3⟩ := hP (k + 1) (by rw [← hm'.out]; omega)
        exact ⟨by rw [hq]; exact x3 k (by omega), x2⟩
      have hqn : q < n := by omega
      have hal := aSt_le (inG ps) q
      obtain ⟨A, hA⟩ : ∃ A, A = aSt (inG ps) q := ⟨_, rfl⟩
      rw [← hA] at cf hal hfa
      have hrb := row_bd (fs := fs) hok'.out A (q + 1) (by rw [← hfl'.out, ← hn'.out]; omega)
      have hgoS := Lib.hid (fun (h1 : k + 1 < m) (h2 : ps.getD (k + 1) 0 = (q : Int) + 1) => AlState.go (fs := fs) (gs := gs) (f := f') (by rw [← hm'.out]; exact h1) hq.symm hsum'.out (by rw [← hm'.out]; exact hfm) (by rw [hfa, hA]) h2)
      have hclS := Lib.hid (fun (h2 : k + 1 < m → (q : Int) + 1 < ps.getD (k + 1) 0) => AlState.close (fs := fs) (gs := gs) (f := f') (by rw [← hm'.out]; exact hlt) hq.symm hsum'.out (fun h => h2 (by rw [hm'.out]; exact h)))
      rw [← hA] at hclS
      obtain ⟨R, hR⟩ : ∃ R, R = row fs gs A (q + 1) := ⟨_, rfl⟩
      rw [← hR] at hrb hclS
      have hR' := Lib.hid hR
      obtain ⟨P, hPd⟩ : ∃ P, P = ps.getD (k - 1) 0 := ⟨_, rfl⟩
      obtain ⟨N, hNd⟩ : ∃ N, N = ps.getD (k + 1) 0 := ⟨_, rfl⟩
      rw [← hPd] at c0 hPp hf'
      rw [← hNd] at c2 hPn hgoS hclS
      obtain ⟨hr0, hr1⟩ := hrb
      clear cc hP hc3 hq hst hA hR hPd hNd hfa hsum q0 q1
      have hcall47 := Lib.hid (show ∀ W, Below wo.heap.size wo W → Calls Try.prog 47 #[.agg #[.slice fo n fc, .slice go n gc], .int .i64 (A : Int), .int .i64 ((q : Int) + 1)] W (fun e w' => ∃ a4 b4 c4 d4, e = .returned (.agg #[.slice a4 (q + 1 - A) b4, .slice c4 (q + 1 - A) d4]) ∧ Reads w' (.slice a4 (q + 1 - A) b4) (part fs A (q + 1)) ∧ ReadsG w' (.slice c4 (q + 1 - A) d4) (part gs A (q + 1)) ∧ Below W.heap.size W w') from fun W hW => by
        refine (part47 (fs := fs) (gs := gs) (hrv.out.1.below hW) (hrv.out.2.1.below hW) hfl'.out A (q + 1) (by omega) (by rw [← hn'.out]; omega)).mono ?_
        rintro e w4 ⟨u4, v4, rfl, hu4, hv4, hb4⟩
        obtain ⟨a4, b4, rfl, _⟩ := id hu4
        obtain ⟨c4, d4, rfl, _⟩ := id hv4
        rw [part_len _ _ _ (by rw [← hn'.out]; omega)] at hu4 ⊢
        rw [part_len _ _ _ (by rw [← hfl'.out, ← hn'.out]; omega)] at hv4 ⊢
        exact ⟨a4, b4, c4, d4, rfl, hu4, hv4, hb4⟩)
      have hcall44 := Lib.hid (show ∀ W u4 v4, Reads W u4 (part fs A (q + 1)) → ReadsG W v4 (part gs A (q + 1)) → Calls Try.prog 44 #[.agg #[u4, v4]] W (fun e w' => ∃ x, e = .returned (.tuple #[x, .int .i64 R]) ∧ Below W.heap.size W w') from fun W u4 v4 h1 h2 => by
        refine (best44 h1 h2 (by rw [part_len _ _ _ (by rw [← hn'.out]; omega), part_len _ _ _ (by rw [← hfl'.out, ← hn'.out]; omega)]) (hfo'.out.part _ _ (by rw [← hn'.out]; omega)) (hok'.out.part _ _ (by rw [← hfl'.out, ← hn'.out]; omega))).mono ?_
        rintro e w5 ⟨x5, rfl, _, hb5⟩
        exact ⟨x5, by rw [hR'.out]; rfl, hb5⟩)
      have wq : IntKind.i64.wrap ((q : Int) + 1) = (q : Int) + 1 := IntWalk.i64_in _ (by omega)
      obtain ⟨z, hz⟩ : ∃ z : Bool, z = decide (0 < k ∧ P + 1 < (q : Int)) := ⟨_, rfl⟩
      have hz'' := Lib.hid hz
      obtain ⟨y, hy⟩ : ∃ y : Bool, y = !decide (k + 1 < m ∧ N ≤ (q : Int) + 1) := ⟨_, rfl⟩
      have hy' := Lib.hid hy
      have hf'' := Lib.hid hf'
      clear hz hy hf'
      go_upto_region 8 with fail
      go_cut [44] from 33 to 44 (fun t wx => t = .bool z ∧ wo = wx)
      case first =>
        by_cases hk0 : 0 < k
        · have c0' := c0 hk0
          obtain ⟨hPp1, hPp2⟩ := hPp hk0
          have ya : IntKind.i64.wrap ((k : Int) - 1) = (k : Int) - 1 := IntWalk.i64_in _ (by omega)
          have yb : 0 ≤ (k : Int) - 1 := by omega
          have yc : (k : Int) - 1 < m := by omega
          have yd : ((k : Int) - 1).toNat = k - 1 := by omega
          have ye : (1 : Int) ≤ k := by omega
          by_cases hPq : P + 1 < (q : Int)
          · have hzz : z = true := by rw [hz''.out]; simp [hk0, hPq]
            subst hzz
            clear c2 hPn hgoS hclS c0 hPp hf''
            go_wp2_with fail
            go_meet
            exact ⟨rfl, rfl⟩
          · have hzz : z = false := by rw [hz''.out]; simp; omega
            subst hzz
            clear c2 hPn hgoS hclS c0 hPp hf''
            go_wp2_with fail
            go_meet
            exact ⟨rfl, rfl⟩
        · have hzz : z = false := by rw [hz''.out]; simp; omega
          subst hzz
          clear c2 hPn hgoS hclS c0 hPp hf''
          go_wp2_with fail
          go_meet
          exact ⟨rfl, rfl⟩
      case rest =>
        obtain ⟨rfl, rfl⟩ := hcut
        go_upto_if 44 with fail
        go_cut [11] from 45 to 45 (fun t wx => t = .int .i64 f' ∧ wo = wx)
        case first =>
          cases z
          · have hff : f = f' := by
              have := hz''.out
              rw [hf''.out, if_neg (fun h => by simp [h] at this)]
            clear hf'' c0 c2 hPn hgoS hclS hPp
            subst hff
            go_wp2_with fail
            go_meet
            exact ⟨rfl, rfl⟩
          · have hff : k = f' := by
              have := hz''.out
              rw [hf''.out, if_pos (by simpa using this)]
            clear hf'' c0 c2 hPn hgoS hclS hPp
            subst hff
            go_wp2_with fail
            go_meet
            exact ⟨rfl, rfl⟩
        case rest =>
          obtain ⟨rfl, rfl⟩ := hcut
          clear c0 hPp hf'' hz''
          have xa : IntKind.i64.wrap ((k : Int) + 1) = (k : Int) + 1 := IntWalk.i64_in _ (by omega)
          go_upto_region 10 with fail
          go_cut [60] from 46 to 60 (fun t wx => t = .bool y ∧ wo = wx)
          case first =>
            by_cases hkm : k + 1 = m
            · have ht : ((k : Int) + 1 == (m : Int)) = true := by simp; omega
              have hyy : y = true := by rw [hy'.out]; simp; omega
              subst hyy
              clear c2 hPn hgoS hclS
              go_wp2_with fail
              go_meet
              exact ⟨rfl, rfl⟩
            · have hkm1 : k + 1 < m := by omega
              have c2' := c2 hkm1
              obtain ⟨hPn1, hPn2⟩ := hPn hkm1
              have ht : ((k : Int) + 1 == (m : Int)) = false := by simp; omega
              have xb : (k : Int) + 1 < m := by omega
              have xc : ((k : Int) + 1).toNat = k + 1 := by omega
              by_cases hNq : (q : Int) + 1 < N
              · have hyy : y = true := by rw [hy'.out]; simp; omega
                subst hyy
                clear c2 hPn hgoS hclS
                go_wp2_with fail
                go_meet
                exact ⟨rfl, rfl⟩
              · have hyy : y = false := by rw [hy'.out]; simp; omega
                subst hyy
                clear c2 hPn hgoS hclS
                go_wp2_with fail
                go_meet
                exact ⟨rfl, rfl⟩
          case rest =>
            obtain ⟨rfl, rfl⟩ := hcut
            cases y
            · have hyy : k + 1 < m ∧ N ≤ (q : Int) + 1 := by have := hy'.out; simpa using this
              have hres := Lib.hid (hgoS.out hyy.1 (by have := hPn hyy.1; omega))
              clear c2 hPn hgoS hclS hal hlt0 hpl hy'
              go_wp2_with fail
              go_roundw
              case rel => exact ⟨k + 1, sum, f', by omega, by go_num, rfl, rfl, by omega, by omega, hres, hb⟩
              case measure => simp [intOf]; omega
            · have hyy : ¬ (k + 1 < m ∧ N ≤ (q : Int) + 1) := fun h => by have h0 := hy'.out; rw [decide_eq_true h] at h0; cases h0
              have hsb : sum ≤ 1440000 := by omega
              have hres := Lib.hid (hclS.out (fun h => by by_cases e : N ≤ (q : Int) + 1; exact absurd ⟨h, e⟩ hyy; omega))
              clear c2 hPn hgoS hclS hal hlt0 hpl hy' hyy
              go_wp2_with fail
              go_cut [14, 15] from 61 to 72 (fun _ r wx => r = .int .i64 R ∧ Below w2.heap.size w2 wx)
              case first =>
                go_region_with (first | (go_at_call 47; refine (hcall47.out _ ?_).mono ?_; (first | exact Below.refl _ _ | exact (Below.refl _ _).drew); rintro e w4 ⟨a4, b4, c4, d4, rfl, hu4, hv4, hb4⟩; have hu4' := Lib.hid hu4; have hv4' := Lib.hid hv4; clear hu4 hv4) | (go_at_call 44; refine (hcall44.out _ _ _ hu4'.out hv4'.out).mono ?_; rintro e w5 ⟨x5, rfl, hb5⟩))
                all_goals
                  go_wp2_with fail
                  go_meet
                  exact ⟨rfl, below_call (below_call hb.drew hb4) hb5⟩
              case rest =>
                obtain ⟨rfl, hbc⟩ := hcut
                go_wp2_with fail
                go_roundw
                case rel => exact ⟨k + 1, sum + R, f', by omega, by go_num, rfl, rfl, by omega, by omega, hres, hbc⟩
                case measure => simp [intOf]; omega
    · have hkm : k = m := by omega
      subst hkm
      have hfin := Lib.hid (AlState.done hg'.out (by have := hst.out; rw [hm'.out] at this; exact this))
      go_wp2_with fail
      go_ret2
      exact ⟨by rw [hfin.out]; rfl, below_call hb2 hb⟩
end Go.Proofs.Ytccmabckmpelcaa
