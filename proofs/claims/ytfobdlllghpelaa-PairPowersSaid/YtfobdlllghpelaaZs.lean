import Derived.Test.YtfobdlllghpelaaZr
import Derived.Test.YtfobdlllghpelaaZq
namespace Go.Proofs.Ytfobdlllghpelaa
open Go.RowKit Go.Shelf Pair
attribute [local go_sem] Oper.semAt_some

theorem lexLt_at : ∀ {a b : List Nat}, lexLt a b → ∃ j, j < a.length ∧ (∀ x, x < j → a.getD x 0 = b.getD x 0) ∧ a.getD j 0 < b.getD j 0
  | [], _, h => by simp [lexLt] at h
  | _ :: _, [], h => by simp [lexLt] at h
  | x :: l, y :: m, h => by
    unfold lexLt at h
    rcases h with h | ⟨rfl, h⟩
    · exact ⟨0, by simp, fun x hx => by omega, by simpa using h⟩
    · obtain ⟨j, h1, h2, h3⟩ := lexLt_at h
      refine ⟨j + 1, by simpa using h1, fun z hz => ?_, by simpa using h3⟩
      cases z with
      | zero => rfl
      | succ z => simpa using h2 z (by omega)
theorem wf8 {n : Int} (h : (Lit.int .u8 n).wf = true) : ∃ a : Nat, n = (a : Int) ∧ a ≤ 255 := by
  obtain ⟨h1, h2⟩ := bounds_u8 h
  exact ⟨n.toNat, by omega, by omega⟩
theorem wf16 {n : Int} (h : (Lit.int .u16 n).wf = true) : ∃ a : Nat, n = (a : Int) ∧ a ≤ 65535 := by
  obtain ⟨h1, h2⟩ := bounds_u16 h
  exact ⟨n.toNat, by omega, by omega⟩
theorem ways_bd {cs : List (List Int)} {lim : Int} {n : Nat} (hn : n ≤ 8) : waysM cs 0 lim n ≤ 16777216 := by
  refine Nat.le_trans (cw_bd _ n n _) ?_
  have : ∀ n : Nat, n ≤ 8 → n ^ n ≤ 16777216 := by decide +kernel
  exact this n hn
theorem tmod_nat (a b : Nat) : Int.tmod (a : Int) (b : Int) = ((a % b : Nat) : Int) := (Int.ofNat_tmod a b).symm
theorem size_one (a s : Nat) : 1 ≤ sizeM a s := by unfold sizeM; omega
theorem size_le (a s : Nat) (hs : 1 ≤ s) : sizeM a s ≤ s := by unfold sizeM; have := Nat.mod_lt a (show 0 < s by omega); omega

/-- The allowed pairings by their numbers. -/
theorem alw_facts {cs : List (List Int)} {n : Nat} {lim : Int} (hgd : Good cs n) : ∃ (N : Nat) (P : Nat → List Nat), waysM cs 0 lim n = N ∧ (∀ r : Nat, atM cs lim n (r : Int) = if r < N then some (P r) else none) ∧
    (∀ r, r < N → (P r).length = n ∧ (P r).Nodup ∧ (∀ a ∈ P r, a < n) ∧ withinL cs lim (P r) = true) ∧ (∀ r, r < N → rkM (okM cs 0 lim) n n (2 ^ n - 1) (P r) = some r) ∧
    ∀ r, r + 1 < N → ∃ j, j < n ∧ (∀ x, x < j → (P r).getD x 0 = (P (r + 1)).getD x 0) ∧ (P r).getD j 0 < (P (r + 1)).getD j 0 := by
  obtain ⟨A, hA⟩ : ∃ A, A = (allP n n []).filter (withinL cs lim) := ⟨_, rfl⟩
  have hAm : ∀ l ∈ A, l.length = n ∧ l.Nodup ∧ (∀ a ∈ l, a < n) ∧ withinL cs lim l = true := fun l hl => by
    rw [hA, List.mem_filter] at hl
    obtain ⟨h1, h2, h3⟩ := all_mem hl.1
    exact ⟨h1, h2, h3, hl.2⟩
  have hnd : A.Nodup := by rw [hA]; exact nodup_allP cs lim n
  have hsort : A.Pairwise lexLt := by rw [hA]; exact (allP_sorted n n []).filter _
  have hget : ∀ r, (hr : r < A.length) → A.getD r [] = A[r] := fun r hr => by simp [List.getD_eq_getElem?_getD, hr]
  have hin : ∀ r, r < A.length → A.getD r [] ∈ A := fun r hr => by rw [hget r hr]; exact List.getElem_mem hr
  refine ⟨A.length, fun r => A.getD r [], by rw [allowed_ways hgd, ← hA], fun r => ?_, fun r hr => hAm _ (hin r hr), fun r hr => ?_, fun r hr => ?_⟩
  · rw [allowed_at hgd, if_neg (by omega), Int.toNat_natCast, ← hA]
    by_cases h : r < A.length
    · rw [if_pos h]
      show _ = some (A.getD r [])
      rw [hget r h, List.getElem?_eq_getElem h]
    · rw [if_neg h, List.getElem?_eq_none (by omega)]
  · obtain ⟨h1, h2, h3, _⟩ := hAm _ (hin r hr)
    have := rank_in (lim := lim) hgd h1 h2 h3
    rw [← hA] at this
    cases e : rkM (okM cs 0 lim) n n (2 ^ n - 1) (A.getD r []) with
    | none => rw [e] at this; exact absurd (hin r hr) this
    | some q =>
      rw [e] at this
      obtain ⟨q1, q2⟩ := List.getElem?_eq_some_iff.1 this
      rw [hget r hr] at q2
      rw [(List.getElem_inj hnd).1 q2]
  · have h1 := List.pairwise_iff_getElem.1 hsort r (r + 1) (by omega) hr (by omega)
    rw [← hget r (by omega), ← hget (r + 1) hr] at h1
    obtain ⟨j, h2, h3, h4⟩ := lexLt_at h1
    exact ⟨j, by rw [(hAm _ (hin r (by omega))).1] at h2; exact h2, h3, h4⟩

set_option maxHeartbeats 4000000 in
set_option maxRecDepth 100000 in
theorem walk16 {w : World} {v : Value} {xs : List Nat} {n0 : Int} (hn0 : (Lit.int .u8 n0).wf = true) (hx : InNats .u16 65535 w v xs) {y0 y1 : Nat} (hy0 : y0 ≤ 65535) (hy1 : y1 ≤ 65535) :
    Calls Try.prog 16 #[.int .u8 n0, v, .agg #[.int .u16 y0, .int .u16 y1]] w fun e w' => e = .returned (.bool true) ∧ Below w.heap.size w w' := by
  obtain ⟨a, rfl, ha⟩ := wf8 hn0
  obtain ⟨w0, hw0⟩ : ∃ w0, w0 = w.alloc (.cells #[.int .u16 y0, .int .u16 y1] 68) := ⟨_, rfl⟩
  have hb0 : Below w.heap.size w w0 := by rw [hw0]; exact below_alloc1 w _
  have e0 : w0.cell? ⟨w.heap.size, 0, none⟩ = some (.int .u16 y0) := by rw [hw0, World.cell?_alloc_at (hn := rfl)]; rfl
  have e1 : w0.cell? ⟨w.heap.size, 1, none⟩ = some (.int .u16 y1) := by rw [hw0, World.cell?_alloc_at (hn := rfl)]; rfl
  have hsz : w.heap.size < w0.heap.size := by rw [hw0]; simp
  obtain ⟨g0, hg0⟩ : ∃ g, g = w.heap.size := ⟨_, rfl⟩
  rw [← hg0] at e0 e1 hsz
  have hmd := Lib.hid (made45 (hx.below hb0) a 8 9 ha (by omega) (by omega) (by omega))
  obtain ⟨n, hn⟩ : ∃ n, n = sizeM a 8 := ⟨_, rfl⟩
  have hn1 : 1 ≤ n := by rw [hn]; exact size_one a 8
  have hn8 : n ≤ 8 := by rw [hn]; exact size_le a 8 (by omega)
  have hgd := made_good (xs := xs) (m := 9) hn1 hn8 (by omega)
  have hvd := made_valid (xs := xs) (m := 9) hn1 hn8 (by omega)
  have hcst := Lib.hid (fun (w : World) (B : Nat) (v : Value) (h : OwnG w B v (madeC xs 9 n n)) => made_cst (m := 9) hn8 h)
  rw [← hn] at hmd
  obtain ⟨cs, hcs⟩ : ∃ cs, cs = madeC xs 9 n n := ⟨_, rfl⟩
  rw [← hcs] at hmd hgd hvd hcst
  clear hn hcs
  obtain ⟨lim, hlim⟩ : ∃ l : Nat, l = y0 % 11 := ⟨_, rfl⟩
  have hrm : Int.tmod (y0 : Int) 11 = (lim : Int) := by rw [hlim]; exact tmod_nat y0 11
  clear hlim
  have hlen := hgd.len
  obtain ⟨N, P, hwm, haM, hPm, hrkv, hlx⟩ := alw_facts (lim := (lim : Int)) hgd
  have hNb : N ≤ 16777216 := by rw [← hwm]; exact ways_bd hn8
  have hct := Lib.hid (fun (w : World) (v : Value) (h : Cst w v cs) => count40 h hvd hgd lim)
  rw [hwm] at hct
  have hat := Lib.hid (fun (w : World) (v : Value) (h : Cst w v cs) (r : Nat) (hr : r ≤ 100000000) => (show Calls Try.prog 41 #[v, .int .i64 lim, .int .i64 r] w (AtEnd w n (if r < N then some (P r) else none)) by
    have := at41 h hvd hgd lim r (by omega); rwa [haM r] at this))
  have hrk := Lib.hid (fun (w : World) (v u : Value) (h : Cst w v cs) (r : Nat) (hr : r < N) (hu : Reads w u (natI (P r))) => (show Calls Try.prog 43 #[v, .int .i64 lim, u] w (RankRes w (some r)) by
    have := rank43 h hvd hgd lim hu (hPm r hr).1 (hPm r hr).2.1 (hPm r hr).2.2.1
    rwa [hrkv r hr] at this))
  have hpr := Lib.hid (fun (w : World) (u : Value) (r : Nat) (hr : r < N) (hu : Reads w u (natI (P r))) => (show Calls Try.prog 44 #[u, .int .i64 n] w fun e w' => e = .returned (.bool true) ∧ Below w.heap.size w w' by
    have := refPairing44 hu (by rw [natI_len, (hPm r hr).1]; omega) n (by omega)
    rwa [pairB_of (hPm r hr).1 (hPm r hr).2.1 (hPm r hr).2.2.1] at this))
  have hfl := Lib.hid (fun (w : World) (v u : Value) (h : Cst w v cs) (r : Nat) (hr : r < N) (hu : Reads w u (natI (P r))) => falling46 (h.sq hgd) hgd hu (hPm r hr).1 (hPm r hr).2.2.1)
  have hwl := Lib.hid (show ∀ r, r < N → (falling (costsN cs (P r))).length = n ∧ ((falling (costsN cs (P r))).getD 0 0 : Int) ≤ lim from fun r hr => by
    obtain ⟨h1, _, _, h4⟩ := hPm r hr
    exact ⟨by rw [(falling_perm _).length_eq]; simp [costsN, h1], by unfold withinL at h4; simpa using h4⟩)
  have hlx := Lib.hid hlx
  have hAn := Lib.hid (show ∀ r, r < N → (natI (P r)).length = n ∧ (P r).length = n from fun r hr => ⟨by rw [natI_len, (hPm r hr).1], (hPm r hr).1⟩)
  have hlv := Lib.hid (fun (w : World) => lives22 (w := w))
  obtain ⟨⟨xo, xc, rfl, _⟩, _⟩ := hx
  have hb0' := Lib.hid hb0
  have hw0' := Lib.hid hw0
  have hg0' := Lib.hid hg0
  clear hwm hgd hvd hPm hrkv hb0 hw0 hg0 hn0 haM
  go_enter Try.func16, Try.ntmps16
  go_wp2_with fail
  rw [← hw0'.out, ← hg0'.out]
  refine (hmd.out).mono ?_
  rintro e w1 ⟨v1, rfl, hv1, hb1⟩
  have hc1 := Lib.hid (hcst.out _ _ _ hv1)
  have k0 := (hb1.cell (p := ⟨g0, 0, none⟩) hsz).trans e0
  have k1 := Lib.hid ((hb1.cell (p := ⟨g0, 1, none⟩) hsz).trans e1)
  have hs1 := Nat.lt_of_lt_of_le hsz hb1.size
  have hb1' := Lib.hid (below_call hb0'.out hb1)
  have hvl := (hcst.out _ _ _ hv1).reads
  obtain ⟨vo, vc, hve, _⟩ := hvl
  rw [hlen] at hve
  subst hve
  clear hv1 hb1 e0 e1 hsz hmd
  go_wp2_with fail
  refine (hct.out _ _ hc1.out).mono ?_
  rintro e w2 ⟨rfl, hb2⟩
  have hc2 := Lib.hid (hc1.out.below hb2)
  have k2 := Lib.hid ((hb2.cell (p := ⟨g0, 1, none⟩) hs1).trans k1.out)
  have hs2 := Nat.lt_of_lt_of_le hs1 hb2.size
  have hb2' := Lib.hid (below_call hb1'.out hb2)
  clear hb2 k0 hs1
  go_wp2_with fail
  refine (hlv.out _).mono ?_
  rintro e w3 ⟨rfl, hb3⟩
  have hc3 := Lib.hid (hc2.out.below hb3)
  have k3 := Lib.hid ((hb3.cell (p := ⟨g0, 1, none⟩) hs2).trans k2.out)
  have hs3 := Nat.lt_of_lt_of_le hs2 hb3.size
  have hb3' := Lib.hid (below_call hb2'.out hb3)
  clear hb3 hs2 k2 k1 hc2 hc1
  have hatN := Lib.hid (hat.out w3 _ hc3.out N (by omega))
  rw [if_neg (by omega)] at hatN
  go_wp2_with fail
  refine (hatN.out).mono ?_
  rintro e w4 ⟨rfl, hb4⟩
  have hc4 := Lib.hid (hc3.out.below hb4)
  have k4 := (hb4.cell (p := ⟨g0, 1, none⟩) hs3).trans k3.out
  have hb4' := Lib.hid (below_call hb3'.out hb4)
  clear hb4 hs3 k3 hc3 hatN
  by_cases hN0 : N = 0
  · subst hN0
    go_wp2_with fail
    go_ret
    exact ⟨rfl, hb4'.out⟩
  have hNn : ((N : Int) == 0) = false := by simp; omega
  have hNp : 0 < N := by omega
  obtain ⟨r, hr⟩ : ∃ r : Nat, r = y1 % N := ⟨_, rfl⟩
  have hrN : r < N := by rw [hr]; exact Nat.mod_lt _ hNp
  have hrm2 : Int.tmod (y1 : Int) (N : Int) = (r : Int) := by rw [hr]; exact tmod_nat y1 N
  clear hr hN0 hlen
  have hatr := Lib.hid (hat.out w4 _ hc4.out r (by omega))
  rw [if_pos hrN] at hatr
  obtain ⟨hwl1, hwl2⟩ := hwl.out r hrN
  go_wp2_with fail
  refine (hatr.out).mono ?_
  rintro e w5 ⟨⟨g, rfl, hrow⟩, hb5⟩
  have hc5 := Lib.hid (hc4.out.below hb5)
  have hr5 := Lib.hid hrow.reads
  have hb5' := Lib.hid (below_call hb4'.out hb5)
  clear hrow hb5 k4 hc4 hatr
  have hrk5 := Lib.hid (hrk.out w5 _ _ hc5.out r hrN hr5.out)
  unfold RankRes at hrk5
  simp only [Option.getD_some, Option.isSome_some, if_true] at hrk5
  go_wp2_with fail
  refine (hrk5.out).mono ?_
  rintro e w6 ⟨rfl, hb6⟩
  have hc6 := Lib.hid (hc5.out.below hb6)
  have hr6 := Lib.hid (hr5.out.below hb6)
  have hb6' := Lib.hid (below_call hb5'.out hb6)
  clear hb6 hc5 hr5 hrk5
  have hpr6 := Lib.hid (hpr.out w6 _ r hrN hr6.out)
  go_wp2_with fail
  refine (hpr6.out).mono ?_
  rintro e w7 ⟨rfl, hb7⟩
  have hc7 := Lib.hid (hc6.out.below hb7)
  have hr7 := Lib.hid (hr6.out.below hb7)
  have hb7' := Lib.hid (below_call hb6'.out hb7)
  clear hb7 hc6 hr6 hpr6
  have hfl7 := Lib.hid (hfl.out w7 _ _ hc7.out r hrN hr7.out)
  obtain ⟨F, hF⟩ : ∃ F, F = falling (costsN cs (P r)) := ⟨_, rfl⟩
  rw [← hF] at hfl7 hwl1 hwl2
  clear hF
  go_wp2_with fail
  refine (hfl7.out).mono ?_
  rintro e w8 ⟨v8, rfl, hv8, hb8⟩
  obtain ⟨g8, cap8, rfl, _, c8, _⟩ := int_val hv8 (by intro e; rw [e] at hwl1; simp at hwl1; omega)
  have c80 := c8 0 (by omega)
  rw [hwl1]
  have hc8 := Lib.hid (hc7.out.below hb8)
  have hr8 := Lib.hid (hr7.out.below hb8)
  have hb8' := Lib.hid (below_call hb7'.out hb8)
  obtain ⟨f0, hf0⟩ : ∃ f0, f0 = F.getD 0 0 := ⟨_, rfl⟩
  rw [← hf0] at c80 hwl2
  have hwl3 : decide (lim < f0) = false := by simp; omega
  clear hb8 hc7 hr7 hv8 c8 hfl7 hf0 hwl hrk hpr hfl
  by_cases hlast : r + 1 = N
  · have hl2 : ((r : Int) + 1 == (N : Int)) = true := by simp; omega
    have hl3 : (r : Int) + 1 = (N : Int) := by omega
    go_wp2_with fail
    go_ret
    exact ⟨rfl, hb8'.out⟩
  have hr1N : r + 1 < N := by omega
  have hl2 : ((r : Int) + 1 == (N : Int)) = false := by simp; omega
  have hatq := Lib.hid (hat.out w8 _ hc8.out (r + 1) (by omega))
  rw [if_pos hr1N, show ((r + 1 : Nat) : Int) = (r : Int) + 1 by omega] at hatq
  obtain ⟨j0, hj1, hj2, hj3⟩ := hlx.out r hr1N
  have hlN := (hAn.out r hrN).1
  have hlN2 := (hAn.out (r + 1) hr1N).1
  have hlN3 := (hAn.out r hrN).2
  have hlN4 := (hAn.out (r + 1) hr1N).2
  obtain ⟨p, hp⟩ : ∃ p, p = P r := ⟨_, rfl⟩
  obtain ⟨q, hq⟩ : ∃ q, q = P (r + 1) := ⟨_, rfl⟩
  rw [← hp] at hr8 hj2 hj3 hlN hlN3
  rw [← hq] at hatq hj2 hj3 hlN2 hlN4
  have hlN5 := Lib.hid hlN
  have hlN6 := Lib.hid hlN2
  have hlN7 := Lib.hid hlN3
  have hlN8 := Lib.hid hlN4
  have hj2' := Lib.hid hj2
  have hj3' := Lib.hid hj3
  clear hp hq hat hlx hAn hlN hlN2 hlN3 hlN4 hj2 hj3 hlast
  go_wp2_with fail
  refine (hatq.out).mono ?_
  rintro e w9 ⟨⟨g9, rfl, hrow9⟩, hb9⟩
  have hr9 := Lib.hid (hr8.out.below hb9)
  have hq9 := Lib.hid hrow9.reads
  have hb9' := Lib.hid (below_call hb8'.out hb9)
  clear hrow9 hb9 hc8 hr8 hatq c80
  go_wp2_with fail
  go_loopw [20] (fun iv wr => ∃ j : Nat, j ≤ j0 ∧ iv = .int .i64 j ∧ Hid (Below w9.heap.size w9 wr)) (fun iv _ => n - (intOf iv).toNat)
  case atStart => exact ⟨0, Nat.zero_le _, rfl, Lib.hid (Below.refl _ _)⟩
  case round =>
    obtain ⟨j, hj, rfl, hbw⟩ := hrel
    have hjn : j < n := by omega
    obtain ⟨ga, oa, ea, hga, ca⟩ := hr9.out.at hlN5.out hjn
    obtain ⟨gb, ob, eb, hgb, cb⟩ := hq9.out.at hlN6.out hjn
    have da := (hbw.out.cell (p := ⟨ga, oa + j, none⟩) hga).trans (ca j hjn)
    have db := (hbw.out.cell (p := ⟨gb, ob + j, none⟩) hgb).trans (cb j hjn)
    rw [natI_at p j (by rw [hlN7.out]; exact hjn)] at da
    rw [natI_at q j (by rw [hlN8.out]; exact hjn)] at db
    injection ea with ea
    injection eb with eb
    injection ea with ea1 ea2
    injection eb with eb1 eb2
    subst ea1 ea2 eb1 eb2
    rw [Nat.zero_add] at da db
    clear ca cb
    by_cases hjj : j = j0
    · subst hjj
      have hlt := hj3'.out
      obtain ⟨x, hx⟩ : ∃ x, x = p.getD j 0 := ⟨_, rfl⟩
      obtain ⟨y, hy⟩ : ∃ y, y = q.getD j 0 := ⟨_, rfl⟩
      rw [← hx] at da hlt
      rw [← hy] at db hlt
      have hne : (((x : Nat) : Int) != (y : Int)) = true := by simp; omega
      have hne2 : x ≠ y := by omega
      have hlt2 : decide (x < y) = true := by simpa using hlt
      clear hx hy hj2' hj3'
      go_wp2_with fail
      go_quiet (fail)
      go_wp2_with fail
      go_quiet (fail)
      go_wp2_with fail
      go_ret
      exact ⟨rfl, below_call hb9'.out (below_drewN (below_drewN hbw.out _) _)⟩
    · have hxy := hj2'.out j (by omega)
      obtain ⟨x, hx⟩ : ∃ x, x = p.getD j 0 := ⟨_, rfl⟩
      rw [← hxy, ← hx] at db
      rw [← hx] at da
      have hne : (((x : Nat) : Int) != (x : Int)) = false := by simp
      clear hx hxy hj2' hj3'
      go_wp2_with fail
      go_quiet (fail)
      go_wp2_with fail
      go_roundw
      case rel => exact ⟨j + 1, by omega, by go_num, Lib.hid (below_drewN hbw.out _)⟩
      case measure => simp [intOf]; omega
end Go.Proofs.Ytfobdlllghpelaa
