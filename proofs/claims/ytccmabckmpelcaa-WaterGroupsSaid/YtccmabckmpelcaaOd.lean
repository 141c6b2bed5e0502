import Derived.Test.YtccmabckmpelcaaOc
namespace Go.Proofs.Ytccmabckmpelcaa
open Go.RowKit

set_option maxHeartbeats 4000000 in
set_option maxRecDepth 100000 in
theorem group27 {w : World} {v : Value} {xs : List Int} (hv : Reads w v xs) (hl : xs.length ≤ 1000000) (N : Nat) (hN1 : 1 ≤ N) (hN : N ≤ 1000000) :
    Calls Try.prog 27 #[.int .i64 (N : Int), v] w fun e w' => e = .returned (.bool (grpFrom N 0 xs)) ∧ Below w.heap.size w w' := by
  have hv' := Lib.hid hv
  obtain ⟨ao, c, rfl, _, _⟩ := hv
  obtain ⟨n, hn⟩ : ∃ n, n = xs.length := ⟨_, rfl⟩
  rw [← hn] at hl hv' ⊢
  have hn' := Lib.hid hn
  clear hn
  go_enter Try.func27, Try.ntmps27
  go_wp2_with fail
  go_loopw [5] (fun i wr => ∃ (k : Nat) (most : Int), k ≤ n ∧ i = .int .i64 (k : Int) ∧ Hid (0 ≤ most ∧ (k = 0 → most = 0) ∧ (0 < k → most = xs.getD (k - 1) 0 + 1 ∧ 0 ≤ xs.getD (k - 1) 0 ∧ xs.getD (k - 1) 0 < N)) ∧ Hid (grpFrom N 0 xs = grpFrom N most (xs.drop k)) ∧ Below w.heap.size w wr) (fun i _ => n - (intOf i).toNat)
  case atStart => exact ⟨0, 0, Nat.zero_le _, rfl, Lib.hid ⟨Int.le_refl _, fun _ => rfl, fun h => by omega⟩, Lib.hid rfl, Below.refl _ _⟩
  case round =>
    obtain ⟨k, most, hk, rfl, hm, hj, hb⟩ := hrel
    by_cases hlt : k < n
    · obtain ⟨g, o, rfl, hg, hc1⟩ := hv'.out.at hn'.out.symm hlt
      have c1 := (hb.cell (p := ⟨g, o + k, none⟩) hg).trans (hc1 k hlt)
      have c0 : wr.cell? ⟨g, o + (k - 1), none⟩ = some (.int .i64 (xs.getD (k - 1) 0)) := (hb.cell (p := ⟨g, o + (k - 1), none⟩) hg).trans (hc1 (k - 1) (by omega))
      have hd := Lib.hid (drop_cons xs k (by rw [← hn'.out]; exact hlt))
      obtain ⟨x, hx⟩ : ∃ x, x = xs.getD k 0 := ⟨_, rfl⟩
      obtain ⟨y, hy⟩ : ∃ y, y = xs.getD (k - 1) 0 := ⟨_, rfl⟩
      rw [← hx] at c1
      rw [← hy] at c0
      have hx' := Lib.hid hx
      have hy' := Lib.hid hy
      have hb' := Lib.hid hb
      have wN : IntKind.i64.wrap ((N : Int) - 1) = (N : Int) - 1 := IntWalk.i64_in _ (by omega)
      clear hc1 hx hy hb
      by_cases ha : 0 ≤ x ∧ x ≤ (N : Int) - 1
      · obtain ⟨ha1, ha2⟩ := ha
        have hcall := Lib.hid (fun p => in42_yes x 0 ((N : Int) - 1) (wr.drewN p) ha1 ha2)
        by_cases hk0 : 0 < k
        · have hk1 : (1 : Int) ≤ k := by omega
          have x1 : IntKind.i64.wrap ((k : Int) - 1) = (k : Int) - 1 := IntWalk.i64_in _ (by omega)
          have x2 : 0 ≤ (k : Int) - 1 := by omega
          have x3 : (k : Int) - 1 < n := by omega
          have x4 : ((k : Int) - 1).toNat = k - 1 := by omega
          have x5 : (0 : Int) < k := by omega
          by_cases hxy : x ≤ y
          · have hf := Lib.hid (show grpFrom N 0 xs = false by
              obtain ⟨_, _, h3⟩ := hm.out
              obtain ⟨h4, _, _⟩ := h3 hk0
              rw [hj.out, hd.out, grpFrom, ← hx'.out, h4, ← hy'.out]; simp; omega)
            go_wp2_with fail
            go_quiet ((go_at_call 42; exact Calls.quiet_of_same (hcall.out _)))
            go_wp2_with fail
            go_ret
            exact ⟨ret_b hf.out.symm, below_drewN hb'.out _⟩
          · have hf := Lib.hid (show grpFrom N 0 xs = grpFrom N (x + 1) (xs.drop (k + 1)) by
              obtain ⟨_, _, h3⟩ := hm.out
              obtain ⟨h4, _, _⟩ := h3 hk0
              rw [hj.out, hd.out, grpFrom, ← hx'.out, h4, ← hy'.out]; simp [show y + 1 ≤ x by omega, show x < N by omega])
            go_wp2_with fail
            go_quiet ((go_at_call 42; exact Calls.quiet_of_same (hcall.out _)))
            go_wp2_with fail
            go_roundw
            case rel => exact ⟨k + 1, x + 1, by omega, by go_num, Lib.hid ⟨by omega, fun h => by omega, fun _ => by rw [Nat.add_sub_cancel, ← hx'.out]; exact ⟨rfl, ha1, by omega⟩⟩, hf, below_drewN hb'.out _⟩
            case measure => simp [intOf]; omega
        · have hf := Lib.hid (show grpFrom N 0 xs = grpFrom N (x + 1) (xs.drop (k + 1)) by
            obtain ⟨_, h3, _⟩ := hm.out
            rw [hj.out, hd.out, grpFrom, ← hx'.out, h3 (by omega)]; simp [ha1, show x < N by omega])
          go_wp2_with fail
          go_quiet ((go_at_call 42; exact Calls.quiet_of_same (hcall.out _)))
          go_wp2_with fail
          go_roundw
          case rel => exact ⟨k + 1, x + 1, by omega, by go_num, Lib.hid ⟨by omega, fun h => by omega, fun _ => by rw [Nat.add_sub_cancel, ← hx'.out]; exact ⟨rfl, ha1, by omega⟩⟩, hf, below_drewN hb'.out _⟩
          case measure => simp [intOf]; omega
      · have hcall := Lib.hid (fun p => in42_no x 0 ((N : Int) - 1) (wr.drewN p) (by omega))
        have hf := Lib.hid (show grpFrom N 0 xs = false by
          obtain ⟨h2, _, _⟩ := hm.out
          rw [hj.out, hd.out, grpFrom, ← hx'.out]
          by_cases e : x < 0
          · simp [show ¬ most ≤ x by omega]
          · simp [show ¬ x < N by omega])
        clear ha
        go_wp2_with fail
        go_quiet ((go_at_call 42; exact Calls.quiet_of_same (hcall.out _)))
        go_wp2_with fail
        go_ret
        exact ⟨ret_b hf.out.symm, below_drewN hb'.out _⟩
    · have hf := Lib.hid (show grpFrom N 0 xs = true by rw [hj.out, drop_end _ _ (by rw [← hn'.out]; omega)]; rfl)
      go_wp2_with fail
      go_ret
      exact ⟨ret_b hf.out.symm, hb⟩

theorem grpRes_no {er : Int} {u v : Value} (h : er ≠ 0) : grpRes er u v = .returned (.tuple #[.agg #[.slice none 0 0, .slice none 0 0], .int .i64 er]) := by unfold grpRes; rw [if_neg h]

set_option maxHeartbeats 4000000 in
set_option maxRecDepth 100000 in
theorem alone25_bad {w : World} {u v z : Value} {fs ps : List Int} {gs : List (List Int)} {E : Int} (h : Riv w u v fs gs) (hz : Reads w z ps) (hul : ps.length ≤ 1000000) (hE : gErr fs gs ps = E) (h0 : E = 1 ∨ E = 2) :
    Calls Try.prog 25 #[u, v, z] w fun e w' => e = .returned (.tuple #[.int .i64 0, .int .i64 E]) ∧ Below w.heap.size w w' := by
  have h' := Lib.hid h
  have hz' := Lib.hid hz
  obtain ⟨fo, fc, rfl, _, _⟩ := h.1
  obtain ⟨go, gc, rfl, _, _⟩ := h.2.1
  obtain ⟨zo, zc, rfl, _, _⟩ := hz
  clear h
  have hE' := Lib.hid hE
  clear hE
  rcases h0 with rfl | rfl
  all_goals
    go_enter Try.func25, Try.ntmps25
    go_wp2_with fail
    refine (group46 h'.out hz'.out hul).mono ?_
    rw [hE'.out, grpRes_no (by omega)]
    rintro e w1 ⟨rfl, hb1⟩
    go_wp2_with fail
    go_ret2
    exact ⟨rfl, hb1.alloc hb1.size _⟩

set_option maxHeartbeats 4000000 in
set_option maxRecDepth 100000 in
theorem aspires26_bad {w : World} {u v z : Value} {fs ps : List Int} {gs : List (List Int)} {E : Int} (h : Riv w u v fs gs) (hz : Reads w z ps) (hul : ps.length ≤ 1000000) (hE : gErr fs gs ps = E) (h0 : E = 1 ∨ E = 2) :
    Calls Try.prog 26 #[u, v, z] w fun e w' => e = .returned (.tuple #[.int .i64 0, .int .i64 E]) ∧ Below w.heap.size w w' := by
  have h' := Lib.hid h
  have hz' := Lib.hid hz
  obtain ⟨fo, fc, rfl, _, _⟩ := h.1
  obtain ⟨go, gc, rfl, _, _⟩ := h.2.1
  obtain ⟨zo, zc, rfl, _, _⟩ := hz
  clear h
  have hE' := Lib.hid hE
  clear hE
  rcases h0 with rfl | rfl
  all_goals
    go_enter Try.func26, Try.ntmps26
    go_wp2_with fail
    refine (group46 h'.out hz'.out hul).mono ?_
    rw [hE'.out, grpRes_no (by omega)]
    rintro e w1 ⟨rfl, hb1⟩
    go_wp2_with fail
    go_ret2
    exact ⟨rfl, hb1.alloc hb1.size _⟩

set_option maxHeartbeats 4000000 in
set_option maxRecDepth 100000 in
theorem aspires29 {w : World} {u v z : Value} {fs ps : List Int} {gs : List (List Int)} {n : Nat} (hu : Reads w u fs) (hv : ReadsG w v gs) (hz : Reads w z ps) (hn : n = fs.length) (hng : n = gs.length) (h1 : 1 ≤ n) (hfo : FlowOk fs) (hok : GOk gs) (hg : grpFrom n 0 ps = true) :
    Calls Try.prog 29 #[u, v, z] w fun e w' => e = .returned (.int .i64 (asp fs gs (inG ps))) ∧ Below w.heap.size w w' := by
  have h9 : n ≤ 9 := by rw [hn]; exact hfo.1
  have hpl := grp_len hg
  have hu' := Lib.hid hu
  have hv' := Lib.hid hv
  have hz' := Lib.hid hz
  obtain ⟨uo, uc, rfl, _, _⟩ := hu
  obtain ⟨vo, vc, rfl, _, _⟩ := hv
  obtain ⟨zo, zc, rfl, _, _⟩ := hz
  obtain ⟨m, hm⟩ : ∃ m, m = ps.length := ⟨_, rfl⟩
  rw [← hn] at hu' ⊢
  rw [← hng] at hv' ⊢
  rw [← hm] at hz' hpl ⊢
  have hn' := Lib.hid hn
  have hng' := Lib.hid hng
  have hfo' := Lib.hid hfo
  have hok' := Lib.hid hok
  have hm' := Lib.hid hm
  have hg' := Lib.hid hg
  clear hn hng hfo hok hm hg
  go_enter Try.func29, Try.ntmps29
  go_wp2_with (first | (at_make; refine make_rowv n (by omega) (Nat.le_refl _) rfl _ _ rfl rfl rfl ?_; intro w3 hr3 hb3))
  obtain ⟨g, hgq⟩ : ∃ g, g = w.heap.size := ⟨_, rfl⟩
  rw [← hgq] at hr3 hb3 ⊢
  have hg2 := Lib.hid hgq
  clear hgq
  go_loopw [8] (fun i wr => ∃ (k : Nat) (vs : List Value), k ≤ m ∧ i = .int .i64 (k : Int) ∧ RowV wr g g n vs ∧ Hid (ReadsV w vs gs (inG (ps.take k))) ∧ Below g w wr) (fun i _ => m - (intOf i).toNat)
  case atStart =>
    refine ⟨0, _, Nat.zero_le _, rfl, hr3, Lib.hid (fun j hj => ?_), hb3⟩
    have e1 : inG (ps.take 0) j = false := by simp [inG]
    rw [e1]
    rw [← hng'.out] at hj
    rw [show (List.replicate n (Value.slice none 0 0)).getD j undef = .slice none 0 0 by simp [List.getD_eq_getElem?_getD, hj]]
    exact reads_nil _
  case round =>
    obtain ⟨k, vs, hk, rfl, hrow, hvs, hb⟩ := hrel
    obtain ⟨wo, rfl⟩ : ∃ wo : World, wo = wr := ⟨_, rfl⟩
    have hb3' := Lib.hid (show Below w.heap.size w wo by rw [← hg2.out]; exact hb)
    by_cases hlt : k < m
    · obtain ⟨q0, q1, _⟩ := grp_at ps 0 hg'.out k (by rw [← hm'.out]; exact hlt)
      obtain ⟨p, hp⟩ : ∃ p : Nat, (p : Int) = ps.getD k 0 := ⟨(ps.getD k 0).toNat, by omega⟩
      have hpn : p < n := by omega
      obtain ⟨g3, o3, rfl, hg3, hc3⟩ := hz'.out.at hm'.out.symm hlt
      have c1 := (hb3'.out.cell (p := ⟨g3, o3 + k, none⟩) hg3).trans (hc3 k hlt)
      rw [← hp] at c1
      obtain ⟨g4, o4, rfl, hg4, ro, rc, hc4, hrow4⟩ := hv'.out.at hng'.out.symm hpn
      have c4 := (hb3'.out.cell (p := ⟨g4, o4 + p, none⟩) hg4).trans hc4
      have cg := hrow.cell hpn
      have fg := hrow.frozen p
      have hrow' := Lib.hid hrow
      obtain ⟨l, hl⟩ : ∃ l, l = gs.getD p [] := ⟨_, rfl⟩
      rw [← hl] at c4 hrow4
      obtain ⟨r, hrl⟩ : ∃ r, r = l.length := ⟨_, rfl⟩
      rw [← hrl] at c4 hrow4
      have hvs2 := Lib.hid (show ReadsV w (vs.set p (.slice ro r rc)) gs (inG (ps.take (k + 1))) from fun j hj => by
        rw [inG_take_snoc (by rw [← hm'.out]; exact hlt) hp.symm]
        by_cases e : j = p
        · subst e
          rw [List.getD_eq_getElem?_getD, List.getElem?_set_self (by rw [hrow'.out.2]; exact hpn)]
          simp only [Option.getD_some, decide_true, Bool.or_true, if_true]
          rw [← hl]; exact hrow4
        · rw [List.getD_eq_getElem?_getD, List.getElem?_set_ne (fun h => e h.symm), ← List.getD_eq_getElem?_getD]
          have := hvs.out j hj
          simpa [e] using this)
      have hset := Lib.hid (hrow'.out.set p (.slice ro r rc))
      have hb' := Lib.hid hb
      clear hc3 hc4 hp hl hrl hrow q0 q1 hrow4 hb
      go_wp2_with fail
      refine wp_region_still_tail 13 (by kernel_rfl) (by kernel_rfl) ?_
      simp only [List.take_succ_cons, List.take_zero, List.drop_succ_cons, List.drop_zero]
      change wpStill _ _ wo.drew (fun a' => wpList _ _ _ _ a' wo.drew) _ _
      iterate 13 still_step
      refine wpStill_nil ?_
      go_wp2_with fail
      exact ⟨⟨k + 1, _, by omega, by go_num, hset.out, hvs2, (below_set hb'.out (Nat.le_refl _)).drew⟩, by simp [intOf]; omega⟩
    · have hkm : k = m := by omega
      have hps := Lib.hid (show ps.take k = ps by rw [hkm, hm'.out]; exact List.take_of_length_le (Nat.le_refl _))
      have hrd := Lib.hid (show ReadsG wo (.slice (some ⟨g, 0, none⟩) n n) (maskG gs (inG ps)) from hrow.reads hng'.out (fun j hj => by
        have := hvs.out j hj
        rw [hps.out] at this
        exact this.below hb3'.out))
      have hasp := Lib.hid (show asp fs gs (inG ps) = bestW fs (maskG gs (inG ps)) from rfl)
      obtain ⟨R, hR⟩ : ∃ R, R = asp fs gs (inG ps) := ⟨_, rfl⟩
      have hR' := Lib.hid hR
      clear hkm hrow hb hR
      go_wp2_with fail
      refine (best23' (hu'.out.below hb3'.out) hrd.out hn'.out (by rw [maskG_len]; exact hng'.out) h1 hfo'.out (maskG_ok hok'.out _)).mono ?_
      rw [← hasp.out, ← hR'.out]
      rintro e w5 ⟨xo, xc, rfl, -, hb5⟩
      go_wp2_with fail
      go_ret
      exact ⟨ret_i hR'.out, below_call hb3'.out hb5⟩
end Go.Proofs.Ytccmabckmpelcaa
