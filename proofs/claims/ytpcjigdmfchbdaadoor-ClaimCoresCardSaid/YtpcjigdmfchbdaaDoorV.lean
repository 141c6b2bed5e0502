import Derived.Test.YtpcjigdmfchbdaaDoorU
namespace Go.Proofs.YtpcjigdmfchbdaaDoor
open Go.RowKit Go.Shelf Cl

theorem read_ok {w : World} {n : Int} {v : Value} {ps : List (Int × Int)} (hp : ReadsP w v ps) (hl : ps.length ≤ 1000000) (hv : vldB n ps = true) :
    Calls Tryd.prog 47 #[.int .i64 n, v] w fun e w' => e = .returned (.tuple #[.agg (csD n.toNat (natP ps)), .int .i64 0]) ∧ Below w.heap.size w w' :=
  (read47 hp hl).mono fun e w' h => by
    rcases h.1 with h1 | h1
    · exact ⟨h1.2, h.2⟩
    · rw [hv] at h1; cases h1.1
theorem read_bad {w : World} {n : Int} {v : Value} {ps : List (Int × Int)} (hp : ReadsP w v ps) (hl : ps.length ≤ 1000000) (hv : vldB n ps = false) :
    Calls Tryd.prog 47 #[.int .i64 n, v] w fun e w' => e = .returned (.tuple #[.agg (csD 0 []), .int .i64 1]) ∧ Below w.heap.size w w' :=
  (read47 hp hl).mono fun e w' h => by
    rcases h.1 with h1 | h1
    · rw [hv] at h1; cases h1.1
    · exact ⟨h1.2, h.2⟩
theorem vld_ok {n : Int} {ps : List (Int × Int)} (hv : vldB n ps = true) : OkD n.toNat (natP ps) ∧ 1 ≤ n ∧ n ≤ 12 ∧ ps.length ≤ 40 := by
  unfold vldB at hv
  simp only [Bool.and_eq_true, decide_eq_true_eq] at hv
  obtain ⟨⟨⟨h1, h2⟩, h3⟩, h4⟩ := hv
  refine ⟨⟨by omega, natP_within (n := n.toNat) ?_⟩, h1, h2, h3⟩
  rw [Int.toNat_of_nonneg (by omega)]
  exact h4
def resL (n : Int) (ps : List (Int × Int)) (xs : List Int) : List Int := if vldB n ps then xs else []
def resE (n : Int) (ps : List (Int × Int)) : Int := if vldB n ps then 0 else 1
set_option maxRecDepth 100000 in
set_option maxHeartbeats 1000000 in
theorem granted17 {w : World} (hT : Tab w) {n : Int} {v : Value} {ps : List (Int × Int)} (hp : ReadsP w v ps) (hl : ps.length ≤ 1000000) :
    Calls Tryd.prog 17 #[.int .i64 n, v] w (MadeE w (resL n ps (natI (bl (grd n.toNat (natP ps))))) (resE n ps)) := by
  unfold resL resE
  cases hv : vldB n ps
  · have hr := Lib.hid (read_bad hp hl hv)
    clear hp hl hv hT
    go_enter Tryd.func17, Tryd.ntmps17

    go_wp2_with (first
        | (go_at_call 47; refine (hr.out).mono ?_; rintro e w1 ⟨rfl, hb⟩; have hb1 := Lib.hid hb; have hth1 := Lib.hid (Th.new w1 (csD 0 []) 74 rfl); have hbA := Lib.hid (below_call hb (below_alloc1 w1 (.cells (csD 0 []) 74))); clear hb)
        | (refine ws74 (n := 0) (L := []) rfl _ _ rfl rfl rfl hth1.out ?_; intro W1 hW1; have hd1 := Lib.hid (show DAt W1 w1.heap.size (0) ([]) from by rw [hW1]; exact DAt.stored hth1.out); have hbW := Lib.hid (show Below w.heap.size w W1 from by rw [hW1]; exact below_setC hb1.out.size _ _ _ hbA.out); clear hW1)
        | (refine wl74 rfl _ rfl rfl hd1.out ?_))
    refine bodyPost_ret (results_tmp2 rfl _ _ _) rfl ?_
    exact ⟨_, rfl, Ints.nil _ _, hbW.out⟩
  · have hr := Lib.hid (read_ok hp hl hv)
    have hD := (vld_ok hv).1
    have hg := Lib.hid (fun (W : World) (h : Below w.heap.size w W) => granted48 (hT.call h) hD)
    have hli := Lib.hid (fun (W : World) (h : Below w.heap.size w W) => list49 (hT.call h) (R := grd n.toNat (natP ps)) (lt12 hD.nn (stp_lt _ _ _)))
    clear hp hl hv hT hD
    generalize grd n.toNat (natP ps) = G at hg hli ⊢
    go_enter Tryd.func17, Tryd.ntmps17

    go_wp2_with (first
        | (go_at_call 47; refine (hr.out).mono ?_; rintro e w1 ⟨rfl, hb⟩; have hb1 := Lib.hid hb; have hth1 := Lib.hid (Th.new w1 (csD 0 []) 74 rfl); have hbA := Lib.hid (below_call hb (below_alloc1 w1 (.cells (csD 0 []) 74))); clear hb)
        | (refine ws74 (n := n.toNat) (L := natP ps) rfl _ _ rfl rfl rfl hth1.out ?_; intro W1 hW1; have hd1 := Lib.hid (show DAt W1 w1.heap.size (n.toNat) (natP ps) from by rw [hW1]; exact DAt.stored hth1.out); have hbW := Lib.hid (show Below w.heap.size w W1 from by rw [hW1]; exact below_setC hb1.out.size _ _ _ hbA.out); clear hW1)
        | (refine wl74 rfl _ rfl rfl hd1.out ?_)
        | (go_at_call 48; refine (hg.out _ hbW.out).mono ?_; rintro e w2 ⟨rfl, hb⟩; have hb2 := Lib.hid (below_call hbW.out hb); clear hb)
        | (go_at_call 49; refine (hli.out _ hb2.out).mono ?_; rintro e w3 ⟨v3, rfl, ho, hb⟩; have ho3 := Lib.hid (ho.1.base hb2.out.size); have hb3 := Lib.hid (below_call hb2.out hb); clear hb ho))
    refine bodyPost_ret (results_tmp2 rfl _ _ _) rfl ?_
    exact ⟨_, rfl, ho3.out, hb3.out⟩
/-- What Steps returns. -/
def StepsIs (n : Int) (ps : List (Int × Int)) (c : Int) (k e : Int) : Prop :=
  if vldB n ps = true ∧ 0 ≤ c ∧ c < n then
    (if (grd n.toNat (natP ps)).testBit c.toNat = true then e = 0 ∧ ∃ m : Nat, k = (m : Int) ∧ (stp n.toNat (natP ps) m).testBit c.toNat = true ∧ ∀ j, j < m → (stp n.toNat (natP ps) j).testBit c.toNat = false else k = 0 ∧ e = 5)
  else k = 0 ∧ e = 1
def StepsEnd (w : World) (n : Int) (ps : List (Int × Int)) (c : Int) (e : Ending) (w' : World) : Prop := ∃ k r : Int, e = .returned (.tuple #[.int .i64 k, .int .i64 r]) ∧ Hid (StepsIs n ps c k r) ∧ Below w.heap.size w w'
set_option maxRecDepth 100000 in
set_option maxHeartbeats 1000000 in
theorem steps18 {w : World} (hT : Tab w) {n c : Int} {v : Value} {ps : List (Int × Int)} (hp : ReadsP w v ps) (hl : ps.length ≤ 1000000) :
    Calls Tryd.prog 18 #[.int .i64 n, v, .int .i64 c] w (StepsEnd w n ps c) := by
  cases hv : vldB n ps
  · have hr := Lib.hid (read_bad hp hl hv)
    have hf := Lib.hid (show StepsIs n ps c 0 1 from by unfold StepsIs; rw [if_neg (fun h => by rw [hv] at h; cases h.1)]; exact ⟨rfl, rfl⟩)
    clear hp hl hv hT
    go_enter Tryd.func18, Tryd.ntmps18

    go_wp2_with (first
        | (go_at_call 47; refine (hr.out).mono ?_; rintro e w1 ⟨rfl, hb⟩; have hb1 := Lib.hid hb; have hth1 := Lib.hid (Th.new w1 (csD 0 []) 74 rfl); have hbA := Lib.hid (below_call hb (below_alloc1 w1 (.cells (csD 0 []) 74))); clear hb)
        | (refine ws74 (n := 0) (L := []) rfl _ _ rfl rfl rfl hth1.out ?_; intro W1 hW1; have hd1 := Lib.hid (show DAt W1 w1.heap.size (0) ([]) from by rw [hW1]; exact DAt.stored hth1.out); have hbW := Lib.hid (show Below w.heap.size w W1 from by rw [hW1]; exact below_setC hb1.out.size _ _ _ hbA.out); clear hW1)
        | (refine wl74 rfl _ rfl rfl hd1.out ?_))
    refine bodyPost_ret (results_tmp2 rfl _ _ _) rfl ?_
    exact ⟨_, _, rfl, hf, hbW.out⟩
  · have hr := Lib.hid (read_ok hp hl hv)
    by_cases hc : 0 ≤ c ∧ c < n
    · obtain ⟨h0, h1⟩ := hc
      obtain ⟨n, rfl⟩ : ∃ m : Nat, n = (m : Int) := ⟨n.toNat, by omega⟩
      obtain ⟨c, rfl⟩ : ∃ m : Nat, c = (m : Int) := ⟨c.toNat, by omega⟩
      have hD := (vld_ok hv).1
      rw [Int.toNat_natCast] at hr hD
      have hc12 : c < 12 := by have := hD.nn; omega
      have hg := Lib.hid (fun (W : World) (h : Below w.heap.size w W) => granted48 (hT.call h) hD)
      have hd := Lib.hid (fun (W : World) (k : Nat) (h : Below w.heap.size w W) => show Calls Tryd.prog 51 #[.agg (csD n (natP ps)), .int .u64 (stp n (natP ps) k : Int)] W (NumEnd W (stp n (natP ps) (k + 1))) from defended51 (hT.call h) hD (lt12 hD.nn (stp_lt n (natP ps) k)))
      have hhs := Lib.hid (fun (W : World) (k : Nat) => has50 (w := W) (S := stp n (natP ps) k) (j := c) (lt12 hD.nn (stp_lt n (natP ps) k)) hc12)
      have hh := Lib.hid (fun (W : World) => has50 (w := W) (S := grd n (natP ps)) (j := c) (lt12 hD.nn (stp_lt n (natP ps) _)) hc12)
      have hif : ∀ k e, StepsIs n ps c k e ↔ (if (grd n (natP ps)).testBit c = true then e = 0 ∧ ∃ m : Nat, k = (m : Int) ∧ (stp n (natP ps) m).testBit c = true ∧ ∀ j, j < m → (stp n (natP ps) j).testBit c = false else k = 0 ∧ e = 5) := by
        intro k e
        unfold StepsIs
        rw [if_pos ⟨hv, h0, h1⟩, Int.toNat_natCast, Int.toNat_natCast]
      cases hq : (grd n (natP ps)).testBit c
      · rw [hq] at hh
        have hf := Lib.hid (show StepsIs n ps c 0 5 from by rw [hif, hq]; exact ⟨rfl, rfl⟩)
        clear hif hq hv hp hl hT hD
        go_enter Tryd.func18, Tryd.ntmps18

        go_wp2_with (first
            | (go_at_call 47; refine (hr.out).mono ?_; rintro e w1 ⟨rfl, hb⟩; have hb1 := Lib.hid hb; have hth1 := Lib.hid (Th.new w1 (csD 0 []) 74 rfl); have hbA := Lib.hid (below_call hb (below_alloc1 w1 (.cells (csD 0 []) 74))); clear hb)
            | (refine ws74 (n := n) (L := natP ps) rfl _ _ rfl rfl rfl hth1.out ?_; intro W1 hW1; have hd1 := Lib.hid (show DAt W1 w1.heap.size (n) (natP ps) from by rw [hW1]; exact DAt.stored hth1.out); have hbW := Lib.hid (show Below w.heap.size w W1 from by rw [hW1]; exact below_setC hb1.out.size _ _ _ hbA.out); clear hW1)
            | (refine wl74 rfl _ rfl rfl hd1.out ?_)
            | (go_at_call 48; refine (hg.out _ hbW.out).mono ?_; rintro e w2 ⟨rfl, hb⟩; have hb2 := Lib.hid (below_call hbW.out hb); clear hb)
            | (go_at_call 50; refine (hh.out _).mono ?_; rintro e w3 ⟨rfl, rfl⟩))
        refine bodyPost_ret (results_tmp2 rfl _ _ _) rfl ?_
        exact ⟨_, _, rfl, hf, hb2.out⟩
      · rw [hq] at hh
        have hf := Lib.hid (show ∀ m : Nat, (stp n (natP ps) m).testBit c = true → (∀ j, j < m → (stp n (natP ps) j).testBit c = false) → StepsIs n ps c (m : Int) 0 from fun m h1 h2 => by rw [hif, hq]; exact ⟨rfl, m, rfl, h1, h2⟩)
        have hK := Lib.hid (show (stp n (natP ps) 4096).testBit c = true from hq)
        clear hif hq hv hp hl hT hD
        go_enter Tryd.func18, Tryd.ntmps18

        go_wp2_with (first
            | (go_at_call 47; refine (hr.out).mono ?_; rintro e w1 ⟨rfl, hb⟩; have hb1 := Lib.hid hb; have hth1 := Lib.hid (Th.new w1 (csD 0 []) 74 rfl); have hbA := Lib.hid (below_call hb (below_alloc1 w1 (.cells (csD 0 []) 74))); clear hb)
            | (refine ws74 (n := n) (L := natP ps) rfl _ _ rfl rfl rfl hth1.out ?_; intro W1 hW1; have hd1 := Lib.hid (show DAt W1 w1.heap.size (n) (natP ps) from by rw [hW1]; exact DAt.stored hth1.out); have hbW := Lib.hid (show Below w.heap.size w W1 from by rw [hW1]; exact below_setC hb1.out.size _ _ _ hbA.out); clear hW1)
            | (refine wl74 rfl _ rfl rfl hd1.out ?_)
            | (go_at_call 48; refine (hg.out _ hbW.out).mono ?_; rintro e w2 ⟨rfl, hb⟩; have hb2 := Lib.hid (below_call hbW.out hb); have hd2 := Lib.hid (hd1.out.below hb); clear hb hg)
            | (go_at_call 50; refine (hh.out _).mono ?_; rintro e w3 ⟨rfl, rfl⟩; clear hh))
        go_loopw [10, 11] (fun u s wr => ∃ k : Nat, k ≤ 4096 ∧ u = .int .i64 (k : Int) ∧ s = .int .u64 (stp n (natP ps) k : Int) ∧ Hid (∀ j, j < k → (stp n (natP ps) j).testBit c = false) ∧ Hid (Below w.heap.size w wr) ∧ Hid (DAt wr w1.heap.size n (natP ps))) (fun u _ _ => 4097 - (intOf u).toNat)
        case atStart => exact ⟨0, by omega, rfl, rfl, Lib.hid (fun j hj => absurd hj (Nat.not_lt_zero j)), hb2, hd2⟩
        case round =>
          obtain ⟨k, hk, rfl, rfl, hno, hbr, hdr⟩ := hrel
          have hhk := Lib.hid (fun (W : World) => hhs.out W k)
          have hdk := Lib.hid (hd.out wr k hbr.out)
          cases hq : (stp n (natP ps) k).testBit c
          · rw [hq] at hhk
            have hk2 : k < 4096 := by
              rcases Nat.lt_or_ge k 4096 with h | h
              · exact h
              · have : k = 4096 := by omega
                rw [this, hK.out] at hq; cases hq
            have hno2 := Lib.hid (show ∀ j, j < k + 1 → (stp n (natP ps) j).testBit c = false from fun j hj => by
              rcases Nat.lt_succ_iff_lt_or_eq.1 hj with h | h
              · exact hno.out j h
              · rw [h]; exact hq)
            clear hq
            generalize stp n (natP ps) k = s at hhk hdk
            go_wp2_with (first
              | (refine wl74 rfl _ rfl rfl hdr.out ?_)
              | (go_at_call 50; refine (hhk.out _).mono ?_; rintro e w3 ⟨rfl, rfl⟩)
              | (go_at_call 51; refine (hdk.out).mono ?_; rintro e w4 ⟨rfl, hb⟩; have hb4 := Lib.hid (below_call hbr.out hb); have hd4 := Lib.hid (hdr.out.below hb); clear hb))
            go_roundw
            case rel => exact ⟨k + 1, by omega, by go_num, rfl, hno2, hb4, hd4⟩
            case measure => simp [intOf]; omega
          · rw [hq] at hhk
            have hff := Lib.hid (hf.out k hq hno.out)
            clear hq
            generalize stp n (natP ps) k = s at hhk
            go_wp2_with (first
              | (go_at_call 50; refine (hhk.out _).mono ?_; rintro e w3 ⟨rfl, rfl⟩))
            refine bodyPost_ret (results_tmp2 rfl _ _ _) rfl ?_
            exact ⟨_, _, rfl, hff, hbr.out⟩
    · have hf := Lib.hid (show StepsIs n ps c 0 1 from by unfold StepsIs; rw [if_neg (fun h => hc h.2)]; exact ⟨rfl, rfl⟩)
      have hcase : c < 0 ∨ (0 ≤ c ∧ n ≤ c) := by omega
      clear hp hl hv hT hc
      rcases hcase with h1 | ⟨h1, h2⟩
      all_goals
        go_enter Tryd.func18, Tryd.ntmps18

        go_wp2_with (first
            | (go_at_call 47; refine (hr.out).mono ?_; rintro e w1 ⟨rfl, hb⟩; have hb1 := Lib.hid hb; have hth1 := Lib.hid (Th.new w1 (csD 0 []) 74 rfl); have hbA := Lib.hid (below_call hb (below_alloc1 w1 (.cells (csD 0 []) 74))); clear hb)
            | (refine ws74 (n := n.toNat) (L := natP ps) rfl _ _ rfl rfl rfl hth1.out ?_; intro W1 hW1; have hd1 := Lib.hid (show DAt W1 w1.heap.size (n.toNat) (natP ps) from by rw [hW1]; exact DAt.stored hth1.out); have hbW := Lib.hid (show Below w.heap.size w W1 from by rw [hW1]; exact below_setC hb1.out.size _ _ _ hbA.out); clear hW1)
            | (refine wl74 rfl _ rfl rfl hd1.out ?_))
        refine bodyPost_ret (results_tmp2 rfl _ _ _) rfl ?_
        exact ⟨_, _, rfl, hf, hbW.out⟩
end Go.Proofs.YtpcjigdmfchbdaaDoor
