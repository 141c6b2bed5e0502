import Derived.Test.YtpcjigdmfchbdaaDoorZp
namespace Go.Proofs.YtpcjigdmfchbdaaDoor
open Go.RowKit Go.Shelf Cl
theorem stp_succ (n : Nat) (L : Atts) (k : Nat) : dfd n L (stp n L k) = stp n L (k + 1) := rfl
theorem stp_zero (n : Nat) (L : Atts) : stp n L 0 = 0 := rfl
theorem grd_eq (n : Nat) (L : Atts) : grd n L = stp n L 4096 := rfl
attribute [local irreducible] grd stp

theorem natI_at {S : Nat} {i : Nat} (h : i < (natI (bl S)).length) : ∃ c : Nat, (natI (bl S)).getD i 0 = (c : Int) ∧ S.testBit c = true ∧ c < 12 := by
  have hm : (natI (bl S)).getD i 0 ∈ natI (bl S) := by
    rw [List.getD_eq_getElem?_getD, List.getElem?_eq_getElem h]; exact List.getElem_mem _
  obtain ⟨c, hc, he⟩ := List.mem_map.1 hm
  have h2 := List.mem_filter.1 hc
  exact ⟨c, he.symm, h2.2, List.mem_range.1 h2.1⟩
theorem any_row {xss : List (List Int)} {j : Nat} (h : j < xss.length) (G : List Int) : ((xss.take (j + 1)).any fun x => sameL x G) = (((xss.take j).any fun x => sameL x G) || sameL (xss.getD j []) G) := by
  rw [List.take_succ_eq_append_getElem h, List.any_append, List.getD_eq_getElem?_getD, List.getElem?_eq_getElem h]; simp
set_option maxRecDepth 100000 in
set_option maxHeartbeats 8000000 in
theorem walk10 {w : World} (hT : Tab w) {n : Nat} {v : Value} {xs : List (Nat × Nat)} (hn : n < 256) (hx : InDuo w v xs) :
    Calls Tryd.prog 10 #[.int .u8 (n : Int), v] w fun e w' => e = .returned (.bool true) ∧ Below w.heap.size w w' := by
  have hT' := Lib.hid hT
  have hm := Lib.hid (show Calls Tryd.prog 43 #[.int .u8 (n : Int), v, .int .i64 12] w (MadeD w (szM n 12) (mkL (szM n 12) xs)) from made43 (most := 12) hn (by omega) (by omega) hx)
  have hs12 : szM n 12 ≤ 12 := by unfold szM; omega
  have hs1 : 1 ≤ szM n 12 := by unfold szM; omega
  have hv := mk_vld hs1 hs12 xs
  clear hT hx
  generalize szM n 12 = sz at hm hs12 hs1 hv
  generalize mkL sz xs = L at hm hv
  have hG2 : grd sz L < 2 ^ sz := by rw [grd_eq]; exact stp_lt sz L _
  have h17 := Lib.hid (fun (W : World) (v : Value) (h : Below w.heap.size w W) (hp : OwnP W w.heap.size v (toI L)) => grantedM (hT'.out.call h) hv hp)
  have h27 := Lib.hid (fun (W : World) (v : Value) (h : Below w.heap.size w W) (hp : OwnP W w.heap.size v (toI L)) => completeM (hT'.out.call h) hv hp)
  have h35 := Lib.hid (fun (W : World) (k : Nat) (v u : Value) (h : Below w.heap.size w W) (hp : OwnP W w.heap.size v (toI L)) (hu : Reads W u (natI (bl (stp sz L k)))) => show Calls Tryd.prog 35 #[.int .i64 (sz : Int), v, u] W (MadeE W (natI (bl (stp sz L (k + 1)))) 0) from by
    have := defendsM (hT'.out.call h) hs12 (stp_lt sz L k) hv hp hu
    rwa [stp_succ] at this)
  have hin := Lib.hid (fun (W : World) (k : Nat) (u v : Value) (hu : Reads W u (natI (bl (stp sz L k)))) (hv : Reads W v (natI (bl (stp sz L (k + 1))))) => show Calls Tryd.prog 44 #[u, v] W (BoolEnd W true) from by
    rw [← inB_inn (stp_sub (L := L) hs12 k)]; exact within44 hu hv (natI_le _) (natI_le _))
  have hse := Lib.hid (fun (W : World) (k : Nat) (u v : Value) (hu : Reads W u (natI (bl (stp sz L k)))) (hv : Reads W v (natI (bl (stp sz L (k + 1))))) => show Calls Tryd.prog 23 #[u, v] W (BoolEnd W (decide (stp sz L k = stp sz L (k + 1)))) from by
    have := same23 hu hv (natI_le _)
    rwa [show sameL (natI (bl (stp sz L k))) (natI (bl (stp sz L (k + 1)))) = decide (stp sz L k = stp sz L (k + 1)) from by
      by_cases e : stp sz L k = stp sz L (k + 1)
      · rw [← e, sameL_self]; simp
      · have hlt := bl_more hs12 (stp_lt sz L (k + 1)) (stp_sub (L := L) hs12 k) e
        have h1 : (natI (bl (stp sz L k))).length < (natI (bl (stp sz L (k + 1)))).length := by simpa [natI] using hlt
        rw [decide_eq_false e]
        unfold sameL
        exact beq_eq_false_iff_ne.2 (fun hq => by rw [hq] at h1; omega)] at this)
  have hge := Lib.hid (fun (W : World) (k : Nat) (he : stp sz L k = stp sz L (k + 1)) (u v : Value) (hu : Reads W u (natI (bl (stp sz L k)))) (hv : Reads W v (natI (bl (grd sz L)))) => show Calls Tryd.prog 23 #[u, v] W (BoolEnd W true) from by
    have e : stp sz L k = grd sz L := grd_of hs12 (he.trans (stp_succ sz L k).symm)
    have := same23 hu hv (natI_le _)
    rwa [e, sameL_self] at this)
  have h18 := Lib.hid (fun (W : World) (k c : Nat) (v : Value) (h : Below w.heap.size w W) (hp : OwnP W w.heap.size v (toI L)) (hc : (stp sz L (k + 1)).testBit c = true) =>
    show Calls Tryd.prog 18 #[.int .i64 (sz : Int), v, .int .i64 (c : Int)] W (fun e w' => ∃ m : Nat, e = .returned (.tuple #[.int .i64 (m : Int), .int .i64 0]) ∧ (m ≤ k + 1 ∧ ((stp sz L k).testBit c = true → m < k + 1) ∧ ((stp sz L k).testBit c = false → m = k + 1)) ∧ Below W.heap.size W w') from by
    refine (steps18 (hT'.out.call h) (n := (sz : Int)) (c := (c : Int)) hp.reads (by have := (vld_ok hv).2.2.2; omega)).mono ?_
    rintro e w' ⟨a, r, rfl, hi, hb⟩
    obtain ⟨rfl, m, rfl, hm⟩ := steps_at hs12 hv hc hi.out
    exact ⟨m, rfl, hm, hb⟩)
  have hone := Lib.hid (fun (W : World) (k c : Nat) (hc : c < 12) (u v : Value) (hu : Reads W u [(c : Int)]) (hv : Reads W v (natI (bl (stp sz L k)))) => show Calls Tryd.prog 44 #[u, v] W (BoolEnd W ((stp sz L k).testBit c)) from by
    rw [← inB_one hc]; exact within44 hu hv (by simp) (natI_le _))
  have hfew := Lib.hid (fun (k : Nat) (h : ∀ j, j < k → stp sz L j ≠ stp sz L (j + 1)) => stp_few hs12 h)
  have hli := Lib.hid (fun (W : World) (h : Below w.heap.size w W) => lives20 (hT'.out.call h))
  have hl4 : (lists (coms sz L)).length ≤ 4096 := by rw [lists_len]; exact sets_len hs12
  have hp4 : 0 < (lists (coms sz L)).length := by
    rw [lists_len]
    obtain ⟨S, hS⟩ := coms_some L hs12
    exact List.length_pos_of_mem hS
  have hrow := Lib.hid (fun j => lists_row (coms sz L) j)
  have hall := Lib.hid (fun (j : Nat) (hj : j < (lists (coms sz L)).length) => show inB (natI (bl (grd sz L))) ((lists (coms sz L)).getD j []) = true from by
    have hm : (lists (coms sz L)).getD j [] ∈ lists (coms sz L) := by rw [List.getD_eq_getElem?_getD, List.getElem?_eq_getElem hj]; exact List.getElem_mem _
    obtain ⟨S, hS, he⟩ := mem_lists.1 hm
    rw [he]
    refine inB_inn ?_
    have := stp_com hs12 ((mem_coms hs12).1 hS).2 4096
    rw [grd_eq]
    exact this)
  have hfound := Lib.hid (show ((lists (coms sz L)).any fun x => sameL x (natI (bl (grd sz L)))) = true from by
    rw [List.any_eq_true]
    exact ⟨_, mem_lists.2 ⟨grd sz L, (mem_coms hs12).2 ⟨hG2, grd_com hs12⟩, rfl⟩, sameL_self _⟩)
  have hGl := natI_le (grd sz L)
  clear hG2 hs1 hv hT'
  generalize natI (bl (grd sz L)) = G at h17 hge hall hfound hGl
  generalize lists (coms sz L) = A4 at h27 hl4 hp4 hrow hall hfound
  obtain ⟨N, hN⟩ : ∃ N, N = A4.length := ⟨_, rfl⟩
  have hN' := Lib.hid hN
  rw [← hN] at hl4 hp4 hall
  clear hN
  have hpI : ¬ (N : Int) = 0 := by omega
  have hstp0 := Lib.hid (show natI (bl (stp sz L 0)) = [] from by rw [stp_zero]; decide)
  go_enter Tryd.func10, Tryd.ntmps10
  go_wp2_with (first
    | (go_at_call 43; refine (hm.out).mono ?_; rintro e w1 ⟨v1, rfl, ho, hb⟩; have ho1 := Lib.hid ho; have hb1 := Lib.hid hb; clear ho hb hm)
    | (go_at_call 17; refine (h17.out _ _ hb1.out ho1.out).mono ?_; rintro e w2 ⟨v2, rfl, hz, hb⟩; have hG2 := Lib.hid hz.shape; have hb2 := Lib.hid (below_call hb1.out hb); have ho2 := Lib.hid (ho1.out.below hb); clear hz hb h17)
    | (go_at_call 27; refine (h27.out _ _ hb2.out ho2.out).mono ?_; rintro e w3 ⟨v3, rfl, hz, hb⟩; obtain ⟨a3, c3, rfl, -⟩ := id hz.shape; rw [← hN'.out] at hz ⊢; have hA3 := Lib.hid hz.shape; have hb3 := Lib.hid (below_call hb2.out hb); have ho3 := Lib.hid (ho2.out.below hb); have hG3 := Lib.hid (hG2.out.below hb); clear hz hb h27)
    | (go_at_call 20; refine (hli.out _ hb3.out).mono ?_; rintro e w4 ⟨rfl, hb⟩; have hb4 := Lib.hid (below_call hb3.out hb); have ho4 := Lib.hid (ho3.out.below hb); have hG4 := Lib.hid (hG3.out.below hb); have hA4 := Lib.hid (hA3.out.below hb); clear hb hli))
  rw [show ((N : Int) == 0) = false from beq_eq_false_iff_ne.2 hpI]
  go_loopw [11, 12] (fun b p wr => ∃ k : Nat, k ≤ N ∧ p = .int .i64 (k : Int) ∧ b = .bool ((A4.take k).any fun x => sameL x G) ∧ Hid (Below w4.heap.size w4 wr)) (fun _ p _ => N - (intOf p).toNat)
  case atStart => exact ⟨0, Nat.zero_le _, rfl, rfl, Lib.hid (Below.refl _ _)⟩
  case round =>
    obtain ⟨k, hk, rfl, rfl, hb⟩ := hrel
    by_cases hlt : k < N
    · obtain ⟨g, o, rfl, hg0, ro, rc, c1, hR1⟩ := hA4.out.at hN'.out.symm hlt
      have cx := (hb.out.cell (p := ⟨g, o + k, none⟩) hg0).trans c1
      have hlx := hrow.out k
      have hiw := hall.out k hlt
      have hsn := Lib.hid (any_row (xss := A4) (j := k) (by rw [← hN'.out]; exact hlt) G)
      generalize A4.getD k [] = x at cx hR1 hlx hiw hsn
      have hc := Lib.hid (show Calls Tryd.prog 44 #[v2, .slice ro x.length rc] wr (BoolEnd wr true) from by
        rw [← hiw]; exact within44 (hG4.out.below hb.out) (hR1.below hb.out) hGl hlx)
      have hc2 := Lib.hid (fun (W : World) (h : Below wr.heap.size wr W) => same23 ((hR1.below hb.out).below h) ((hG4.out.below hb.out).below h) hlx)
      have hcx := Lib.hid (fun (W : World) (h : Below wr.heap.size wr W) => (h.cell (p := ⟨g, o + k, none⟩) (Nat.lt_of_lt_of_le hg0 hb.out.size)).trans cx)
      have hki : (k : Int) < N := by omega
      generalize sameL x G = R at hsn hc2
      generalize ((A4.take k).any fun x => sameL x G) = A at hsn
      clear c1 hiw hlx hR1
      generalize x.length = xl at cx hc hc2 hcx
      cases A
      · go_wp2_with (first
          | (go_at_call 44; refine (hc.out).mono ?_; rintro e w5 ⟨rfl, hb2⟩; have cx5 := hcx.out _ hb2; have hb5 := Lib.hid hb2; clear hb2)
          | (go_at_call 23; refine (hc2.out _ hb5.out).mono ?_; rintro e w6 ⟨rfl, hb2⟩; have hb6 := Lib.hid (below_call hb.out (below_call hb5.out hb2)); clear hb2))
        go_roundw
        case rel => exact ⟨k + 1, by omega, by go_num, by rw [hsn.out]; rfl, hb6⟩
        case measure => simp [intOf]; omega
      · go_wp2_with (first
          | (go_at_call 44; refine (hc.out).mono ?_; rintro e w5 ⟨rfl, hb2⟩; have hb5 := Lib.hid (below_call hb.out hb2); clear hb2))
        go_roundw
        case rel => exact ⟨k + 1, by omega, by go_num, by rw [hsn.out]; rfl, hb5⟩
        case measure => simp [intOf]; omega
    · have htk : A4.take k = A4 := List.take_of_length_le (by rw [← hN'.out]; omega)
      rw [htk, hfound.out]
      obtain ⟨wz, hwz⟩ : ∃ wz, wz = wr := ⟨_, rfl⟩
      subst hwz
      have hbz := Lib.hid (hb.out.alloc hb.out.size (.cells #[] 3))
      have hR0 := Lib.hid (show Reads (wz.alloc (.cells #[] 3)) (.slice (some ⟨wz.heap.size, 0, none⟩) 0 0) (natI (bl (stp sz L 0))) from by
        rw [hstp0.out]
        exact ⟨_, _, rfl, Nat.le_refl _, fun h => absurd rfl h⟩)
      clear htk hfound hall hrow hstp0
      go_wp2_with fail
      go_loopw [13, 14] (fun u p wr => ∃ k : Nat, k ≤ sz ∧ p = .int .i64 (k : Int) ∧ Hid (Reads wr u (natI (bl (stp sz L k)))) ∧ Hid (∀ j, j < k → stp sz L j ≠ stp sz L (j + 1)) ∧ Hid (Below w4.heap.size w4 wr)) (fun _ p _ => sz - (intOf p).toNat)
      case atStart => exact ⟨0, Nat.zero_le _, rfl, hR0, Lib.hid (fun j hj => absurd hj (Nat.not_lt_zero j)), hbz⟩
      case round =>
        obtain ⟨q, hq, rfl, hu, hno, hbq⟩ := hrel
        obtain ⟨wy, hwy⟩ : ∃ wy, wy = wr := ⟨_, rfl⟩
        subst hwy
        have hqI : (q : Int) ≤ sz := by omega
        have hq12 : (q : Int) ≤ 12 := by omega
        have hoY := Lib.hid (ho4.out.below hbq.out)
        have hbY := Lib.hid (below_call hb4.out hbq.out)
        go_wp2_with (first
          | (go_at_call 35; refine (h35.out _ _ _ _ hbY.out hoY.out hu.out).mono ?_; rintro e w5 ⟨v5, rfl, hz, hb2⟩; have hzs := hz.shape; obtain ⟨ao, co, rfl, hco, hcl⟩ := id hzs; obtain ⟨M, hM⟩ : ∃ M, M = (natI (bl (stp sz L (q + 1)))).length := ⟨_, rfl⟩; rw [← hM] at hzs hco ⊢; have hM' := Lib.hid hM; have hR5 := Lib.hid hzs; clear hM hzs; have hcl5 := Lib.hid hcl; have hb5 := Lib.hid (below_call hbq.out hb2); have hu5 := Lib.hid (hu.out.below hb2); clear hz hb2 hcl)
          | (go_at_call 44; refine (hin.out _ _ _ _ hu5.out hR5.out).mono ?_; rintro e w6 ⟨rfl, hb2⟩; have hR6 := Lib.hid (hR5.out.below hb2); have hb56 := Lib.hid hb2; have hb6 := Lib.hid (below_call hb5.out hb2); have hu6 := Lib.hid (hu5.out.below hb2); clear hb2))
        have hM12 : M ≤ 12 := by rw [hM'.out]; have := natI_len (stp sz L (q + 1)); omega
        go_loopw [17] (fun p wr => ∃ i : Nat, i ≤ M ∧ p = .int .i64 (i : Int) ∧ Hid (Below w6.heap.size w6 wr)) (fun p _ => M - (intOf p).toNat)
        case atStart => exact ⟨0, Nat.zero_le _, rfl, Lib.hid (Below.refl _ _)⟩
        case round =>
          obtain ⟨i, hi, rfl, hbi⟩ := hrel
          have hbV := Lib.hid (below_call hb4.out (below_call hb6.out hbi.out))
          by_cases hlt2 : i < M
          · obtain ⟨g2, o2, rfl, hg0, hc1⟩ := hcl5.out (fun e => absurd (show (natI (bl (stp sz L (q + 1)))).length = 0 from by rw [e]; rfl) (by rw [← hM'.out]; omega))
            obtain ⟨c, hcv, hcb, hc12⟩ := natI_at (S := stp sz L (q + 1)) (i := i) (by rw [← hM'.out]; exact hlt2)
            have hc1i := hc1 i (by rw [← hM'.out]; exact hlt2)
            rw [hcv] at hc1i
            have hg6 : g2 < w6.heap.size := Nat.lt_of_lt_of_le hg0 hb56.out.size
            have cx := (hbi.out.cell (p := ⟨g2, o2 + i, none⟩) hg6).trans ((hb56.out.cell (p := ⟨g2, o2 + i, none⟩) hg0).trans hc1i)
            have hgr : g2 < wr.heap.size := Nat.lt_of_lt_of_le hg6 hbi.out.size
            have hoI := Lib.hid (ho4.out.below (below_call hb6.out hbi.out))
            have h18' := Lib.hid (h18.out wr q c v1 hbV.out hoI.out hcb)
            have hcc := Lib.hid (fun (W : World) (h : Below wr.heap.size wr W) (cp : Nat) (hcp : 1 ≤ cp) => hone.out W q c hc12 (.slice (some ⟨g2, o2 + i, none⟩) 1 cp) _ ⟨_, _, rfl, hcp, fun _ => ⟨g2, o2 + i, rfl, Nat.lt_of_lt_of_le hgr h.size, fun j hj => by
              obtain rfl : j = 0 := by simpa using hj
              exact (h.cell (p := ⟨g2, o2 + i, none⟩) hgr).trans cx⟩⟩ ((hu6.out.below hbi.out).below h))
            have hiI : (i : Int) < M := by omega
            have hco2 : i + 1 ≤ co := by omega
            have hco3 : (i : Int) + 1 ≤ co := by omega
            clear hc1 hc1i hcv hcb hg6
            generalize (stp sz L q).testBit c = R at h18' hcc
            cases R
            · go_wp2_with (first
                | (go_at_call 18; refine (h18'.out).mono ?_; rintro e w8 ⟨m, rfl, ⟨_, _, m3⟩, hb8⟩; obtain rfl := m3 rfl; have hb8' := Lib.hid hb8; clear hb8 m3)
                | (go_at_call 44; refine (hcc.out _ hb8'.out _ (by omega)).mono ?_; rintro e w9 ⟨rfl, hb9⟩; have hb9' := Lib.hid (below_call hbi.out (below_call hb8'.out hb9)); clear hb9))
              go_roundw
              case rel => exact ⟨i + 1, by omega, by go_num, hb9'⟩
              case measure => simp [intOf]; omega
            · go_wp2_with (first
                | (go_at_call 18; refine (h18'.out).mono ?_; rintro e w8 ⟨m, rfl, ⟨_, m2, _⟩, hb8⟩; have m3 := m2 rfl; have hq1 : ¬ (m : Int) > (q : Int) + 1 := (by omega); have hq2 : (m : Int) < (q : Int) + 1 := (by omega); have hd1 : decide ((m : Int) > (q : Int) + 1) = false := decide_eq_false hq1; have hd2 : decide ((m : Int) < (q : Int) + 1) = true := decide_eq_true hq2; clear hq1 hq2; have hb8' := Lib.hid hb8; clear hb8 m2 m3)
                | (go_at_call 44; refine (hcc.out _ hb8'.out _ (by omega)).mono ?_; rintro e w9 ⟨rfl, hb9⟩; have hb9' := Lib.hid (below_call hbi.out (below_call hb8'.out hb9)); clear hb9))
              go_roundw
              case rel => exact ⟨i + 1, by omega, by go_num, hb9'⟩
              case measure => simp [intOf]; omega
          · have huR := Lib.hid (hu6.out.below hbi.out)
            have hRR := Lib.hid (hR6.out.below hbi.out)
            have hcmp := hse.out wr q _ _ huR.out hRR.out
            by_cases he : stp sz L q = stp sz L (q + 1)
            · rw [decide_eq_true he] at hcmp
              have hcmp' := Lib.hid hcmp
              have hlast := Lib.hid (fun (W : World) (h : Below wr.heap.size wr W) => hge.out W q he _ _ (huR.out.below h) (hG4.out.below (below_call (below_call hb6.out hbi.out) h)))
              clear he hcmp
              go_wp2_with (first
                | (go_at_call 23; refine (hcmp'.out).mono ?_; rintro e w8 ⟨rfl, hb8⟩; have hb8' := Lib.hid hb8; clear hb8 hcmp')
                | (go_at_call 23; refine (hlast.out _ hb8'.out).mono ?_; rintro e w9 ⟨rfl, hb9⟩; have hb9' := Lib.hid (below_call hbV.out (below_call hb8'.out hb9)); clear hb9))
              go_ret
              exact ⟨rfl, hb9'.out⟩
            · rw [decide_eq_false he] at hcmp
              have hcmp' := Lib.hid hcmp
              have hno2 := Lib.hid (show ∀ j, j < q + 1 → stp sz L j ≠ stp sz L (j + 1) from fun j hj => by
                rcases Nat.lt_succ_iff_lt_or_eq.1 hj with h | h
                · exact hno.out j h
                · rw [h]; exact he)
              have hq2 := hfew.out (q + 1) hno2.out
              clear he hcmp
              go_wp2_with (first
                | (go_at_call 23; refine (hcmp'.out).mono ?_; rintro e w8 ⟨rfl, hb8⟩; have hR8 := Lib.hid (hRR.out.below hb8); have hb8' := Lib.hid (below_call (below_call hb6.out hbi.out) hb8); clear hb8))
              go_roundw
              case rel => exact ⟨q + 1, hq2, by go_num, hR8, hno2, hb8'⟩
              case measure => simp [intOf]; omega
end Go.Proofs.YtpcjigdmfchbdaaDoor
