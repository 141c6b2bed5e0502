import Derived.Test.YtpcjigdmfchbdaaDoorT
namespace Go.Proofs.YtpcjigdmfchbdaaDoor
open Go.RowKit Go.Shelf Cl

theorem natP_within {n : Nat} {ps : List (Int × Int)} (h : ps.all (okP (n : Int)) = true) : Within n (natP ps) := by
  intro p hp
  obtain ⟨q, hq, rfl⟩ := List.mem_map.1 hp
  have := List.all_eq_true.1 h q hq
  unfold okP at this
  simp only [Bool.and_eq_true, decide_eq_true_eq] at this
  exact ⟨by show q.1.toNat < n; omega, by show q.2.toNat < n; omega⟩
set_option maxRecDepth 100000 in
set_option maxHeartbeats 4000000 in
theorem read47 {w : World} {n : Int} {v : Value} {ps : List (Int × Int)} (hp : ReadsP w v ps) (hl : ps.length ≤ 1000000) :
    Calls Tryd.prog 47 #[.int .i64 n, v] w (ReadEnd w n ps) := by
  obtain ⟨ao, c, rfl, hcl⟩ := hp.at
  have hcl' := Lib.hid hcl
  obtain ⟨N, hN⟩ : ∃ N, N = ps.length := ⟨_, rfl⟩
  have hN' := Lib.hid hN
  rw [← hN] at hl ⊢
  clear hp hcl hN
  go_enter Tryd.func47, Tryd.ntmps47
  go_upto_region 1 with fail
  obtain ⟨W0, hW0⟩ : ∃ W0, W0 = w.alloc (.cells (csD 0 []) 74) := ⟨_, rfl⟩
  rw [show w.alloc (.cells #[.int .i64 0, .int .u64 0, .int .u64 0, .int .u64 0, .int .u64 0, .int .u64 0, .int .u64 0, .int .u64 0, .int .u64 0, .int .u64 0, .int .u64 0, .int .u64 0, .int .u64 0, .int .u64 0, .int .u64 0, .int .u64 0, .int .u64 0, .int .u64 0, .int .u64 0, .int .u64 0, .int .u64 0, .int .u64 0, .int .u64 0, .int .u64 0, .int .u64 0] 74) = W0 from by rw [hW0]; rfl]
  have hb0 := Lib.hid (show Below w.heap.size w W0 from by rw [hW0]; exact below_alloc1 _ _)
  have hth := Lib.hid (show Th W0 w.heap.size from by rw [hW0]; exact Th.new _ _ _ rfl)
  have hs0 := Lib.hid (show W0.heap.size = w.heap.size + 1 from by rw [hW0]; simp)
  clear hW0
  by_cases hgood : 1 ≤ n ∧ n ≤ 12 ∧ N ≤ 40
  · obtain ⟨g1, g2, g3⟩ := hgood
    obtain ⟨n, rfl⟩ : ∃ m : Nat, n = (m : Int) := ⟨n.toNat, by omega⟩
    have hvl := Lib.hid (show vldB (n : Int) ps = ps.all (okP (n : Int)) from by
      unfold vldB
      rw [← hN'.out]
      simp [g1, g2, g3])
    have hn12 : n ≤ 12 := by omega
    have hth6 := Lib.hid (Th.new W0 (csD 0 []) 74 rfl)
    go_upto_region 4 with (first
      | (refine ws74 (n := n) (L := []) rfl _ _ rfl rfl rfl hth6.out ?_; intro W1 hW1; have hd := Lib.hid (show DF W1 W0.heap.size n (tg []) (ag []) from by rw [hW1]; exact (DAt.stored hth6.out).df (fun j => by rw [World.frozen?_setCells]; exact frozen_of_row _ _ _ _ _ (heap_alloc_new W0 _))); have hb1 := Lib.hid (show Below W0.heap.size W0 W1 from by rw [hW1]; exact below_setC (Nat.le_refl _) _ _ _ (below_alloc1 _ _)); clear hW1))
    go_wp2_with fail
    go_loopw [25] (fun p wr => ∃ k : Nat, k ≤ N ∧ p = .int .i64 (k : Int) ∧ Hid (DF wr W0.heap.size n (tg (natP (ps.take k))) (ag (natP (ps.take k)))) ∧ Hid (Below W0.heap.size W0 wr) ∧ Hid ((ps.take k).all (okP (n : Int)) = true)) (fun p _ => N - (intOf p).toNat)
    case atStart => exact ⟨0, Nat.zero_le _, rfl, hd, hb1, Lib.hid rfl⟩
    case round =>
      obtain ⟨k, hk, rfl, hdf, hbr, hall⟩ := hrel
      by_cases hlt : k < N
      · obtain ⟨g, oo, rfl, hg, hc1⟩ := hcl'.out (fun e => by have := hN'.out; rw [e] at this; simp at this; omega)
        obtain ⟨ca0, cb0⟩ := hc1 k (by rw [← hN'.out]; exact hlt)
        have hbw := Lib.hid (hb0.out.trans (hbr.out.mono hb0.out.size))
        have ca := (hbw.out.cell (p := ⟨g, oo + k * 2, none⟩) hg).trans ca0
        have cb := (hbw.out.cell (p := ⟨g, oo + k * 2 + 1, none⟩) hg).trans cb0
        have hsn : ps.take (k + 1) = ps.take k ++ [ps.getD k (0, 0)] := by
          have hk' : k < ps.length := by rw [← hN'.out]; exact hlt
          rw [List.take_succ_eq_append_getElem hk', List.getD_eq_getElem?_getD, List.getElem?_eq_getElem hk']; rfl
        have hmem := Lib.hid (show ps.getD k (0, 0) ∈ ps from by
          have hk' : k < ps.length := by rw [← hN'.out]; exact hlt
          rw [List.getD_eq_getElem?_getD, List.getElem?_eq_getElem hk']; exact List.getElem_mem _)
        obtain ⟨⟨A, B⟩, hAB⟩ : ∃ q, q = ps.getD k (0, 0) := ⟨_, rfl⟩
        rw [← hAB] at ca cb hsn hmem
        have hi1 : (k : Int) < N := by omega
        have hsn' := Lib.hid hsn
        clear hc1 ca0 cb0 hAB hsn
        simp only at ca cb
        by_cases hq : okP (n : Int) (A, B) = true
        · have hq' : (0 ≤ A ∧ 0 ≤ B) ∧ A < n ∧ B < n := by
            unfold okP at hq
            simp only [Bool.and_eq_true, decide_eq_true_eq] at hq
            exact ⟨⟨hq.1.1.1, hq.1.1.2⟩, hq.1.2, hq.2⟩
          obtain ⟨⟨q1, q2⟩, q3, q4⟩ := hq'
          have hall2 := Lib.hid (show (ps.take (k + 1)).all (okP (n : Int)) = true from by rw [hsn'.out, List.all_append, hall.out]; simp [hq])
          clear hq
          obtain ⟨a, rfl⟩ : ∃ m : Nat, A = (m : Int) := ⟨A.toNat, by omega⟩
          obtain ⟨b, rfl⟩ : ∃ m : Nat, B = (m : Int) := ⟨B.toNat, by omega⟩
          have hnat := Lib.hid (show natP (ps.take (k + 1)) = natP (ps.take k) ++ [(a, b)] from by rw [hsn'.out]; simp [natP])
          have ha12 : a < 12 := by omega
          have hb12 : b < 12 := by omega
          have hwith := Lib.hid (show Within n (natP (ps.take k)) from natP_within hall.out)
          have hdf1 := Lib.hid (hdf.out.keep (below_alloc1 wr (.cells #[.int .i64 (a : Int), .int .i64 (b : Int)] 58)))
          have hbA := Lib.hid (show Below W0.heap.size W0 (wr.alloc (.cells #[.int .i64 (a : Int), .int .i64 (b : Int)] 58)) from hbr.out.alloc hbr.out.size _)
          have hpc : (wr.alloc (.cells #[.int .i64 (a : Int), .int .i64 (b : Int)] 58)).cell? ⟨wr.heap.size, 0, none⟩ = some (.int .i64 (a : Int)) ∧ (wr.alloc (.cells #[.int .i64 (a : Int), .int .i64 (b : Int)] 58)).cell? ⟨wr.heap.size, 1, none⟩ = some (.int .i64 (b : Int)) := by
            constructor <;> (rw [cells_new]; rfl)
          have hpc' := Lib.hid hpc
          have hb6 := Lib.hid hdf.out.lt
          clear hpc
          rcases (show a < b ∨ b < a ∨ (¬ a < b ∧ ¬ b < a) by omega) with hab | hab | ⟨hab, hba⟩
          all_goals
            go_upto_region 9 with fail
            obtain ⟨Wp, hWp⟩ : ∃ x, x = wr.alloc (.cells #[.int .i64 (a : Int), .int .i64 (b : Int)] 58) := ⟨_, rfl⟩
            rw [← hWp] at hdf1 hbA hpc' ⊢
            clear hWp
            obtain ⟨bp, hbp⟩ : ∃ x, x = wr.heap.size := ⟨_, rfl⟩
            have hne := Lib.hid (show W0.heap.size ≠ bp from by rw [hbp]; exact Nat.ne_of_lt hb6.out)
            rw [← hbp] at hpc' ⊢
            clear hbp
            have pa := hpc'.out.1
            have pb := hpc'.out.2
            have ct := hdf1.out.ct a ha12
            have fz := hdf1.out.fz (1 + a)
            have hor := or_pow (lt12 hn12 (tg_lt (L := natP (ps.take k)) (n := n) hwith.out a)) hb12
            refine wp_region_still_tail 11 (by kernel_rfl) (by kernel_rfl) ?_
            simp only [List.take_succ_cons, List.take_zero, List.drop_succ_cons, List.drop_zero]
            change wpStill _ _ Wp.drew _ _ _
            still_step
            still_step
            still_step
            have hxi : (a : Int) < 12 := by omega
            still_step
            still_step
            still_step
            still_step
            still_step
            still_step
            still_step
            have hxi : (a : Int) < 12 := by omega
            still_step
            refine wpStill_nil ?_
            go_wp2_with fail
            obtain ⟨Wq, hWq⟩ : ∃ x, x = (Wp.setCell ⟨W0.heap.size, 1 + a, none⟩ (.int .u64 ((tg (natP (ps.take k)) a ||| 2 ^ b : Nat) : Int))).drew := ⟨_, rfl⟩
            rw [← hWq]
            have hdf2 := Lib.hid (show DF Wq W0.heap.size n (fun i => if i = a then tg (natP (ps.take k)) a ||| 2 ^ b else tg (natP (ps.take k)) i) (ag (natP (ps.take k))) from by rw [hWq]; exact (hdf1.out.setT ha12).keep (Below.refl _ _).drew)
            have hbB := Lib.hid (show Below W0.heap.size W0 Wq from by rw [hWq]; exact (below_set hbA.out (Nat.le_refl _)).drew)
            have hpq := Lib.hid (show Wq.cell? ⟨bp, 0, none⟩ = some (.int .i64 (a : Int)) ∧ Wq.cell? ⟨bp, 1, none⟩ = some (.int .i64 (b : Int)) from by
              rw [hWq]
              constructor
              · show (Wp.setCell _ _).cell? _ = _
                rw [World.cell?_setCell_other _ _ _ _ (by intro e; simp only [Addr.mk.injEq] at e; exact hne.out e.1)]; exact hpc'.out.1
              · show (Wp.setCell _ _).cell? _ = _
                rw [World.cell?_setCell_other _ _ _ _ (by intro e; simp only [Addr.mk.injEq] at e; exact hne.out e.1)]; exact hpc'.out.2)
            clear hWq pa pb ct fz hor hdf1 hbA hpc'
            have pa := hpq.out.1
            have pb := hpq.out.2
            have ct := hdf2.out.ca b hb12
            have fz := hdf2.out.fz (13 + b)
            have hor := or_pow (lt12 hn12 (ag_lt (L := natP (ps.take k)) (n := n) hwith.out b)) ha12
            refine wp_region_still_tail 11 (by kernel_rfl) (by kernel_rfl) ?_
            simp only [List.take_succ_cons, List.take_zero, List.drop_succ_cons, List.drop_zero]
            change wpStill _ _ Wq.drew _ _ _
            still_step
            still_step
            still_step
            have hxi : (b : Int) < 12 := by omega
            still_step
            still_step
            still_step
            still_step
            still_step
            still_step
            still_step
            have hxi : (b : Int) < 12 := by omega
            still_step
            refine wpStill_nil ?_
            go_wp2_with fail
            go_roundw
            case rel =>
              refine ⟨k + 1, by omega, by go_num, Lib.hid (((hdf2.out.setA hb12).keep (Below.refl _ _).drew).same (fun i => ?_) (fun i => ?_)), Lib.hid ((below_set hbB.out (Nat.le_refl _)).drew), hall2⟩
              · rw [hnat.out, tg_snoc]
                by_cases e : i = a
                · subst e; simp
                · simp [e]
              · rw [hnat.out, ag_snoc]
                by_cases e : i = b
                · subst e; simp
                · simp [e]
            case measure => simp [intOf]; omega
        · have hno : ¬ (((0 ≤ A ∧ 0 ≤ B) ∧ A < n) ∧ B < n) := by
            intro h
            apply hq
            unfold okP
            simp only [Bool.and_eq_true, decide_eq_true_eq]
            exact h
          have hv := Lib.hid (show vldB (n : Int) ps = false from by
            rw [hvl.out, List.all_eq_false]
            exact ⟨_, hmem.out, hq⟩)
          have hthr := Lib.hid (show Th (wr.alloc (.cells #[.int .i64 A, .int .i64 B] 58)) w.heap.size from (hth.out.below hbr.out).below (below_alloc1 _ _))
          have hbA := Lib.hid (show Below w.heap.size w (wr.alloc (.cells #[.int .i64 A, .int .i64 B] 58)) from below_call hbw.out (below_alloc1 _ _))
          clear hq hmem
          have hcase : (A < 0 ∨ B < 0 ∨ (0 ≤ A ∧ 0 ≤ B ∧ (n : Int) ≤ A) ∨ (0 ≤ A ∧ 0 ≤ B ∧ (n : Int) ≤ B)) := by omega
          clear hno
          rcases (show A < B ∨ B < A ∨ (¬ A < B ∧ ¬ B < A) by omega) with hab | hab | ⟨hab, hba⟩ <;> rcases hcase with h1 | h1 | ⟨h1, h2, h3⟩ | ⟨h1, h2, h3⟩
          all_goals
            go_upto_region 8 with fail
            go_wp2_with (first
              | (refine ws74 (n := 0) (L := []) rfl _ _ rfl rfl rfl hthr.out ?_; intro W1 hW1; have hdz := Lib.hid (show DAt W1 w.heap.size 0 [] from by rw [hW1]; exact DAt.stored hthr.out); have hbz := Lib.hid (show Below w.heap.size w W1 from by rw [hW1]; exact below_setC (Nat.le_refl _) _ _ _ hbA.out); clear hW1))
            all_goals first
              | (exfalso; omega)
              | exact bodyPost_ret (results_cell_tmpR rfl _ rfl hdz.out) rfl ⟨.inr ⟨hv.out, rfl⟩, hbz.out⟩
      · obtain rfl : k = N := by omega
        have hbw := Lib.hid (hb0.out.trans (hbr.out.mono hb0.out.size))
        have hthr := Lib.hid (show Th wr w.heap.size from hth.out.below hbr.out)
        have htk : ps.take k = ps := List.take_of_length_le (by rw [← hN'.out]; exact Nat.le_refl _)
        rw [htk] at hdf hall
        have hv := Lib.hid (show vldB (n : Int) ps = true from by rw [hvl.out]; exact hall.out)
        have hdd := Lib.hid hdf.out.dat
        clear htk
        go_wp2_with (first
          | (refine wl74 rfl _ rfl rfl hdd.out ?_)
          | (refine ws74 (n := n) (L := natP ps) rfl _ _ rfl rfl rfl hthr.out ?_; intro W1 hW1; have hdz := Lib.hid (show DAt W1 w.heap.size n (natP ps) from by rw [hW1]; exact DAt.stored hthr.out); have hbz := Lib.hid (show Below w.heap.size w W1 from by rw [hW1]; exact below_setC (Nat.le_refl _) _ _ _ hbw.out); clear hW1))
        exact bodyPost_ret (results_cell_tmpR rfl _ rfl hdz.out) rfl ⟨.inl ⟨hv.out, rfl⟩, hbz.out⟩
  · have hv := Lib.hid (show vldB n ps = false from by
      unfold vldB
      rw [← hN'.out]
      apply Classical.byContradiction
      intro h
      simp only [Bool.not_eq_false, Bool.and_eq_true, decide_eq_true_eq] at h
      exact hgood ⟨h.1.1.1, h.1.1.2, h.1.2⟩)
    have hlow : n < 1 ∨ 12 < n ∨ (1 ≤ n ∧ n ≤ 12 ∧ 40 < N) := by omega
    clear hgood
    rcases hlow with h1 | h1 | ⟨h1, h2, h3⟩
    all_goals
      go_wp2_with (first
        | (refine ws74 (n := 0) (L := []) rfl _ _ rfl rfl rfl hth.out ?_; intro W1 hW1; have hd := Lib.hid (show DAt W1 w.heap.size 0 [] from by rw [hW1]; exact DAt.stored hth.out); have hb1 := Lib.hid (show Below w.heap.size w W1 from by rw [hW1]; exact below_setC (Nat.le_refl _) _ _ _ hb0.out); clear hW1))
      exact bodyPost_ret (results_cell_tmpR rfl _ rfl hd.out) rfl ⟨.inr ⟨hv.out, rfl⟩, hb1.out⟩
end Go.Proofs.YtpcjigdmfchbdaaDoor
