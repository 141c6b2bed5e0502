import Derived.Test.YtpcjigdmfchbdaaDoorZ
namespace Go.Proofs.YtpcjigdmfchbdaaDoor
open Go.RowKit Go.Shelf Cl
set_option maxRecDepth 100000 in
set_option maxHeartbeats 4000000 in
theorem around72 {w : World} (hT : Tab w) {n : Nat} {L : Atts} (hD : OkD n L) {s len : Nat} (hs : s < n) (hl : len ≤ 12) (hl1 : 1 ≤ len) :
    Calls Tryd.prog 72 #[.agg (csD n L), .int .i64 (s : Int), .int .i64 (len : Int)] w (AroundEnd w L s len) := by
  have hb1 := Lib.hid (below_alloc1 w (.cells (csD n L) 74))
  have hd0 := Lib.hid (DAt.new w n L 74)
  have hD' := Lib.hid hD
  have hT' := Lib.hid hT
  have hs12 : s < 12 := Nat.lt_of_lt_of_le hs hD.nn
  have hs' := Lib.hid hs
  have hsh := sh_one s (by omega)
  have hu := Lib.hid (fun (W : World) (k : Nat) (h : Below w.heap.size w W) => show Calls Tryd.prog 80 #[.agg (asD L), .int .u64 (frm L s k : Int)] W (NumEnd W (frm L s (k + 1))) from union80 (hT.call h) (cs := asD L) (f := ag L) rfl (asD_at L) hD.alt (lt12 hD.nn (frm_lt hD.within hs k)))
  clear hT hD hs
  go_enter Tryd.func72, Tryd.ntmps72
  go_upto_region 1 with fail
  obtain ⟨W0, hW0⟩ : ∃ W0, W0 = w.alloc (.cells (csD n L) 74) := ⟨_, rfl⟩
  rw [← hW0] at hb1 hd0 ⊢
  clear hW0
  go_wp2_with fail
  have hown0 := Lib.hid (show OwnU (W0.alloc (.cells #[.int .u64 (2 ^ s)] 71)) W0.heap.size (.slice (some ⟨W0.heap.size, 0, none⟩) 1 1) (frT L s 1) from by
    have h := own_full W0 (B := W0.heap.size) 71 #[.int .u64 (2 ^ s)] (Nat.le_refl _) (by show 1 ≤ maxLen; unfold maxLen; omega)
    have e : (frT L s 1).map (fun x : Nat => Value.int .u64 (x : Int)) = [.int .u64 (2 ^ s)] := by
      show [Value.int .u64 ((2 ^ s : Nat) : Int)] = _
      rw [Int.natCast_pow]; rfl
    unfold OwnU
    rw [e]
    exact h)
  have hbA := Lib.hid (below_alloc1 W0 (.cells #[.int .u64 (2 ^ s)] 71))
  go_loopw [7, 16] (fun v p wr => ∃ k : Nat, k ≤ len ∧ p = .int .i64 (k : Int) ∧ Hid (OwnU wr W0.heap.size v (frT L s (k + 1))) ∧ Hid (Below W0.heap.size W0 wr)) (fun _ p _ => len - (intOf p).toNat)
  case atStart => exact ⟨0, Nat.zero_le _, rfl, hown0, hbA⟩
  case round =>
    obtain ⟨k, hk, rfl, ho, hb⟩ := hrel
    by_cases hlt : k < len
    · obtain ⟨g, cap, rfl, hBg, hg, hcell⟩ := ho.out.parts (fun e => by have := congrArg List.length e; rw [frT_len] at this; simp at this)
      have ck := hcell k (by rw [frT_len]; omega)
      rw [frT_at L s (k + 1) k (by omega)] at ck
      rw [frT_len] at ho ⊢
      have hul := Lib.hid (fun (W : World) (h : Below w.heap.size w W) => hu.out W k h)
      have hnx := Lib.hid (frT_succ L s (k + 1))
      generalize frm L s k = F at ck hul

      have ck' := Lib.hid ck
      clear hcell ck
      go_wp2_with fail
      refine wp_region_noPanic ?_
      refine wp_region_any (by kernel_rfl) (wpAny_of_held (S := fun w' => Below W0.heap.size W0 w' ∧ w'.cell? ⟨g, k, none⟩ = some (.int .u64 (F : Int))) _ _ _ _ ?_)
      have hHeld : Below W0.heap.size W0 wr.drew ∧ wr.drew.cell? ⟨g, k, none⟩ = some (.int .u64 (F : Int)) := ⟨hb.out.drew, ck'.out⟩
      change wpAnyH _ _ _ _ _ _ _ _ wr.drew
      simp only [List.size_toArray, List.length_cons, List.length_nil, Nat.reduceAdd, Array.replicate_succ, Array.replicate_zero, List.push_toArray, List.nil_append, List.cons_append]
      refine wpAnyH_take (i := 0) (v := .slice (some ⟨g, 0, none⟩) (k + 1) cap) rfl (by kernel_rfl) (by kernel_rfl) (by kernel_rfl) (fun _ _ _ h => h) (Or.inl ⟨by rfl, ?_⟩) hHeld ?_
      · intro w' hSw; go_simp
      simp only [Act.put, List.setIfInBounds_toArray, List.set_cons_zero, List.set_cons_succ, List.getElem_toArray, List.getElem_cons_zero]
      refine wpAnyH_take (i := 1) (v := .pointer (some ⟨w.heap.size, 13, none⟩)) rfl (by kernel_rfl) (by kernel_rfl) (by kernel_rfl) (fun _ _ _ h => h) (Or.inl ⟨by rfl, ?_⟩) hHeld ?_
      · intro w' hSw; go_simp
      simp only [Act.put, List.setIfInBounds_toArray, List.set_cons_zero, List.set_cons_succ, List.getElem_toArray, List.getElem_cons_succ, List.getElem_cons_zero]
      refine wpAnyH_take (i := 2) (v := .agg (asD L)) rfl (by kernel_rfl) (by kernel_rfl) (by kernel_rfl) (fun _ _ _ h => h) (yieldsIf_load_mid (by rfl) 72 (.tmp 20) rfl w.heap.size 13 rfl (asD L).toList _ (fun w' hw' => asD_range (hd0.out.below hw'.1)) Tryd.underlying72 rfl size72) hHeld ?_
      simp only [Act.put, List.setIfInBounds_toArray, List.set_cons_zero, List.set_cons_succ, List.getElem_toArray, List.getElem_cons_succ, List.getElem_cons_zero]
      refine wpAnyH_take (i := 3) (v := .slice (some ⟨g, 0, none⟩) (k + 1) cap) rfl (by kernel_rfl) (by kernel_rfl) (by kernel_rfl) (fun _ _ _ h => h) (Or.inl ⟨by rfl, ?_⟩) hHeld ?_
      · intro w' hSw; go_simp
      simp only [Act.put, List.setIfInBounds_toArray, List.set_cons_zero, List.set_cons_succ, List.getElem_toArray, List.getElem_cons_succ, List.getElem_cons_zero]
      refine wpAnyH_take (i := 4) (v := .int .i64 (k : Int)) rfl (by kernel_rfl) (by kernel_rfl) (by kernel_rfl) (fun _ _ _ h => h) (Or.inl ⟨by rfl, ?_⟩) hHeld ?_
      · intro w' hSw; go_simp
      simp only [Act.put, List.setIfInBounds_toArray, List.set_cons_zero, List.set_cons_succ, List.getElem_toArray, List.getElem_cons_succ, List.getElem_cons_zero]
      refine wpAnyH_take (i := 5) (v := .pointer (some ⟨g, k, none⟩)) rfl (by kernel_rfl) (by kernel_rfl) (by kernel_rfl) (fun _ _ _ h => h) (Or.inl ⟨by rfl, ?_⟩) hHeld ?_
      · intro w' hSw; have hi1 : (k : Int) < (k : Int) + 1 := (by omega); go_simp
      simp only [Act.put, List.setIfInBounds_toArray, List.set_cons_zero, List.set_cons_succ, List.getElem_toArray, List.getElem_cons_succ, List.getElem_cons_zero]
      refine wpAnyH_take (i := 6) (v := .int .u64 (F : Int)) rfl (by kernel_rfl) (by kernel_rfl) (by kernel_rfl) (fun _ _ _ h => h) (Or.inl ⟨by rfl, ?_⟩) hHeld ?_
      · intro w' hSw; have a0 := hSw.2; go_simp
      simp only [Act.put, List.setIfInBounds_toArray, List.set_cons_zero, List.set_cons_succ, List.getElem_toArray, List.getElem_cons_succ, List.getElem_cons_zero]
      refine wpAnyH_ready (rs := [7]) (by kernel_rfl) (by simp) ?_
      refine AllReadyH.cons rfl (fun K hK => ?_) AllReadyH.nil
      have hV := Lib.hid (hul.out wr.drew (hb1.out.trans (hHeld.1.mono hb1.out.size)))
      go_simp
      refine hV.out.mono ?_
      rintro e w2 ⟨rfl, hbq1⟩
      have hgq : g < w2.heap.size := Nat.lt_of_lt_of_le hg hbq1.size
      have hoq := Lib.hid (ho.out.below ((Below.refl wr.heap.size wr).drew.trans hbq1))
      refine hK.out _ _ ⟨hHeld.1.trans (hbq1.mono hHeld.1.size), (hbq1.cell (p := ⟨g, k, none⟩) hg).trans hHeld.2⟩ (fun hHeld => ?_)
      clear hK K hV hbq1
      simp only [List.setIfInBounds_toArray, List.set_cons_zero, List.set_cons_succ]
      refine wpAnyH_ready (rs := [8]) (by kernel_rfl) (by simp) ?_
      refine AllReadyH.cons rfl (fun K hK => ?_) AllReadyH.nil
      have hal : Below W0.heap.size W0 (w2.alloc (.cells #[.int .u64 (frm L s (k + 1) : Int)] 71)) ∧ (w2.alloc (.cells #[.int .u64 (frm L s (k + 1) : Int)] 71)).cell? ⟨g, k, none⟩ = some (.int .u64 (F : Int)) := ⟨hHeld.1.alloc hHeld.1.size _, ((below_alloc1 w2 _).cell (p := ⟨g, k, none⟩) hgq).trans hHeld.2⟩
      go_simp
      refine hK.out _ _ hal (fun hHeld => ?_)
      clear hK K hal
      simp only [List.setIfInBounds_toArray, List.set_cons_zero, List.set_cons_succ]
      refine wpAnyH_ready (rs := [9]) (by kernel_rfl) (by simp) ?_
      refine AllReadyH.cons rfl (fun K hK => ?_) AllReadyH.nil
      obtain ⟨i0, hi, hz0, hz1, hz2⟩ := info_parts info71
      have hoa := own_below hoq.out (below_alloc1 w2 (.cells #[.int .u64 (frm L s (k + 1) : Int)] 71))
      rw [frT_len] at hoa
      refine step_one Tryd.underlying81 hi hz0 hz1 hz2 rfl (by decide) rfl (.tmp 19) (.tmp 27) rfl hoa rfl w2.heap.size rfl (.int .u64 (frm L s (k + 1) : Int)) (cell_new_e _ _ _).1 rfl (by omega) hHeld.1.size ?_
      intro v' w3 h1 h2 h3
      refine hK.out _ _ ⟨hHeld.1.trans h2, h3 g cap k _ rfl (by omega) hHeld.2⟩ (fun hHeld => ?_)
      clear hK K
      simp only [List.setIfInBounds_toArray, List.set_cons_zero, List.set_cons_succ]
      refine wpAnyH_take (i := 10) (v := v') rfl (by kernel_rfl) (by kernel_rfl) (by kernel_rfl) (fun _ _ _ h => h) (Or.inl ⟨by rfl, ?_⟩) hHeld ?_
      · intro w' hSw; go_simp
      simp only [Act.put, List.setIfInBounds_toArray, List.set_cons_zero, List.set_cons_succ, List.getElem_toArray, List.getElem_cons_succ, List.getElem_cons_zero]
      refine wpAnyH_done (by kernel_rfl) ?_ _
      have hfin := Lib.hid hHeld.1
      have h1q := Lib.hid (show OwnU w3 W0.heap.size v' (frT L s (k + 1 + 1)) from by
        unfold OwnU
        rw [hnx.out, List.length_append, frT_len, List.map_append]
        exact h1)
      clear hHeld h1 h2 h3 hoa
      refine NoPanic.normal ?_
      go_wp2_with fail
      go_roundw
      case rel => exact ⟨k + 1, by omega, by go_num, h1q, hfin⟩
      case measure => simp [intOf]; omega
    · obtain rfl : k = len := by omega
      obtain ⟨g, cap, rfl, hBg, hg, hcell⟩ := ho.out.parts (fun e => by have := congrArg List.length e; rw [frT_len] at this; simp at this)
      have ck := hcell k (by rw [frT_len]; omega)
      rw [frT_at L s (k + 1) k (by omega)] at ck
      have hfr := Lib.hid (show ∀ j, j < k + 1 → wr.cell? ⟨g, j, none⟩ = some (.int .u64 (frm L s j : Int)) from fun j hj => by have := hcell j (by rw [frT_len]; omega); rwa [frT_at L s (k + 1) j hj] at this)
      rw [frT_len] at ⊢
      have hbw := Lib.hid (hb1.out.trans (hb.out.mono hb1.out.size))
      have hh := Lib.hid (fun (W : World) => has50 (w := W) (S := frm L s k) (j := s) (lt12 hD'.out.nn (frm_lt hD'.out.within hs'.out k)) hs12)
      obtain ⟨wz, hwz⟩ : ∃ wz, wz = wr := ⟨_, rfl⟩
      subst hwz
      have hi1 : (k : Int) < (k : Int) + 1 := by omega
      clear hcell
      cases hq : (frm L s k).testBit s
      · rw [hq] at hh
        have hq' := Lib.hid hq
        clear hq
        generalize hF : frm L s k = F at ck hh
        clear hF
        go_wp2_with (first
          | (go_at_call 50; refine (hh.out _).mono ?_; rintro e w2 ⟨rfl, rfl⟩))
        go_ret
        exact ⟨.inl ⟨hq'.out, rfl⟩, hbw.out⟩
      · rw [hq] at hh
        have hinv := Lib.hid (ar_inv hD'.out hs'.out hq)
        have hq' := Lib.hid hq
        clear hq
        generalize hF : frm L s k = F at ck hh
        clear hF
        go_wp2_with (first
          | (go_at_call 50; refine (hh.out _).mono ?_; rintro e w2 ⟨rfl, rfl⟩))
        have hown9 := Lib.hid (show Ints (wz.alloc (.cells #[.int .i64 (s : Int)] 3)) wz.heap.size (.slice (some ⟨wz.heap.size, 0, none⟩) 1 1) (natI (arT L s k 0)) from own_full wz (B := wz.heap.size) 3 #[.int .i64 (s : Int)] (Nat.le_refl _) (by show 1 ≤ maxLen; unfold maxLen; omega))
        go_loopw [9, 10] (fun v p wq => ∃ j : Nat, j < k ∧ p = .int .i64 ((k - 1 - j : Nat) : Int) ∧ Hid (Ints wq wz.heap.size v (natI (arT L s k j))) ∧ Hid (Below wz.heap.size wz wq)) (fun _ p _ => (intOf p).toNat)
        case atStart => exact ⟨0, by omega, by go_num, hown9, Lib.hid (below_alloc1 _ _)⟩
        case round =>
          obtain ⟨j, hj, rfl, ho9, hb9⟩ := hrel
          have hlen9 := Lib.hid (show (natI (arT L s k j)).length = j + 1 from by unfold natI arT; rw [List.length_map, List.length_take]; simp [arP_len]; omega)
          obtain ⟨g9, cap9, hv9, hB9, hg9, hcell9, -, -⟩ := ints_parts ho9.out (fun e => by have := congrArg List.length e; rw [hlen9.out] at this; simp at this)
          rw [hlen9.out] at hv9 hcell9
          subst hv9
          by_cases hmore : j + 1 < k
          · have c9 := hcell9 j (by omega)
            have hx9 : (natI (arT L s k j)).getD j 0 = (arX L s k j : Int) := by
              unfold natI arT arX
              rw [List.getD_eq_getElem?_getD, List.getElem?_map, List.getElem?_take, if_pos (by omega), List.getD_eq_getElem?_getD, List.getElem?_eq_getElem (by simp [arP_len]; omega)]; rfl
            rw [hx9] at c9
            obtain ⟨hin, hx12⟩ := hinv.out j (by omega)
            rw [show k - j = (k - 1 - j) + 1 by omega] at hin
            obtain ⟨hne0, -, -⟩ := ar_next hD'.out hs'.out hin
            have hnxX := Lib.hid (arX_next L s k j (by omega))
            have hnxT := Lib.hid (arT_next L s k j (by omega))
            have hTl := hD'.out.tlt (arX L s k j)
            have hFl := lt12 hD'.out.nn (frm_lt (L := L) (n := n) hD'.out.within hs'.out (k - 1 - j))
            have hfrz := hfr.out (k - 1 - j) (by omega)
            have hcK := Lib.hid ((hb9.out.cell (p := ⟨g, k - 1 - j, none⟩) hg).trans hfrz)
            have hcT := Lib.hid ((((hd0.out.below hb.out).below hb9.out).2 _ _ (csD_t n L (arX L s k j) hx12)))
            have hKk : ((k - 1 - j : Nat) : Int) < (k : Int) + 1 := by omega
            have hKpos : 0 < ((k - 1 - j : Nat) : Int) := by omega
            have hKne := Lib.hid (show ((k - 1 - j : Nat) : Int) - 1 = ((k - 1 - (j + 1) : Nat) : Int) from by omega)
            have hand := and_any hTl hFl
            have hfi := Lib.hid (fun (W : World) (h : Tab W) => first85 h (and_lt (frm L s (k - 1 - j)) hTl) hne0)
            have hTw := Lib.hid (hT'.out.call (hbw.out.trans (hb9.out.mono hbw.out.size)))
            have hb9' := Lib.hid hb9.out
            clear hx9 hcell9 hin hne0 hfrz hTl hFl
            rw [← hnxX.out] at hfi
            generalize arX L s k (j + 1) = Y at hfi hnxT
            clear hnxX
            generalize arX L s k j = X at c9 hx12 hcT hand hfi
            generalize tg L X = TX at hcT hand hfi
            generalize hKe : k - 1 - j = KK at *
            generalize frm L s KK = FK at hcK hand hfi
            go_wp2_with fail

            refine wp_region_noPanic ?_
            refine wp_region_any (by kernel_rfl) (wpAny_of_held (S := fun w' => Below wz.heap.size wz w' ∧ w'.cell? ⟨g, KK, none⟩ = some (.int .u64 (FK : Int)) ∧ w'.cell? ⟨w.heap.size, 1 + X, none⟩ = some (.int .u64 (TX : Int))) _ _ _ _ ?_)
            have hlz : w.heap.size < wz.heap.size := Nat.lt_of_lt_of_le hd0.out.1 hb.out.size
            have hHeld : Below wz.heap.size wz wr.drew ∧ wr.drew.cell? ⟨g, KK, none⟩ = some (.int .u64 (FK : Int)) ∧ wr.drew.cell? ⟨w.heap.size, 1 + X, none⟩ = some (.int .u64 (TX : Int)) := ⟨hb9'.out.drew, hcK.out, hcT.out⟩
            change wpAnyH _ _ _ _ _ _ _ _ wr.drew
            simp only [List.size_toArray, List.length_cons, List.length_nil, Nat.reduceAdd, Array.replicate_succ, Array.replicate_zero, List.push_toArray, List.nil_append, List.cons_append]
            refine wpAnyH_take (i := 0) (v := .slice (some ⟨g9, 0, none⟩) (j + 1) cap9) rfl (by kernel_rfl) (by kernel_rfl) (by kernel_rfl) (fun _ _ _ h => h) (Or.inl ⟨by rfl, ?_⟩) hHeld ?_
            · intro w' hSw; go_simp
            simp only [Act.put, List.setIfInBounds_toArray, List.set_cons_zero, List.set_cons_succ, List.getElem_toArray, List.getElem_cons_zero]
            refine wpAnyH_take (i := 1) (v := .int .i64 (X : Int)) rfl (by kernel_rfl) (by kernel_rfl) (by kernel_rfl) (fun _ _ _ h => h) (Or.inl ⟨by rfl, ?_⟩) hHeld ?_
            · intro w' hSw; go_simp
            simp only [Act.put, List.setIfInBounds_toArray, List.set_cons_zero, List.set_cons_succ, List.getElem_toArray, List.getElem_cons_succ, List.getElem_cons_zero]
            refine wpAnyH_take (i := 2) (v := .pointer (some ⟨w.heap.size, 1, none⟩)) rfl (by kernel_rfl) (by kernel_rfl) (by kernel_rfl) (fun _ _ _ h => h) (Or.inl ⟨by rfl, ?_⟩) hHeld ?_
            · intro w' hSw; go_simp
            simp only [Act.put, List.setIfInBounds_toArray, List.set_cons_zero, List.set_cons_succ, List.getElem_toArray, List.getElem_cons_succ, List.getElem_cons_zero]
            refine wpAnyH_take (i := 3) (v := .pointer (some ⟨w.heap.size, 1 + X, none⟩)) rfl (by kernel_rfl) (by kernel_rfl) (by kernel_rfl) (fun _ _ _ h => h) (Or.inl ⟨by rfl, ?_⟩) hHeld ?_
            · intro w' hSw; have hi1 : (X : Int) < 12 := (by omega); go_simp
            simp only [Act.put, List.setIfInBounds_toArray, List.set_cons_zero, List.set_cons_succ, List.getElem_toArray, List.getElem_cons_succ, List.getElem_cons_zero]
            refine wpAnyH_take (i := 4) (v := .int .u64 (TX : Int)) rfl (by kernel_rfl) (by kernel_rfl) (by kernel_rfl) (fun _ _ _ h => h) (Or.inl ⟨by rfl, ?_⟩) hHeld ?_
            · intro w' hSw; have a0 := hSw.2.2; go_simp
            simp only [Act.put, List.setIfInBounds_toArray, List.set_cons_zero, List.set_cons_succ, List.getElem_toArray, List.getElem_cons_succ, List.getElem_cons_zero]
            refine wpAnyH_take (i := 5) (v := .slice (some ⟨g, 0, none⟩) (k + 1) cap) rfl (by kernel_rfl) (by kernel_rfl) (by kernel_rfl) (fun _ _ _ h => h) (Or.inl ⟨by rfl, ?_⟩) hHeld ?_
            · intro w' hSw; go_simp
            simp only [Act.put, List.setIfInBounds_toArray, List.set_cons_zero, List.set_cons_succ, List.getElem_toArray, List.getElem_cons_succ, List.getElem_cons_zero]
            refine wpAnyH_take (i := 6) (v := .int .i64 (KK : Int)) rfl (by kernel_rfl) (by kernel_rfl) (by kernel_rfl) (fun _ _ _ h => h) (Or.inl ⟨by rfl, ?_⟩) hHeld ?_
            · intro w' hSw; go_simp
            simp only [Act.put, List.setIfInBounds_toArray, List.set_cons_zero, List.set_cons_succ, List.getElem_toArray, List.getElem_cons_succ, List.getElem_cons_zero]
            refine wpAnyH_take (i := 7) (v := .pointer (some ⟨g, KK, none⟩)) rfl (by kernel_rfl) (by kernel_rfl) (by kernel_rfl) (fun _ _ _ h => h) (Or.inl ⟨by rfl, ?_⟩) hHeld ?_
            · intro w' hSw; have hi1 : (KK : Int) < (k : Int) + 1 := hKk; go_simp
            simp only [Act.put, List.setIfInBounds_toArray, List.set_cons_zero, List.set_cons_succ, List.getElem_toArray, List.getElem_cons_succ, List.getElem_cons_zero]
            refine wpAnyH_take (i := 8) (v := .int .u64 (FK : Int)) rfl (by kernel_rfl) (by kernel_rfl) (by kernel_rfl) (fun _ _ _ h => h) (Or.inl ⟨by rfl, ?_⟩) hHeld ?_
            · intro w' hSw; have a0 := hSw.2.1; go_simp
            simp only [Act.put, List.setIfInBounds_toArray, List.set_cons_zero, List.set_cons_succ, List.getElem_toArray, List.getElem_cons_succ, List.getElem_cons_zero]
            refine wpAnyH_take (i := 9) (v := .int .u64 ((TX &&& FK : Nat) : Int)) rfl (by kernel_rfl) (by kernel_rfl) (by kernel_rfl) (fun _ _ _ h => h) (Or.inl ⟨by rfl, ?_⟩) hHeld ?_
            · intro w' hSw; go_simp
            simp only [Act.put, List.setIfInBounds_toArray, List.set_cons_zero, List.set_cons_succ, List.getElem_toArray, List.getElem_cons_succ, List.getElem_cons_zero]
            refine wpAnyH_ready (rs := [10]) (by kernel_rfl) (by simp) ?_
            refine AllReadyH.cons rfl (fun K hK => ?_) AllReadyH.nil
            have hV := Lib.hid (hfi.out wr.drew (hTw.out.call (Below.refl _ _).drew))
            go_simp
            refine hV.out.mono ?_
            rintro e w2 ⟨rfl, rfl⟩
            refine hK.out _ _ hHeld (fun hHeld => ?_)
            clear hK K hV
            simp only [List.setIfInBounds_toArray, List.set_cons_zero, List.set_cons_succ]
            refine wpAnyH_ready (rs := [11]) (by kernel_rfl) (by simp) ?_
            refine AllReadyH.cons rfl (fun K hK => ?_) AllReadyH.nil
            have hgz : g < wr.drew.heap.size := Nat.lt_of_lt_of_le hg hHeld.1.size
            have hwz : w.heap.size < wr.drew.heap.size := Nat.lt_of_lt_of_le hlz hHeld.1.size
            have hal : Below wz.heap.size wz (wr.drew.alloc (.cells #[.int .i64 (Y : Int)] 3)) ∧ (wr.drew.alloc (.cells #[.int .i64 (Y : Int)] 3)).cell? ⟨g, KK, none⟩ = some (.int .u64 (FK : Int)) ∧ (wr.drew.alloc (.cells #[.int .i64 (Y : Int)] 3)).cell? ⟨w.heap.size, 1 + X, none⟩ = some (.int .u64 (TX : Int)) := ⟨hHeld.1.alloc hHeld.1.size _, ((below_alloc1 _ _).cell (p := ⟨g, KK, none⟩) hgz).trans hHeld.2.1, ((below_alloc1 _ _).cell (p := ⟨w.heap.size, 1 + X, none⟩) hwz).trans hHeld.2.2⟩
            go_simp
            refine hK.out _ _ hal (fun hHeld => ?_)
            clear hK K hal
            simp only [List.setIfInBounds_toArray, List.set_cons_zero, List.set_cons_succ]
            refine wpAnyH_ready (rs := [12]) (by kernel_rfl) (by simp) ?_
            refine AllReadyH.cons rfl (fun K hK => ?_) AllReadyH.nil
            obtain ⟨i0, hi, hz0, hz1, hz2⟩ := info_parts info3
            have hoa := own_below (own_below ho9.out (Below.refl wr.heap.size wr).drew) (below_alloc1 wr.drew (.cells #[.int .i64 (Y : Int)] 3))
            rw [hlen9.out] at hoa
            refine step_one Tryd.underlying24 hi hz0 hz1 hz2 rfl (by decide) rfl (.tmp 51) (.tmp 62) rfl hoa rfl wr.drew.heap.size rfl (.int .i64 (Y : Int)) (cell_new_e _ _ _).1 rfl (by omega) hHeld.1.size ?_
            intro v' w3 h1 h2 h3
            refine hK.out _ _ ⟨hHeld.1.trans h2, (h2.cell (p := ⟨g, KK, none⟩) hg).trans hHeld.2.1, (h2.cell (p := ⟨w.heap.size, 1 + X, none⟩) hlz).trans hHeld.2.2⟩ (fun hHeld => ?_)
            clear hK K
            simp only [List.setIfInBounds_toArray, List.set_cons_zero, List.set_cons_succ]
            refine wpAnyH_take (i := 13) (v := v') rfl (by kernel_rfl) (by kernel_rfl) (by kernel_rfl) (fun _ _ _ h => h) (Or.inl ⟨by rfl, ?_⟩) hHeld ?_
            · intro w' hSw; go_simp
            simp only [Act.put, List.setIfInBounds_toArray, List.set_cons_zero, List.set_cons_succ, List.getElem_toArray, List.getElem_cons_succ, List.getElem_cons_zero]
            refine wpAnyH_done (by kernel_rfl) ?_ _
            have hfin := Lib.hid hHeld.1
            have h1q := Lib.hid (show Ints w3 wz.heap.size v' (natI (arT L s k (j + 1))) from by
              rw [hnxT.out]
              unfold Ints natI
              rw [List.map_append, List.length_append, List.map_append]
              have := hlen9.out
              unfold natI at this
              rw [this]
              exact h1)
            clear hHeld h1 h2 h3 hoa
            refine NoPanic.normal ?_
            go_wp2_with fail
            go_roundw
            case rel => exact ⟨j + 1, by omega, by rw [← hKne.out], h1q, hfin⟩
            case measure => simp [intOf]; omega
          · have hje : j = k - 1 := by omega
            have hfin9 := Lib.hid (show Ints wr w.heap.size (.slice (some ⟨g9, 0, none⟩) k cap9) (natI (s :: arP L s (k - 1) s)) from by
              have := ho9.out.base hbw.out.size
              rw [hje, arT_all, show k - 1 + 1 = k by omega] at this
              exact this)
            rw [show ((k - 1 - j : Nat) : Int) = 0 by omega, show j + 1 = k by omega]
            clear hcell9
            go_wp2
            go_ret
            exact ⟨.inr ⟨hq'.out, g9, cap9, rfl, hfin9.out⟩, hbw.out.trans (hb9.out.mono hbw.out.size)⟩
end Go.Proofs.YtpcjigdmfchbdaaDoor
