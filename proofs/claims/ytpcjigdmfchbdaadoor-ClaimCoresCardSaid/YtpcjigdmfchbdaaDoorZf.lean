import Derived.Test.YtpcjigdmfchbdaaDoorZe
namespace Go.Proofs.YtpcjigdmfchbdaaDoor
open Go.RowKit Go.Shelf Cl

set_option maxRecDepth 100000 in
set_option maxHeartbeats 1000000 in
theorem semi28 {w : World} (hT : Tab w) {n : Int} {v : Value} {ps : List (Int × Int)} (hp : ReadsP w v ps) (hl : ps.length ≤ 1000000) :
    Calls Tryd.prog 28 #[.int .i64 n, v] w (MadeG w (resG n ps (lists (semis n.toNat (natP ps)))) (resE n ps)) := by
  unfold resG resE
  cases hv : vldB n ps
  · have hr := Lib.hid (read_bad hp hl hv)
    clear hp hl hv hT
    go_enter Tryd.func28, Tryd.ntmps28

    go_wp2_with (first
        | (go_at_call 47; refine (hr.out).mono ?_; rintro e w1 ⟨rfl, hb⟩; have hb1 := Lib.hid hb; have hth1 := Lib.hid (Th.new w1 (csD 0 []) 74 rfl); have hbA := Lib.hid (below_call hb (below_alloc1 w1 (.cells (csD 0 []) 74))); clear hb)
        | (refine ws74 (n := 0) (L := []) rfl _ _ rfl rfl rfl hth1.out ?_; intro W1 hW1; have hd1 := Lib.hid (show DAt W1 w1.heap.size (0) ([]) from by rw [hW1]; exact DAt.stored hth1.out); have hbW := Lib.hid (show Below w.heap.size w W1 from by rw [hW1]; exact below_setC hb1.out.size _ _ _ hbA.out); clear hW1)
        | (refine wl74 rfl _ rfl rfl hd1.out ?_))
    refine bodyPost_ret (results_tmp2 rfl _ _ _) rfl ?_
    exact ⟨_, rfl, OwnG.nil _ _, hbW.out⟩
  · have hr := Lib.hid (read_ok hp hl hv)
    have hD := (vld_ok hv).1
    obtain ⟨m, hm⟩ : ∃ m, m = n.toNat := ⟨_, rfl⟩
    obtain ⟨L, hL⟩ : ∃ L, L = natP ps := ⟨_, rfl⟩
    rw [← hm, ← hL] at hr hD ⊢
    clear hm hL
    have hg := Lib.hid (fun (W : World) (h : Below w.heap.size w W) => show Calls Tryd.prog 55 #[.agg (csD m L), .func (.func 57) #[.agg (csD m L)] #[]] W (SetsEnd W (coms m L)) from sets55c hD (fun W2 S hS h2 => complete57 (hT.call (below_call h h2)) hD (lt12 hD.nn hS)))
    have hgr := Lib.hid (fun (W : World) (b B : Nat) (v : Value) (h : Below w.heap.size w W) (hd : DAt W b m L) (hx : OwnU W B v (coms m L)) => show Calls Tryd.prog 60 #[v, .func (.func 58) #[] #[.pointer (some ⟨b, 0, none⟩)]] W (SetsEnd W (semis m L)) from greatest60s (m := fun s => s ||| hit L s) hx (sets_lt hD.nn) (fun x hx => or_lt hx (hD.hlt x)) (sets_len hD.nn) (fun W2 S hS h2 => semi58 (hT.call (below_call h h2)) hD hS (hd.below h2)))
    have hli := Lib.hid (fun (W : World) (B : Nat) (v : Value) (h : Below w.heap.size w W) (hx : OwnU W B v (semis m L)) => show Calls Tryd.prog 53 #[v] W (ListsEnd W (lists (semis m L))) from listed53 (hT.call h) hx (grt_lt (sets_lt hD.nn)) (grt_len (sets_len hD.nn)))

    clear hp hl hv hT hD
    go_enter Tryd.func28, Tryd.ntmps28

    go_wp2_with (first
        | (go_at_call 47; refine (hr.out).mono ?_; rintro e w1 ⟨rfl, hb⟩; have hb1 := Lib.hid hb; have hth1 := Lib.hid (Th.new w1 (csD 0 []) 74 rfl); have hbA := Lib.hid (below_call hb (below_alloc1 w1 (.cells (csD 0 []) 74))); clear hb)
        | (refine ws74 (n := m) (L := L) rfl _ _ rfl rfl rfl hth1.out ?_; intro W1 hW1; have hd1 := Lib.hid (show DAt W1 w1.heap.size (m) (L) from by rw [hW1]; exact DAt.stored hth1.out); have hbW := Lib.hid (show Below w.heap.size w W1 from by rw [hW1]; exact below_setC hb1.out.size _ _ _ hbA.out); clear hW1)
        | (refine wl74 rfl _ rfl rfl hd1.out ?_)
        | (go_at_call 55; refine (hg.out _ hbW.out).mono ?_; rintro e w2 ⟨v2, rfl, ho, hb⟩; have ho2 := Lib.hid ho; have hb2 := Lib.hid (below_call hbW.out hb); have hd2 := Lib.hid (hd1.out.below hb); clear hb ho)
        | (go_at_call 60; refine (hgr.out _ _ _ _ hb2.out hd2.out ho2.out).mono ?_; rintro e w4 ⟨v4, rfl, ho, hb⟩; have ho3q := Lib.hid ho; have hb3q := Lib.hid (below_call hb2.out hb); clear hb ho)
        | (go_at_call 53; refine (hli.out _ _ _ hb3q.out ho3q.out).mono ?_; rintro e w3 ⟨v3, rfl, ho, hb⟩; have ho3 := Lib.hid (ho.base hb3q.out.size); have hb3 := Lib.hid (below_call hb3q.out hb); clear hb ho))
    refine bodyPost_ret (results_tmp2 rfl _ _ _) rfl ?_
    exact ⟨_, rfl, ho3.out, hb3.out⟩
/-- All rows of one list are in another list. -/
def someB (a b : List (List Int)) : Bool := a.all fun x => b.any fun y => sameL x y
set_option maxHeartbeats 4000000 in
set_option maxRecDepth 100000 in
theorem some45 {w : World} {u v : Value} {xss yss : List (List Int)} (hu : ReadsG w u xss) (hv : ReadsG w v yss) (hl : xss.length ≤ 1000000) (hl2 : yss.length ≤ 1000000) (hrx : ∀ j, (xss.getD j []).length ≤ 1000000) :
    Calls Tryd.prog 45 #[u, v] w (BoolEnd w (someB xss yss)) := by
  have hu' := Lib.hid hu
  have hv' := Lib.hid hv
  obtain ⟨ao, c, rfl, _, -⟩ := hu
  obtain ⟨bo, d, rfl, _, -⟩ := hv
  obtain ⟨n, hn⟩ : ∃ n, n = xss.length := ⟨_, rfl⟩
  obtain ⟨m, hm⟩ : ∃ n, n = yss.length := ⟨_, rfl⟩
  rw [← hn] at hl hu' ⊢
  rw [← hm] at hl2 hv' ⊢
  have hn' := Lib.hid hn
  have hm' := Lib.hid hm
  have hrx' := Lib.hid hrx
  clear hrx hn hm
  go_enter Tryd.func45, Tryd.ntmps45
  go_wp2
  go_loopw [5] (fun i wr => ∃ k : Nat, k ≤ n ∧ i = .int .i64 k ∧ Hid (∀ j, j < k → (yss.any fun y => sameL (xss.getD j []) y) = true) ∧ Hid (Below w.heap.size w wr)) (fun i _ => n - (intOf i).toNat)
  case atStart => exact ⟨0, Nat.zero_le _, rfl, Lib.hid (fun j hj => absurd hj (Nat.not_lt_zero j)), Lib.hid (Below.refl _ _)⟩
  case round =>
    obtain ⟨k, hk, rfl, hall, hbk⟩ := hrel
    by_cases hlt : k < n
    · obtain ⟨g, o, rfl, hg0, ro, rc, c1, hR1⟩ := hu'.out.at hn'.out.symm hlt
      have hlx := hrx'.out k
      have hmx := Lib.hid (show xss.getD k [] ∈ xss from by rw [List.getD_eq_getElem?_getD, List.getElem?_eq_getElem (by rw [← hn'.out]; exact hlt)]; exact List.getElem_mem _)
      obtain ⟨wz, hwz⟩ : ∃ wz, wz = wr := ⟨_, rfl⟩
      subst hwz
      have hki : (k : Int) < n := by omega
      generalize hxq : xss.getD k [] = x at c1 hR1 hlx hmx
      have hxq' := Lib.hid hxq
      have c1' := Lib.hid c1
      have hR1' := Lib.hid hR1
      clear hxq c1 hR1
      go_wp2_with fail
      go_loopw [6, 7] (fun b i wr => ∃ j : Nat, j ≤ m ∧ i = .int .i64 j ∧ b = .bool ((yss.take j).any fun y => sameL x y) ∧ Hid (Below w.heap.size w wr)) (fun _ i _ => m - (intOf i).toNat)
      case atStart => exact ⟨0, Nat.zero_le _, rfl, rfl, hbk⟩
      case round =>
        obtain ⟨j, hj, rfl, rfl, hb⟩ := hrel
        by_cases hjt : j < m
        · obtain ⟨f, q, rfl, hf0, so, sc, c2, hR2⟩ := hv'.out.at hm'.out.symm hjt
          have cx := Lib.hid ((hb.out.cell (p := ⟨g, o + k, none⟩) hg0).trans c1'.out)
          have cy := Lib.hid ((hb.out.cell (p := ⟨f, q + j, none⟩) hf0).trans c2)
          have hg : g < wr.heap.size := Nat.lt_of_lt_of_le hg0 hb.out.size
          have hf : f < wr.heap.size := Nat.lt_of_lt_of_le hf0 hb.out.size
          have hsn : yss.take (j + 1) = yss.take j ++ [yss.getD j []] := by
            have hj' : j < yss.length := by rw [← hm'.out]; exact hjt
            rw [List.take_succ_eq_append_getElem hj', List.getD_eq_getElem?_getD, List.getElem?_eq_getElem hj']; rfl
          generalize yss.getD j [] = y at cy hR2 hsn
          have hanx := Lib.hid (show ((yss.take (j + 1)).any fun y => sameL x y) = (((yss.take j).any fun y => sameL x y) || sameL x y) from by rw [hsn, List.any_append]; simp)
          have hc := Lib.hid (fun (W : World) (h : Below wr.heap.size wr W) => same23 ((hR1'.out.below hb.out).below h) ((hR2.below hb.out).below h) hlx)
          have hji : (j : Int) < m := by omega
          generalize ((yss.take j).any fun y => sameL x y) = A at hanx ⊢
          clear c2 hsn hR2
          generalize x.length = xl at cx hc
          generalize y.length = yl at cy hc
          cases A
          · generalize sameL x y = R at hanx hc
            go_wp2_with fail
            refine wp_region_noPanic ?_
            refine wp_region_any (by kernel_rfl) (wpAny_of_held (S := fun w' => Below wr.heap.size wr w') _ _ _ _ ?_)
            have hHeld : Below wr.heap.size wr wr.drew := (Below.refl _ _).drew
            change wpAnyH _ _ _ _ _ _ _ _ wr.drew
            simp only [List.size_toArray, List.length_cons, List.length_nil, Nat.reduceAdd, Array.replicate_succ, Array.replicate_zero, List.push_toArray, List.nil_append, List.cons_append]
            refine wpAnyH_take (i := 0) (v := .bool false) rfl (by kernel_rfl) (by kernel_rfl) (by kernel_rfl) (fun _ _ _ h => h) (Or.inl ⟨by rfl, ?_⟩) hHeld ?_
            · intro w' hSw; go_simp
            simp only [Act.put, List.setIfInBounds_toArray, List.set_cons_zero, List.set_cons_succ, List.getElem_toArray, List.getElem_cons_zero]
            refine wpAnyH_take (i := 1) (v := .bool false) rfl (by kernel_rfl) (by kernel_rfl) (by kernel_rfl) (fun _ _ _ h => h) (Or.inl ⟨by rfl, ?_⟩) hHeld ?_
            · intro w' hSw; go_simp
            simp only [Act.put, List.setIfInBounds_toArray, List.set_cons_zero, List.set_cons_succ, List.getElem_toArray, List.getElem_cons_succ, List.getElem_cons_zero]
            refine wpAnyH_take (i := 2) (v := .slice (some ⟨g, o, none⟩) n c) rfl (by kernel_rfl) (by kernel_rfl) (by kernel_rfl) (fun _ _ _ h => h) (Or.inl ⟨by rfl, ?_⟩) hHeld ?_
            · intro w' hSw; go_simp
            simp only [Act.put, List.setIfInBounds_toArray, List.set_cons_zero, List.set_cons_succ, List.getElem_toArray, List.getElem_cons_succ, List.getElem_cons_zero]
            refine wpAnyH_take (i := 3) (v := .int .i64 (k : Int)) rfl (by kernel_rfl) (by kernel_rfl) (by kernel_rfl) (fun _ _ _ h => h) (Or.inl ⟨by rfl, ?_⟩) hHeld ?_
            · intro w' hSw; go_simp
            simp only [Act.put, List.setIfInBounds_toArray, List.set_cons_zero, List.set_cons_succ, List.getElem_toArray, List.getElem_cons_succ, List.getElem_cons_zero]
            refine wpAnyH_take (i := 4) (v := .pointer (some ⟨g, o + k, none⟩)) rfl (by kernel_rfl) (by kernel_rfl) (by kernel_rfl) (fun _ _ _ h => h) (Or.inl ⟨by rfl, ?_⟩) hHeld ?_
            · intro w' hSw; have hi1 : (k : Int) < n := hki; go_simp
            simp only [Act.put, List.setIfInBounds_toArray, List.set_cons_zero, List.set_cons_succ, List.getElem_toArray, List.getElem_cons_succ, List.getElem_cons_zero]
            refine wpAnyH_take (i := 5) (v := .slice ro xl rc) rfl (by kernel_rfl) (by kernel_rfl) (by kernel_rfl) (fun _ _ _ h => h) (Or.inl ⟨by rfl, ?_⟩) hHeld ?_
            · intro w' hSw; have a0 := (hSw.cell (p := ⟨g, o + k, none⟩) hg).trans cx.out; go_simp
            simp only [Act.put, List.setIfInBounds_toArray, List.set_cons_zero, List.set_cons_succ, List.getElem_toArray, List.getElem_cons_succ, List.getElem_cons_zero]
            refine wpAnyH_take (i := 6) (v := .slice (some ⟨f, q, none⟩) m d) rfl (by kernel_rfl) (by kernel_rfl) (by kernel_rfl) (fun _ _ _ h => h) (Or.inl ⟨by rfl, ?_⟩) hHeld ?_
            · intro w' hSw; go_simp
            simp only [Act.put, List.setIfInBounds_toArray, List.set_cons_zero, List.set_cons_succ, List.getElem_toArray, List.getElem_cons_succ, List.getElem_cons_zero]
            refine wpAnyH_take (i := 7) (v := .int .i64 (j : Int)) rfl (by kernel_rfl) (by kernel_rfl) (by kernel_rfl) (fun _ _ _ h => h) (Or.inl ⟨by rfl, ?_⟩) hHeld ?_
            · intro w' hSw; go_simp
            simp only [Act.put, List.setIfInBounds_toArray, List.set_cons_zero, List.set_cons_succ, List.getElem_toArray, List.getElem_cons_succ, List.getElem_cons_zero]
            refine wpAnyH_take (i := 8) (v := .pointer (some ⟨f, q + j, none⟩)) rfl (by kernel_rfl) (by kernel_rfl) (by kernel_rfl) (fun _ _ _ h => h) (Or.inl ⟨by rfl, ?_⟩) hHeld ?_
            · intro w' hSw; have hi1 : (j : Int) < m := hji; go_simp
            simp only [Act.put, List.setIfInBounds_toArray, List.set_cons_zero, List.set_cons_succ, List.getElem_toArray, List.getElem_cons_succ, List.getElem_cons_zero]
            refine wpAnyH_take (i := 9) (v := .slice so yl sc) rfl (by kernel_rfl) (by kernel_rfl) (by kernel_rfl) (fun _ _ _ h => h) (Or.inl ⟨by rfl, ?_⟩) hHeld ?_
            · intro w' hSw; have a0 := (hSw.cell (p := ⟨f, q + j, none⟩) hf).trans cy.out; go_simp
            simp only [Act.put, List.setIfInBounds_toArray, List.set_cons_zero, List.set_cons_succ, List.getElem_toArray, List.getElem_cons_succ, List.getElem_cons_zero]
            refine wpAnyH_ready (rs := [10]) (by kernel_rfl) (by simp) ?_
            refine AllReadyH.cons rfl (fun K hK => ?_) AllReadyH.nil
            have hV := Lib.hid (hc.out wr.drew (Below.refl _ _).drew)
            go_simp
            refine hV.out.mono ?_
            rintro e w2 ⟨rfl, hbq1⟩
            refine hK.out _ _ (hHeld.trans (hbq1.mono hHeld.size)) (fun hHeld => ?_)
            clear hK K hV hbq1
            simp only [List.setIfInBounds_toArray, List.set_cons_zero, List.set_cons_succ]
            refine wpAnyH_take (i := 11) (v := .bool R) rfl (by kernel_rfl) (by kernel_rfl) (by kernel_rfl) (fun _ _ _ h => h) (Or.inl ⟨by rfl, ?_⟩) hHeld ?_
            · intro w' hSw; go_simp
            simp only [Act.put, List.setIfInBounds_toArray, List.set_cons_zero, List.set_cons_succ, List.getElem_toArray, List.getElem_cons_succ, List.getElem_cons_zero]
            refine wpAnyH_take (i := 12) (v := .bool R) rfl (by kernel_rfl) (by kernel_rfl) (by kernel_rfl) (fun _ _ _ h => h) (Or.inl ⟨by rfl, ?_⟩) hHeld ?_
            · intro w' hSw; go_simp
            simp only [Act.put, List.setIfInBounds_toArray, List.set_cons_zero, List.set_cons_succ, List.getElem_toArray, List.getElem_cons_succ, List.getElem_cons_zero]
            refine wpAnyH_done (by kernel_rfl) ?_ _
            have hfin := Lib.hid hHeld
            clear hHeld
            refine NoPanic.normal ?_
            go_wp2_with fail
            go_roundw
            case rel => exact ⟨j + 1, by omega, by go_num, by rw [hanx.out]; rfl, Lib.hid (below_call hb.out hfin.out)⟩
            case measure => simp [intOf]; omega
          · clear hc
            go_wp2_with fail
            refine wp_region_noPanic ?_
            refine wp_region_any (by kernel_rfl) (wpAny_of_held (S := fun w' => Below wr.heap.size wr w') _ _ _ _ ?_)
            have hHeld : Below wr.heap.size wr wr.drew := (Below.refl _ _).drew
            change wpAnyH _ _ _ _ _ _ _ _ wr.drew
            simp only [List.size_toArray, List.length_cons, List.length_nil, Nat.reduceAdd, Array.replicate_succ, Array.replicate_zero, List.push_toArray, List.nil_append, List.cons_append]
            refine wpAnyH_take (i := 0) (v := .bool true) rfl (by kernel_rfl) (by kernel_rfl) (by kernel_rfl) (fun _ _ _ h => h) (Or.inl ⟨by rfl, ?_⟩) hHeld ?_
            · intro w' hSw; go_simp
            simp only [Act.put, List.setIfInBounds_toArray, List.set_cons_zero, List.set_cons_succ, List.getElem_toArray, List.getElem_cons_zero]
            refine wpAnyH_take (i := 1) (v := .bool true) rfl (by kernel_rfl) (by kernel_rfl) (by kernel_rfl) (fun _ _ _ h => h) (Or.inl ⟨by rfl, ?_⟩) hHeld ?_
            · intro w' hSw; go_simp
            simp only [Act.put, List.setIfInBounds_toArray, List.set_cons_zero, List.set_cons_succ, List.getElem_toArray, List.getElem_cons_succ, List.getElem_cons_zero]
            refine wpAnyH_take (i := 2) (v := undef) rfl (by kernel_rfl) (by kernel_rfl) (by kernel_rfl) (fun _ _ _ h => h) (Or.inr ⟨by rfl, rfl⟩) hHeld ?_
            simp only [Act.put, List.setIfInBounds_toArray, List.set_cons_zero, List.set_cons_succ, List.getElem_toArray, List.getElem_cons_succ, List.getElem_cons_zero]
            refine wpAnyH_take (i := 3) (v := undef) rfl (by kernel_rfl) (by kernel_rfl) (by kernel_rfl) (fun _ _ _ h => h) (Or.inr ⟨by rfl, rfl⟩) hHeld ?_
            simp only [Act.put, List.setIfInBounds_toArray, List.set_cons_zero, List.set_cons_succ, List.getElem_toArray, List.getElem_cons_succ, List.getElem_cons_zero]
            refine wpAnyH_take (i := 4) (v := undef) rfl (by kernel_rfl) (by kernel_rfl) (by kernel_rfl) (fun _ _ _ h => h) (Or.inr ⟨by rfl, rfl⟩) hHeld ?_
            simp only [Act.put, List.setIfInBounds_toArray, List.set_cons_zero, List.set_cons_succ, List.getElem_toArray, List.getElem_cons_succ, List.getElem_cons_zero]
            refine wpAnyH_take (i := 5) (v := undef) rfl (by kernel_rfl) (by kernel_rfl) (by kernel_rfl) (fun _ _ _ h => h) (Or.inr ⟨by rfl, rfl⟩) hHeld ?_
            simp only [Act.put, List.setIfInBounds_toArray, List.set_cons_zero, List.set_cons_succ, List.getElem_toArray, List.getElem_cons_succ, List.getElem_cons_zero]
            refine wpAnyH_take (i := 6) (v := undef) rfl (by kernel_rfl) (by kernel_rfl) (by kernel_rfl) (fun _ _ _ h => h) (Or.inr ⟨by rfl, rfl⟩) hHeld ?_
            simp only [Act.put, List.setIfInBounds_toArray, List.set_cons_zero, List.set_cons_succ, List.getElem_toArray, List.getElem_cons_succ, List.getElem_cons_zero]
            refine wpAnyH_take (i := 7) (v := undef) rfl (by kernel_rfl) (by kernel_rfl) (by kernel_rfl) (fun _ _ _ h => h) (Or.inr ⟨by rfl, rfl⟩) hHeld ?_
            simp only [Act.put, List.setIfInBounds_toArray, List.set_cons_zero, List.set_cons_succ, List.getElem_toArray, List.getElem_cons_succ, List.getElem_cons_zero]
            refine wpAnyH_take (i := 8) (v := undef) rfl (by kernel_rfl) (by kernel_rfl) (by kernel_rfl) (fun _ _ _ h => h) (Or.inr ⟨by rfl, rfl⟩) hHeld ?_
            simp only [Act.put, List.setIfInBounds_toArray, List.set_cons_zero, List.set_cons_succ, List.getElem_toArray, List.getElem_cons_succ, List.getElem_cons_zero]
            refine wpAnyH_take (i := 9) (v := undef) rfl (by kernel_rfl) (by kernel_rfl) (by kernel_rfl) (fun _ _ _ h => h) (Or.inr ⟨by rfl, rfl⟩) hHeld ?_
            simp only [Act.put, List.setIfInBounds_toArray, List.set_cons_zero, List.set_cons_succ, List.getElem_toArray, List.getElem_cons_succ, List.getElem_cons_zero]
            refine wpAnyH_take (i := 10) (v := undef) rfl (by kernel_rfl) (by kernel_rfl) (by kernel_rfl) (fun _ _ _ h => h) (Or.inr ⟨by rfl, rfl⟩) hHeld ?_
            simp only [Act.put, List.setIfInBounds_toArray, List.set_cons_zero, List.set_cons_succ, List.getElem_toArray, List.getElem_cons_succ, List.getElem_cons_zero]
            refine wpAnyH_take (i := 11) (v := .bool true) rfl (by kernel_rfl) (by kernel_rfl) (by kernel_rfl) (fun _ _ _ h => h) (Or.inl ⟨by rfl, ?_⟩) hHeld ?_
            · intro w' hSw; go_simp
            simp only [Act.put, List.setIfInBounds_toArray, List.set_cons_zero, List.set_cons_succ, List.getElem_toArray, List.getElem_cons_succ, List.getElem_cons_zero]
            refine wpAnyH_take (i := 12) (v := .bool true) rfl (by kernel_rfl) (by kernel_rfl) (by kernel_rfl) (fun _ _ _ h => h) (Or.inl ⟨by rfl, ?_⟩) hHeld ?_
            · intro w' hSw; go_simp
            simp only [Act.put, List.setIfInBounds_toArray, List.set_cons_zero, List.set_cons_succ, List.getElem_toArray, List.getElem_cons_succ, List.getElem_cons_zero]
            refine wpAnyH_done (by kernel_rfl) ?_ _
            have hfin := Lib.hid hHeld
            clear hHeld
            refine NoPanic.normal ?_
            go_wp2_with fail
            go_roundw
            case rel => exact ⟨j + 1, by omega, by go_num, by rw [hanx.out]; rfl, Lib.hid (below_call hb.out hfin.out)⟩
            case measure => simp [intOf]; omega
        · obtain rfl : j = m := by omega
          have hta : (yss.take j) = yss := List.take_of_length_le (by rw [← hm'.out]; exact Nat.le_refl _)
          rw [hta]
          cases hA : (yss.any fun y => sameL x y)
          · have hno := Lib.hid (show false = someB xss yss from by
              symm
              unfold someB
              rw [List.all_eq_false]
              exact ⟨x, hmx.out, by rw [hA]; decide⟩)
            clear hA hta
            go_wp2
            go_ret
            exact ⟨ret_b hno.out, hb.out⟩
          · have hall2 := Lib.hid (show ∀ i, i < k + 1 → (yss.any fun y => sameL (xss.getD i []) y) = true from fun i h => by
              rcases Nat.lt_succ_iff_lt_or_eq.1 h with h | h
              · exact hall.out i h
              · rw [h, hxq'.out]; exact hA)
            clear hA hta
            go_wp2
            go_roundw
            case rel => exact ⟨k + 1, by omega, by go_num, hall2, hb⟩
            case measure => simp [intOf]; omega
    · obtain rfl : k = n := by omega
      have hyes := Lib.hid (show true = someB xss yss from by
        symm
        unfold someB
        rw [List.all_eq_true]
        intro x hx
        obtain ⟨i, hi, rfl⟩ := List.getElem_of_mem hx
        have := hall.out i (by rw [hn'.out]; exact hi)
        rw [List.getD_eq_getElem?_getD, List.getElem?_eq_getElem hi] at this
        simpa using this)
      go_wp2
      go_ret
      exact ⟨ret_b hyes.out, hbk.out⟩
end Go.Proofs.YtpcjigdmfchbdaaDoor
