import Derived.Test.YtpcjigdmfchbdaaDoorZd
namespace Go.Proofs.YtpcjigdmfchbdaaDoor
open Go.RowKit Go.Shelf Cl

attribute [local irreducible] grd
/-! ## The document's examples -/
theorem readsP_new (W : World) (ps : List (Int × Int)) : ReadsP (W.alloc (.cells (flat encP ps).toArray 58)) (.slice (some ⟨W.heap.size, 0, none⟩) ps.length ps.length) ps :=
  ⟨flat_len encP_len ps, _, _, rfl, Nat.le_refl _, (fun e => by cases e), fun _ => ⟨W.heap.size, 0, rfl, by simp, fun j u hj => by rw [Nat.zero_add, cells_new]; simpa using hj⟩⟩
theorem reads_new (W : World) (xs : List Int) : Reads (W.alloc (.cells (xs.map (Value.int .i64)).toArray 3)) (.slice (some ⟨W.heap.size, 0, none⟩) xs.length xs.length) xs :=
  ⟨_, _, rfl, Nat.le_refl _, fun _ => ⟨W.heap.size, 0, rfl, by simp, fun j hj => by rw [Nat.zero_add, cells_new]; simp [List.getD_eq_getElem?_getD, hj]⟩⟩
theorem readsG_new2 (W : World) {u v : Value} {xs ys : List Int} (hu : Reads W u xs) (hv : Reads W v ys) : ReadsG (W.alloc (.cells #[u, v] 24)) (.slice (some ⟨W.heap.size, 0, none⟩) 2 2) [xs, ys] :=
  ⟨_, 2, rfl, Nat.le_refl _, fun _ => ⟨W.heap.size, 0, rfl, by simp, fun j hj => by
    simp at hj
    rcases (show j = 0 ∨ j = 1 by omega) with rfl | rfl
    · exact ⟨u, by rw [cells_new]; rfl, hu.below (below_alloc1 _ _)⟩
    · exact ⟨v, by rw [cells_new]; rfl, hv.below (below_alloc1 _ _)⟩⟩⟩
abbrev P1 : List (Int × Int) := [(0, 1), (1, 2)]
abbrev P2 : List (Int × Int) := [(0, 1), (1, 0)]
abbrev P3 : List (Int × Int) := [(0, 1), (1, 2), (2, 0)]
theorem lgA : stp 3 (natP P1) 2 = dfd 3 (natP P1) (stp 3 (natP P1) 2) := by decide +kernel
theorem lgB : stp 3 (natP P1) 2 = 5 := by decide +kernel
theorem lg : grd (3 : Int).toNat (natP P1) = 5 := by
  have h := grd_of (n := 3) (L := natP P1) (k := 2) (by decide) lgA
  rw [lgB] at h
  exact h.symm
set_option maxRecDepth 100000 in
theorem lg1 : resL 3 P1 (natI (bl (grd (3 : Int).toNat (natP P1)))) = [0, 2] ∧ resE 3 P1 = 0 := by rw [lg]; decide +kernel
set_option maxRecDepth 100000 in
theorem lg2 {k e : Int} (h : StepsIs 3 P1 2 k e) : k = 2 ∧ e = 0 := by
  unfold StepsIs at h
  rw [if_pos (by decide +kernel), lg, if_pos (by decide +kernel)] at h
  obtain ⟨rfl, m, rfl, h1, h2⟩ := h
  refine ⟨?_, rfl⟩
  have e0 : (stp (3 : Int).toNat (natP P1) 0).testBit (2 : Int).toNat = false := by decide +kernel
  have e1 : (stp (3 : Int).toNat (natP P1) 1).testBit (2 : Int).toNat = false := by decide +kernel
  have e2 : (stp (3 : Int).toNat (natP P1) 2).testBit (2 : Int).toNat = true := by decide +kernel
  rcases Nat.lt_trichotomy m 2 with h | h | h
  · rcases (show m = 0 ∨ m = 1 by omega) with rfl | rfl
    · rw [e0] at h1; cases h1
    · rw [e1] at h1; cases h1
  · rw [h]; rfl
  · have := h2 2 h; rw [e2] at this; cases this
set_option maxRecDepth 100000 in
theorem lg3 : resG 2 P2 (lists (prefs (2 : Int).toNat (natP P2))) = [[0], [1]] ∧ resE 2 P2 = 0 := by decide +kernel
set_option maxRecDepth 100000 in
theorem lg4 {xs : List Int} {e : Int} (h : OddIs 3 P3 xs e) : xs = [0, 1, 2] ∧ e = 0 := by
  unfold OddIs at h
  rw [if_pos (by decide +kernel)] at h
  have e1 : ∀ s, s < 3 → clo (natP P3) 1 s = false := by decide +kernel
  have e3 : clo (natP P3) 3 0 = true := by decide +kernel
  rcases h with ⟨rfl, l, s, h1, h2, h3, h4, h5, h6, rfl⟩ | ⟨_, _, h⟩
  · have h2' : l ≤ 3 := h2
    rcases (show l = 1 ∨ l = 3 by omega) with rfl | rfl
    · rw [e1 s h3] at h4; cases h4
    · have hs : s = 0 := by
        rcases Nat.eq_zero_or_pos s with h | h
        · exact h
        · have := h6 0 h; rw [e3] at this; cases this
      subst hs
      exact ⟨by decide +kernel, rfl⟩
  · have := h 3 (by decide) rfl 0 (by decide)
    rw [e3] at this; cases this
theorem hsame1 (W : World) (v : Value) (h : Reads W v [0, 2]) : Calls Tryd.prog 23 #[v, .slice (some ⟨W.heap.size, 0, none⟩) 2 2] (W.alloc (.cells #[.int .i64 0, .int .i64 2] 3)) fun e w' => e = .returned (.bool true) ∧ Below (W.alloc (.cells #[.int .i64 0, .int .i64 2] 3)).heap.size (W.alloc (.cells #[.int .i64 0, .int .i64 2] 3)) w' :=
  same23 (h.below (below_alloc1 _ _)) (reads_new W [0, 2]) (by simp)
theorem hsame3 (W : World) (v : Value) (h : Reads W v [0, 1, 2]) : Calls Tryd.prog 23 #[v, .slice (some ⟨W.heap.size, 0, none⟩) 3 3] (W.alloc (.cells #[.int .i64 0, .int .i64 1, .int .i64 2] 3)) fun e w' => e = .returned (.bool true) ∧ Below (W.alloc (.cells #[.int .i64 0, .int .i64 1, .int .i64 2] 3)).heap.size (W.alloc (.cells #[.int .i64 0, .int .i64 1, .int .i64 2] 3)) w' :=
  same23 (h.below (below_alloc1 _ _)) (reads_new W [0, 1, 2]) (by simp)
abbrev W3 (W : World) : World := ((W.alloc (.cells #[.int .i64 0] 3)).alloc (.cells #[.int .i64 1] 3)).alloc (.cells #[.slice (some ⟨W.heap.size, 0, none⟩) 1 1, .slice (some ⟨W.heap.size + 1, 0, none⟩) 1 1] 24)
theorem below_W3 (W : World) : Below W.heap.size W (W3 W) := (((Below.refl _ _).alloc (Nat.le_refl _) _).alloc (by simp) _).alloc (by simp; omega) _
theorem below3 {W W' : World} (h : Below (W3 W).heap.size (W3 W) W') : Below W.heap.size W W' := (below_W3 W).trans (h.mono (below_W3 W).size)
theorem getD1 (j : Nat) : (([[0], [1]] : List (List Int)).getD j []).length ≤ 1000000 := by
  match j with
  | 0 => simp
  | 1 => simp
  | j + 2 => simp
theorem hsame2 (W : World) (v : Value) (h : ReadsG W v [[0], [1]]) : Calls Tryd.prog 29 #[v, .slice (some ⟨W.heap.size + 1 + 1, 0, none⟩) 2 2] (W3 W) fun e w' => e = .returned (.bool true) ∧ Below (W3 W).heap.size (W3 W) w' := by
  have h1 := (reads_new W [0]).below (below_alloc1 _ (.cells #[.int .i64 1] 3))
  have h2 := reads_new (W.alloc (.cells #[.int .i64 0] 3)) [1]
  rw [World.size_alloc] at h2
  have h3 := readsG_new2 _ h1 h2
  rw [World.size_alloc, World.size_alloc] at h3
  exact refSame29 (h.below (below_W3 W)) h3 (by simp) getD1 getD1
set_option maxHeartbeats 4000000 in
set_option maxRecDepth 100000 in
theorem lives20 {w : World} (hT : Tab w) : Calls Tryd.prog 20 #[] w (BoolEnd w true) := by
  have hT' := Lib.hid hT
  clear hT
  have hp1 := Lib.hid (readsP_new w P1)
  have hb0 := Lib.hid (below_alloc1 w (.cells (flat encP P1).toArray 58))
  have hg := Lib.hid (show Calls Tryd.prog 17 #[.int .i64 3, .slice (some ⟨w.heap.size, 0, none⟩) 2 2] (w.alloc (.cells (flat encP P1).toArray 58)) (MadeE (w.alloc (.cells (flat encP P1).toArray 58)) [0, 2] 0) from by
    have := granted17 (hT'.out.call hb0.out) (n := 3) hp1.out (by simp)
    rw [lg1.1, lg1.2] at this
    exact this)
  have hs := Lib.hid (fun (W : World) (h : Below (w.alloc (.cells (flat encP P1).toArray 58)).heap.size (w.alloc (.cells (flat encP P1).toArray 58)) W) => show Calls Tryd.prog 18 #[.int .i64 3, .slice (some ⟨w.heap.size, 0, none⟩) 2 2, .int .i64 2] W (fun e w' => e = .returned (.tuple #[.int .i64 2, .int .i64 0]) ∧ Below W.heap.size W w') from
    (steps18 (hT'.out.call (below_call hb0.out h)) (n := 3) (c := 2) (hp1.out.below h) (by simp)).mono (by
      rintro e w' ⟨k, r, he, hk, hb⟩
      have h2 := lg2 hk.out
      rw [h2.1, h2.2] at he
      exact ⟨he, hb⟩))
  have hpr := Lib.hid (fun (W : World) (h : Below w.heap.size w W) => show Calls Tryd.prog 25 #[.int .i64 2, .slice (some ⟨W.heap.size, 0, none⟩) 2 2] (W.alloc (.cells (flat encP P2).toArray 58)) (MadeG (W.alloc (.cells (flat encP P2).toArray 58)) [[0], [1]] 0) from by
    have := preferred25 (hT'.out.call (below_call h (below_alloc1 W (.cells (flat encP P2).toArray 58)))) (n := 2) (readsP_new W P2) (by simp)
    rw [lg3.1, lg3.2] at this
    exact this)
  have hod := Lib.hid (fun (W : World) (h : Below w.heap.size w W) => show Calls Tryd.prog 41 #[.int .i64 3, .slice (some ⟨W.heap.size, 0, none⟩) 3 3] (W.alloc (.cells (flat encP P3).toArray 58)) (MadeE (W.alloc (.cells (flat encP P3).toArray 58)) [0, 1, 2] 0) from
    (odd41 (hT'.out.call (below_call h (below_alloc1 W (.cells (flat encP P3).toArray 58)))) (n := 3) (readsP_new W P3) (by simp)).mono (by
      rintro e w' ⟨v, err, xs, rfl, hi, ho, hb⟩
      obtain ⟨rfl, rfl⟩ := lg4 ho.out
      exact ⟨v, rfl, hi, hb⟩))
  clear hp1
  go_enter Tryd.func20, Tryd.ntmps20
  go_wp2_with (first
      | (go_at_call 17; refine (hg.out).mono ?_; rintro e w1 ⟨v1, rfl, hi1, hb1⟩; have hi1' := Lib.hid hi1; have hb1' := Lib.hid hb1; clear hi1 hb1)
      | (go_at_call 18; refine (hs.out _ hb1'.out).mono ?_; rintro e w2 ⟨rfl, hb2⟩; have hi2' := Lib.hid (hi1'.out.below hb2); have hb2' := Lib.hid ((below_call hb0.out hb1'.out).trans (hb2.mono (Nat.le_trans hb0.out.size hb1'.out.size))); clear hb2)
      | (go_at_call 25; refine (hpr.out _ hb2'.out).mono ?_; rintro e w3 ⟨v3, rfl, hi3, hb3⟩; have hi3' := Lib.hid hi3; have hba3 := Lib.hid ((below_alloc1 w2 _).trans (hb3.mono (below_alloc1 w2 _).size)); have hb3' := Lib.hid (below_call hb2'.out hba3.out); have hg3 := Lib.hid (hi2'.out.below hba3.out); clear hi3 hb3)
      | (go_at_call 41; refine (hod.out _ hb3'.out).mono ?_; rintro e w4 ⟨v4, rfl, hi4, hb4⟩; have hi4' := Lib.hid hi4; have hba4 := Lib.hid ((below_alloc1 w3 _).trans (hb4.mono (below_alloc1 w3 _).size)); have hb4' := Lib.hid (below_call hb3'.out hba4.out); have hg4 := Lib.hid (hg3.out.below hba4.out); have hp4 := Lib.hid (hi3'.out.below hba4.out); have hsA := Lib.hid (hsame1 w4 v1 hg4.out.shape); clear hi4 hb4)
      | (go_at_call 23; refine (hsA.out).mono ?_; rintro e w5 ⟨rfl, hb5⟩; have hba5 := Lib.hid ((below_alloc1 w4 _).trans (hb5.mono (below_alloc1 w4 _).size)); have hb5' := Lib.hid (below_call hb4'.out hba5.out); have hp5 := Lib.hid (hp4.out.below hba5.out); have hi5 := Lib.hid (hi4'.out.below hba5.out); have hsG := Lib.hid (hsame2 w5 v3 hp5.out.shape); clear hb5 hsA)
      | (go_at_call 29; refine (hsG.out).mono ?_; rintro e w6 ⟨rfl, hb6⟩; have hba6 := Lib.hid (below3 hb6); have hb6' := Lib.hid (below_call hb5'.out hba6.out); have hi6 := Lib.hid (hi5.out.below hba6.out); have hsC := Lib.hid (hsame3 w6 v4 hi6.out.shape); clear hb6 hsG)
      | (go_at_call 23; refine (hsC.out).mono ?_; rintro e w7 ⟨rfl, hb7⟩; have hb7' := Lib.hid (below_call hb6'.out ((below_alloc1 w6 _).trans (hb7.mono (below_alloc1 w6 _).size))); clear hb7 hsC))
  go_ret
  exact ⟨rfl, hb7'.out⟩
end Go.Proofs.YtpcjigdmfchbdaaDoor
