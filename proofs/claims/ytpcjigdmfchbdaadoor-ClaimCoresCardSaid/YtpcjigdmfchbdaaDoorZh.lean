import Derived.Test.YtpcjigdmfchbdaaDoorZg
namespace Go.Proofs.YtpcjigdmfchbdaaDoor
open Go.RowKit Go.Shelf Cl

theorem mem_lists {l : List Nat} {x : List Int} : x ∈ lists l ↔ ∃ S ∈ l, x = natI (bl S) := by
  unfold lists
  rw [(srt_perm _).mem_iff, List.mem_map]
  exact ⟨fun ⟨S, h, e⟩ => ⟨S, h, e.symm⟩, fun ⟨S, h, e⟩ => ⟨S, h, e.symm⟩⟩
theorem lists_len (l : List Nat) : (lists l).length = l.length := by
  unfold lists
  rw [(srt_perm _).length_eq, List.length_map]
theorem lists_row (l : List Nat) (j : Nat) : ((lists l).getD j []).length ≤ 1000000 := by
  rw [List.getD_eq_getElem?_getD]
  cases e : (lists l)[j]? with
  | none => simp
  | some x =>
    obtain ⟨S, _, rfl⟩ := mem_lists.1 (List.mem_of_getElem? e)
    have := natI_len S
    show (natI (bl S)).length ≤ _
    omega
theorem some_lists {a b : List Nat} (h : ∀ x ∈ a, x ∈ b) : someB (lists a) (lists b) = true := by
  unfold someB
  rw [List.all_eq_true]
  intro x hx
  obtain ⟨S, hS, rfl⟩ := mem_lists.1 hx
  rw [List.any_eq_true]
  exact ⟨_, mem_lists.2 ⟨S, h S hS, rfl⟩, sameL_self _⟩
theorem resG_made {sz : Nat} {L : Atts} {xs : List (List Int)} (h : vldB (sz : Int) (toI L) = true) : resG (sz : Int) (toI L) xs = xs := by unfold resG; rw [if_pos h]
theorem resE_made {sz : Nat} {L : Atts} (h : vldB (sz : Int) (toI L) = true) : resE (sz : Int) (toI L) = 0 := by unfold resE; rw [if_pos h]
theorem toI_len (L : Atts) : (toI L).length = L.length := by unfold toI; rw [List.length_map]

theorem stableM {w : World} (hT : Tab w) {sz : Nat} {L : Atts} {B : Nat} {v : Value} (hv : vldB (sz : Int) (toI L) = true) (hp : OwnP w B v (toI L)) :
    Calls Tryd.prog 26 #[.int .i64 (sz : Int), v] w (MadeG w (lists (stables sz L)) 0) := by
  have hl : (toI L).length ≤ 1000000 := by have := (vld_ok hv).2.2.2; omega
  have h := stable26 hT (n := (sz : Int)) hp.reads hl
  rw [resG_made hv, resE_made hv, Int.toNat_natCast, natP_toI] at h
  exact h
theorem semiM {w : World} (hT : Tab w) {sz : Nat} {L : Atts} {B : Nat} {v : Value} (hv : vldB (sz : Int) (toI L) = true) (hp : OwnP w B v (toI L)) :
    Calls Tryd.prog 28 #[.int .i64 (sz : Int), v] w (MadeG w (lists (semis sz L)) 0) := by
  have hl : (toI L).length ≤ 1000000 := by have := (vld_ok hv).2.2.2; omega
  have h := semi28 hT (n := (sz : Int)) hp.reads hl
  rw [resG_made hv, resE_made hv, Int.toNat_natCast, natP_toI] at h
  exact h
theorem preferredM {w : World} (hT : Tab w) {sz : Nat} {L : Atts} {B : Nat} {v : Value} (hv : vldB (sz : Int) (toI L) = true) (hp : OwnP w B v (toI L)) :
    Calls Tryd.prog 25 #[.int .i64 (sz : Int), v] w (MadeG w (lists (prefs sz L)) 0) := by
  have hl : (toI L).length ≤ 1000000 := by have := (vld_ok hv).2.2.2; omega
  have h := preferred25 hT (n := (sz : Int)) hp.reads hl
  rw [resG_made hv, resE_made hv, Int.toNat_natCast, natP_toI] at h
  exact h
theorem completeM {w : World} (hT : Tab w) {sz : Nat} {L : Atts} {B : Nat} {v : Value} (hv : vldB (sz : Int) (toI L) = true) (hp : OwnP w B v (toI L)) :
    Calls Tryd.prog 27 #[.int .i64 (sz : Int), v] w (MadeG w (lists (coms sz L)) 0) := by
  have hl : (toI L).length ≤ 1000000 := by have := (vld_ok hv).2.2.2; omega
  have h := complete27 hT (n := (sz : Int)) hp.reads hl
  rw [resG_made hv, resE_made hv, Int.toNat_natCast, natP_toI] at h
  exact h
set_option maxRecDepth 100000 in
set_option maxHeartbeats 4000000 in
theorem walk11 {w : World} (hT : Tab w) {n : Nat} {v : Value} {xs : List (Nat × Nat)} (hn : n < 256) (hx : InDuo w v xs) :
    Calls Tryd.prog 11 #[.int .u8 (n : Int), v] w fun e w' => e = .returned (.bool true) ∧ Below w.heap.size w w' := by
  have hT' := Lib.hid hT
  have hm := Lib.hid (show Calls Tryd.prog 43 #[.int .u8 (n : Int), v, .int .i64 12] w (MadeD w (szM n 12) (mkL (szM n 12) xs)) from made43 (most := 12) hn (by omega) (by omega) hx)
  have hs12 : szM n 12 ≤ 12 := by unfold szM; omega
  have hs1 : 1 ≤ szM n 12 := by unfold szM; omega
  have hv := mk_vld hs1 hs12 xs
  have hL := mkL_within (sz := szM n 12) (by omega) xs
  clear hT hx
  generalize szM n 12 = sz at hm hs12 hs1 hv hL
  generalize mkL sz xs = L at hm hv hL
  have h1 := Lib.hid (fun (W : World) (v : Value) (h : Below w.heap.size w W) (hp : OwnP W w.heap.size v (toI L)) => stableM (hT'.out.call h) hv hp)
  have h2 := Lib.hid (fun (W : World) (v : Value) (h : Below w.heap.size w W) (hp : OwnP W w.heap.size v (toI L)) => semiM (hT'.out.call h) hv hp)
  have h3 := Lib.hid (fun (W : World) (v : Value) (h : Below w.heap.size w W) (hp : OwnP W w.heap.size v (toI L)) => preferredM (hT'.out.call h) hv hp)
  have h4 := Lib.hid (fun (W : World) (v : Value) (h : Below w.heap.size w W) (hp : OwnP W w.heap.size v (toI L)) => completeM (hT'.out.call h) hv hp)
  have hl1 : (stables sz L).length ≤ 4096 := sets_len hs12
  have hl2 : (semis sz L).length ≤ 4096 := grt_len (sets_len hs12)
  have hl3 : (prefs sz L).length ≤ 4096 := grt_len (sets_len hs12)
  have hl4 : (coms sz L).length ≤ 4096 := sets_len hs12
  obtain ⟨M, hM⟩ := semis_some hs12 hL
  obtain ⟨P, hP⟩ := prefs_some L hs12
  have hp2 : 0 < (semis sz L).length := List.length_pos_of_mem hM
  have hp3 : 0 < (prefs sz L).length := List.length_pos_of_mem hP
  have e12 := some_lists (fun x hx => sta_semi hs12 hL (S := x) hx)
  have e23 := some_lists (fun x hx => semi_pref (L := L) hs12 (S := x) hx)
  have e34 := some_lists (fun x hx => pref_com (n := sz) (L := L) (S := x) hx)
  have heq : (stables sz L).length = 0 ∨ (0 < (stables sz L).length ∧ (lists (stables sz L) == lists (semis sz L)) = true) := by
    rcases Nat.eq_zero_or_pos (stables sz L).length with h | h
    · exact .inl h
    · right
      refine ⟨h, ?_⟩
      obtain ⟨T, hT⟩ := List.exists_mem_of_length_pos h
      rw [stables_eq hs12 hL hT, beq_iff_eq]
  rw [← lists_len] at hl1 hl2 hl3 hl4 hp2 hp3
  have r1 := lists_row (stables sz L)
  have r2 := lists_row (semis sz L)
  have r3 := lists_row (prefs sz L)
  have q1 := lists_len (stables sz L)
  rw [← q1] at heq
  clear hM hP q1 hv hL
  generalize lists (stables sz L) = A1 at h1 hl1 e12 heq r1
  generalize lists (semis sz L) = A2 at h2 hl2 hp2 e12 e23 heq r2
  generalize lists (prefs sz L) = A3 at h3 hl3 hp3 e23 e34 r3
  generalize lists (coms sz L) = A4 at h4 hl4 e34
  have hc12 := Lib.hid (fun (W : World) (u v : Value) (hu : ReadsG W u A1) (hv : ReadsG W v A2) => show Calls Tryd.prog 45 #[u, v] W (BoolEnd W true) from by rw [← e12]; exact some45 hu hv (by omega) (by omega) r1)
  have hc23 := Lib.hid (fun (W : World) (u v : Value) (hu : ReadsG W u A2) (hv : ReadsG W v A3) => show Calls Tryd.prog 45 #[u, v] W (BoolEnd W true) from by rw [← e23]; exact some45 hu hv (by omega) (by omega) r2)
  have hc34 := Lib.hid (fun (W : World) (u v : Value) (hu : ReadsG W u A3) (hv : ReadsG W v A4) => show Calls Tryd.prog 45 #[u, v] W (BoolEnd W true) from by rw [← e34]; exact some45 hu hv (by omega) (by omega) r3)
  have hsm := Lib.hid (fun (h : (A1 == A2) = true) (W : World) (u v : Value) (hu : ReadsG W u A1) (hv : ReadsG W v A2) => show Calls Tryd.prog 29 #[u, v] W (BoolEnd W true) from by rw [← h]; exact refSame29 hu hv (by omega) r1 r2)
  have hli := Lib.hid (fun (W : World) (h : Below w.heap.size w W) => lives20 (hT'.out.call h))
  clear e12 e23 e34 r1 r2 r3 hl1 hl2 hl3 hl4
  have hp2' : (0 : Int) < A2.length := by omega
  have hp3' : (0 : Int) < A3.length := by omega
  obtain ⟨m1, hm1⟩ : ∃ m, m = A1.length := ⟨_, rfl⟩
  obtain ⟨m2, hm2⟩ : ∃ m, m = A2.length := ⟨_, rfl⟩
  obtain ⟨m3, hm3⟩ : ∃ m, m = A3.length := ⟨_, rfl⟩
  rw [← hm1] at heq
  rw [← hm2] at hp2 hp2'
  rw [← hm3] at hp3 hp3'
  have hm1' := Lib.hid hm1
  have hm2' := Lib.hid hm2
  have hm3' := Lib.hid hm3
  clear hm1 hm2 hm3
  rcases heq with hz | ⟨hz, hsame⟩

  · subst hz
    clear hsm
    go_enter Tryd.func11, Tryd.ntmps11
    go_wp2_with (first
      | (go_at_call 43; refine (hm.out).mono ?_; rintro e w1 ⟨v1, rfl, ho, hb⟩; have ho1 := Lib.hid ho; have hb1 := Lib.hid hb; clear ho hb hm)
      | (go_at_call 26; refine (h1.out _ _ hb1.out ho1.out).mono ?_; rintro e w2 ⟨v2, rfl, ho, hb⟩; obtain ⟨a1, c1, rfl, -⟩ := id ho.shape; rw [← hm1'.out] at ho ⊢; have hA1 := Lib.hid ho; have hb2 := Lib.hid (below_call hb1.out hb); have ho2 := Lib.hid (ho1.out.below hb); clear ho hb h1)
      | (go_at_call 28; refine (h2.out _ _ hb2.out ho2.out).mono ?_; rintro e w3 ⟨v3, rfl, ho, hb⟩; obtain ⟨a2, c2, rfl, -⟩ := id ho.shape; rw [← hm2'.out] at ho ⊢; have hA2 := Lib.hid ho; have hb3 := Lib.hid (below_call hb2.out hb); have ho3 := Lib.hid (ho2.out.below hb); have hA1b := Lib.hid (hA1.out.below hb); clear ho hb h2)
      | (go_at_call 25; refine (h3.out _ _ hb3.out ho3.out).mono ?_; rintro e w4 ⟨v4, rfl, ho, hb⟩; obtain ⟨a3, c3, rfl, -⟩ := id ho.shape; rw [← hm3'.out] at ho ⊢; have hA3 := Lib.hid ho; have hb4 := Lib.hid (below_call hb3.out hb); have ho4 := Lib.hid (ho3.out.below hb); have hA1c := Lib.hid (hA1b.out.below hb); have hA2c := Lib.hid (hA2.out.below hb); clear ho hb h3)
      | (go_at_call 27; refine (h4.out _ _ hb4.out ho4.out).mono ?_; rintro e w5 ⟨v5, rfl, ho, hb⟩; obtain ⟨a4, c4, rfl, -⟩ := id ho.shape; have hA4 := Lib.hid ho; have hb5 := Lib.hid (below_call hb4.out hb); have hA1d := Lib.hid (hA1c.out.below hb); have hA2d := Lib.hid (hA2c.out.below hb); have hA3d := Lib.hid (hA3.out.below hb); clear ho hb h4)
      | (go_at_call 45; refine (hc12.out _ _ _ hA1d.out.shape hA2d.out.shape).mono ?_; rintro e w6 ⟨rfl, hb⟩; have hb6 := Lib.hid (below_call hb5.out hb); have hA1e := Lib.hid (hA1d.out.below hb); have hA2e := Lib.hid (hA2d.out.below hb); have hA3e := Lib.hid (hA3d.out.below hb); have hA4e := Lib.hid (hA4.out.below hb); clear hb hc12)
      | (go_at_call 45; refine (hc23.out _ _ _ hA2e.out.shape hA3e.out.shape).mono ?_; rintro e w7 ⟨rfl, hb⟩; have hb7 := Lib.hid (below_call hb6.out hb); have hA1f := Lib.hid (hA1e.out.below hb); have hA2f := Lib.hid (hA2e.out.below hb); have hA3f := Lib.hid (hA3e.out.below hb); have hA4f := Lib.hid (hA4e.out.below hb); clear hb hc23)
      | (go_at_call 45; refine (hc34.out _ _ _ hA3f.out.shape hA4f.out.shape).mono ?_; rintro e w8 ⟨rfl, hb⟩; have hb8 := Lib.hid (below_call hb7.out hb); have hA1g := Lib.hid (hA1f.out.below hb); have hA2g := Lib.hid (hA2f.out.below hb); clear hb hc34)
      | (go_at_call 20; refine (hli.out _ hb8.out).mono ?_; rintro e w9 ⟨rfl, hb⟩; have hb9 := Lib.hid (below_call hb8.out hb); clear hb))
    go_ret
    exact ⟨rfl, hb9.out⟩
  · have hzI : ¬ (m1 : Int) = 0 := by omega
    have hsm2 := Lib.hid (fun (W : World) (u v : Value) (hu : ReadsG W u A1) (hv : ReadsG W v A2) => hsm.out hsame W u v hu hv)
    clear hsm hsame
    go_enter Tryd.func11, Tryd.ntmps11
    go_wp2_with (first
      | (go_at_call 43; refine (hm.out).mono ?_; rintro e w1 ⟨v1, rfl, ho, hb⟩; have ho1 := Lib.hid ho; have hb1 := Lib.hid hb; clear ho hb hm)
      | (go_at_call 26; refine (h1.out _ _ hb1.out ho1.out).mono ?_; rintro e w2 ⟨v2, rfl, ho, hb⟩; obtain ⟨a1, c1, rfl, -⟩ := id ho.shape; rw [← hm1'.out] at ho ⊢; have hA1 := Lib.hid ho; have hb2 := Lib.hid (below_call hb1.out hb); have ho2 := Lib.hid (ho1.out.below hb); clear ho hb h1)
      | (go_at_call 28; refine (h2.out _ _ hb2.out ho2.out).mono ?_; rintro e w3 ⟨v3, rfl, ho, hb⟩; obtain ⟨a2, c2, rfl, -⟩ := id ho.shape; rw [← hm2'.out] at ho ⊢; have hA2 := Lib.hid ho; have hb3 := Lib.hid (below_call hb2.out hb); have ho3 := Lib.hid (ho2.out.below hb); have hA1b := Lib.hid (hA1.out.below hb); clear ho hb h2)
      | (go_at_call 25; refine (h3.out _ _ hb3.out ho3.out).mono ?_; rintro e w4 ⟨v4, rfl, ho, hb⟩; obtain ⟨a3, c3, rfl, -⟩ := id ho.shape; rw [← hm3'.out] at ho ⊢; have hA3 := Lib.hid ho; have hb4 := Lib.hid (below_call hb3.out hb); have ho4 := Lib.hid (ho3.out.below hb); have hA1c := Lib.hid (hA1b.out.below hb); have hA2c := Lib.hid (hA2.out.below hb); clear ho hb h3)
      | (go_at_call 27; refine (h4.out _ _ hb4.out ho4.out).mono ?_; rintro e w5 ⟨v5, rfl, ho, hb⟩; obtain ⟨a4, c4, rfl, -⟩ := id ho.shape; have hA4 := Lib.hid ho; have hb5 := Lib.hid (below_call hb4.out hb); have hA1d := Lib.hid (hA1c.out.below hb); have hA2d := Lib.hid (hA2c.out.below hb); have hA3d := Lib.hid (hA3.out.below hb); clear ho hb h4)
      | (go_at_call 45; refine (hc12.out _ _ _ hA1d.out.shape hA2d.out.shape).mono ?_; rintro e w6 ⟨rfl, hb⟩; have hb6 := Lib.hid (below_call hb5.out hb); have hA1e := Lib.hid (hA1d.out.below hb); have hA2e := Lib.hid (hA2d.out.below hb); have hA3e := Lib.hid (hA3d.out.below hb); have hA4e := Lib.hid (hA4.out.below hb); clear hb hc12)
      | (go_at_call 45; refine (hc23.out _ _ _ hA2e.out.shape hA3e.out.shape).mono ?_; rintro e w7 ⟨rfl, hb⟩; have hb7 := Lib.hid (below_call hb6.out hb); have hA1f := Lib.hid (hA1e.out.below hb); have hA2f := Lib.hid (hA2e.out.below hb); have hA3f := Lib.hid (hA3e.out.below hb); have hA4f := Lib.hid (hA4e.out.below hb); clear hb hc23)
      | (go_at_call 45; refine (hc34.out _ _ _ hA3f.out.shape hA4f.out.shape).mono ?_; rintro e w8 ⟨rfl, hb⟩; have hb8 := Lib.hid (below_call hb7.out hb); have hA1g := Lib.hid (hA1f.out.below hb); have hA2g := Lib.hid (hA2f.out.below hb); clear hb hc34)
      | (go_at_call 29; refine (hsm2.out _ _ _ hA1g.out.shape hA2g.out.shape).mono ?_; rintro e w9 ⟨rfl, hb⟩; have hb9 := Lib.hid (below_call hb8.out hb); clear hb)
      | (go_at_call 20; refine (hli.out _ hb9.out).mono ?_; rintro e w10 ⟨rfl, hb⟩; have hb10 := Lib.hid (below_call hb9.out hb); clear hb))
    go_ret
    exact ⟨rfl, hb10.out⟩
end Go.Proofs.YtpcjigdmfchbdaaDoor
