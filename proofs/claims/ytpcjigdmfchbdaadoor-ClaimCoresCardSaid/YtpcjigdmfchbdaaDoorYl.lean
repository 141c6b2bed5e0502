import Derived.Test.YtpcjigdmfchbdaaDoorYq
namespace Go.Proofs.YtpcjigdmfchbdaaDoor
open Go.RowKit Go.Shelf Cl
attribute [local go_sem] Oper.semAt_some

theorem toI_natP {n : Int} {ps : List (Int × Int)} (h : vldB n ps = true) : toI (natP ps) = ps := by
  unfold vldB at h
  simp only [Bool.and_eq_true, List.all_eq_true] at h
  unfold toI natP
  rw [List.map_map]
  conv => rhs; rw [← List.map_id ps]
  apply List.map_congr_left
  intro p hp
  have := h.2 p hp
  unfold okP at this
  simp only [Bool.and_eq_true, decide_eq_true_eq] at this
  obtain ⟨⟨⟨h1, h2⟩, _⟩, _⟩ := this
  show (((p.1.toNat : Nat) : Int), ((p.2.toNat : Nat) : Int)) = p
  rw [Int.toNat_of_nonneg h1, Int.toNat_of_nonneg h2]
theorem vld_nat {n : Int} {ps : List (Int × Int)} (h : vldB n ps = true) : ∃ sz : Nat, n = (sz : Int) ∧ vldB (sz : Int) (toI (natP ps)) = true := by
  have h1 := (vld_ok h).2.1
  refine ⟨n.toNat, by omega, ?_⟩
  rw [toI_natP h, show ((n.toNat : Nat) : Int) = n by omega]; exact h
theorem OwnG.zero {w : World} {B : Nat} {v : Value} (h : OwnG w B v []) : ∃ ao c, v = .slice ao 0 c := by
  obtain ⟨ao, c, e, _⟩ := h.shape
  exact ⟨ao, c, e⟩
theorem own_take {w : World} {B : Nat} {v : Value} {ps : List (Int × Int)} (h : OwnP w B v (ps.take 41)) : ReadsP w v (ps.take 41) ∧ (ps.take 41).length ≤ 1000000 := ⟨OwnP.reads h, by rw [List.length_take]; omega⟩
theorem kinds_eq {n : Nat} (L : Atts) (hn : n ≤ 12) : grt (sets n (admB n L)) id = prefs n L ∧ sets n (staB n L) = stables n L ∧ sets n (comB n L) = coms n L ∧ grt (sets n (comB n L)) (fun s => s ||| hit L s) = semis n L := ⟨prefs_eq L hn, rfl, rfl, rfl⟩
set_option maxRecDepth 100000 in
set_option maxHeartbeats 8000000 in
theorem walk4 {w : World} (hT : Tab w) {n : Int} {v : Value} {ps : List (Int × Int)} (hp : InPs w v ps) :
    Calls Tryd.prog 4 #[.int .i64 n, v] w fun e w' => e = .returned (.bool true) ∧ Below w.heap.size w w' := by
  have hT' := Lib.hid hT
  have hfew := Lib.hid (few16 hp)
  have hlen : (ps.take 41).length ≤ 1000000 := by rw [List.length_take]; omega
  have hli := Lib.hid (fun (W : World) (h : Below w.heap.size w W) => lives20 (hT'.out.call h))
  clear hp hT
  generalize ps.take 41 = qs at hfew hlen
  have hv19 := Lib.hid (fun (W : World) (v : Value) (h : OwnP W w.heap.size v qs) => valid19 (n := n) (OwnP.reads h) hlen)
  cases hv : vldB n qs
  · have hc : ∀ xs, resG n qs xs = [] := fun xs => by unfold resG; rw [hv]; rfl
    have he : resE n qs = 1 := by unfold resE; rw [hv]; rfl
    rw [hv] at hv19
    have h25 := Lib.hid (fun (W : World) (v : Value) (h : Below w.heap.size w W) (hp : OwnP W w.heap.size v qs) => show Calls Tryd.prog 25 #[.int .i64 n, v] W (MadeG W [] 1) from by
      have := preferred25 (hT'.out.call h) (n := n) (OwnP.reads hp) hlen
      rwa [hc, he] at this)
    have h26 := Lib.hid (fun (W : World) (v : Value) (h : Below w.heap.size w W) (hp : OwnP W w.heap.size v qs) => show Calls Tryd.prog 26 #[.int .i64 n, v] W (MadeG W [] 1) from by
      have := stable26 (hT'.out.call h) (n := n) (OwnP.reads hp) hlen
      rwa [hc, he] at this)
    have h27 := Lib.hid (fun (W : World) (v : Value) (h : Below w.heap.size w W) (hp : OwnP W w.heap.size v qs) => show Calls Tryd.prog 27 #[.int .i64 n, v] W (MadeG W [] 1) from by
      have := complete27 (hT'.out.call h) (n := n) (OwnP.reads hp) hlen
      rwa [hc, he] at this)
    have h28 := Lib.hid (fun (W : World) (v : Value) (h : Below w.heap.size w W) (hp : OwnP W w.heap.size v qs) => show Calls Tryd.prog 28 #[.int .i64 n, v] W (MadeG W [] 1) from by
      have := semi28 (hT'.out.call h) (n := n) (OwnP.reads hp) hlen
      rwa [hc, he] at this)
    clear hc he hv hlen
    go_enter Tryd.func4, Tryd.ntmps4
    go_wp2_with (first
      | (go_at_call 16; refine (hfew.out).mono ?_; rintro e w1 ⟨v1, rfl, ho, hb⟩; have ho1 := Lib.hid ho; have hb1 := Lib.hid hb; clear ho hb hfew)
      | (go_at_call 25; refine (h25.out _ _ hb1.out ho1.out).mono ?_; rintro e w2 ⟨v2, rfl, hz, hb⟩; obtain ⟨a2, c2, rfl⟩ := hz.zero; have hb2 := Lib.hid (below_call hb1.out hb); have ho2 := Lib.hid (own_below ho1.out hb); clear hz hb h25)
      | (go_at_call 26; refine (h26.out _ _ hb2.out ho2.out).mono ?_; rintro e w3 ⟨v3, rfl, hz, hb⟩; obtain ⟨a3, c3, rfl⟩ := hz.zero; have hb3 := Lib.hid (below_call hb2.out hb); have ho3 := Lib.hid (own_below ho2.out hb); clear hz hb h26)
      | (go_at_call 27; refine (h27.out _ _ hb3.out ho3.out).mono ?_; rintro e w4 ⟨v4, rfl, hz, hb⟩; obtain ⟨a4, c4, rfl⟩ := hz.zero; have hb4 := Lib.hid (below_call hb3.out hb); have ho4 := Lib.hid (own_below ho3.out hb); clear hz hb h27)
      | (go_at_call 28; refine (h28.out _ _ hb4.out ho4.out).mono ?_; rintro e w5 ⟨v5, rfl, hz, hb⟩; obtain ⟨a5, c5, rfl⟩ := hz.zero; have hb5 := Lib.hid (below_call hb4.out hb); have ho5 := Lib.hid (own_below ho4.out hb); clear hz hb h28)
      | (go_at_call 19; refine (hv19.out _ _ ho5.out).mono ?_; rintro e w6 ⟨rfl, hb⟩; have hb6 := Lib.hid (below_call hb5.out hb); clear hb hv19)
      | (go_at_call 20; refine (hli.out _ hb6.out).mono ?_; rintro e w7 ⟨rfl, hb⟩; have hb7 := Lib.hid (below_call hb6.out hb); clear hb hli))
    go_ret
    exact ⟨rfl, hb7.out⟩
  · obtain ⟨sz, rfl, hvI⟩ := vld_nat hv
    have hqe := toI_natP hv
    have hs12 : sz ≤ 12 := by have := (vld_ok hv).2.2.1; omega
    have hD := (vld_ok hvI).1
    rw [Int.toNat_natCast, natP_toI] at hD
    rw [hv] at hv19
    rw [← hqe] at hfew hv19 hlen
    generalize natP qs = L at hvI hD hfew hv19 hlen
    obtain ⟨e2, e3, e1, e4⟩ := kinds_eq L hs12
    have h25 := Lib.hid (fun (W : World) (v : Value) (h : Below w.heap.size w W) (hp : OwnP W w.heap.size v (toI L)) => preferredM (hT'.out.call h) hvI hp)
    have h26 := Lib.hid (fun (W : World) (v : Value) (h : Below w.heap.size w W) (hp : OwnP W w.heap.size v (toI L)) => stableM (hT'.out.call h) hvI hp)
    have h27 := Lib.hid (fun (W : World) (v : Value) (h : Below w.heap.size w W) (hp : OwnP W w.heap.size v (toI L)) => completeM (hT'.out.call h) hvI hp)
    have h28 := Lib.hid (fun (W : World) (v : Value) (h : Below w.heap.size w W) (hp : OwnP W w.heap.size v (toI L)) => semiM (hT'.out.call h) hvI hp)
    have h21 := Lib.hid (fun (W : World) (v : Value) (hp : OwnP W w.heap.size v (toI L)) => of21 (OwnP.reads hp) hvI)
    have h312 := Lib.hid (fun (W : World) (u : Value) (h : DisR W u sz L) => show Calls Tryd.prog 31 #[u, .int .i64 2] W (Made W (natI (prefs sz L))) from by rw [← e2]; exact sets31_2 h hD)
    have h313 := Lib.hid (fun (W : World) (u : Value) (h : DisR W u sz L) => show Calls Tryd.prog 31 #[u, .int .i64 3] W (Made W (natI (stables sz L))) from by rw [← e3]; exact sets31_3 h hD)
    have h311 := Lib.hid (fun (W : World) (u : Value) (h : DisR W u sz L) => show Calls Tryd.prog 31 #[u, .int .i64 1] W (Made W (natI (coms sz L))) from by rw [← e1]; exact sets31_1 h hD)
    have h314 := Lib.hid (fun (W : World) (u : Value) (h : DisR W u sz L) => show Calls Tryd.prog 31 #[u, .int .i64 4] W (Made W (natI (semis sz L))) from by rw [← e4]; exact sets31_4 h hD)
    have hx2 : (∀ S ∈ prefs sz L, S < 4096) ∧ (prefs sz L).length ≤ 4096 := ⟨grt_lt (sets_lt hs12), grt_len (sets_len hs12)⟩
    have hx3 : (∀ S ∈ stables sz L, S < 4096) ∧ (stables sz L).length ≤ 4096 := ⟨sets_lt hs12, sets_len hs12⟩
    have hx1 : (∀ S ∈ coms sz L, S < 4096) ∧ (coms sz L).length ≤ 4096 := ⟨sets_lt hs12, sets_len hs12⟩
    have hx4 : (∀ S ∈ semis sz L, S < 4096) ∧ (semis sz L).length ≤ 4096 := ⟨grt_lt (sets_lt hs12), grt_len (sets_len hs12)⟩
    generalize prefs sz L = Z2 at h25 h312 hx2
    generalize stables sz L = Z3 at h26 h313 hx3
    generalize coms sz L = Z1 at h27 h311 hx1
    generalize semis sz L = Z4 at h28 h314 hx4
    have h30 := Lib.hid (fun (W : World) (v : Value) (Z : List Nat) (hZ : (∀ S ∈ Z, S < 4096) ∧ Z.length ≤ 4096) (h : Reads W v (natI Z)) => refLists30 h hZ.1 (by have := hZ.2; omega))
    have h29 := Lib.hid (fun (W : World) (u v : Value) (l : List Nat) (hl : (∀ S ∈ l, S < 4096) ∧ l.length ≤ 4096) (hu : ReadsG W u (lists l)) (hv : ReadsG W v (lists l)) => show Calls Tryd.prog 29 #[u, v] W (BoolEnd W true) from by
      have := refSame29 hu hv (by rw [lists_len]; have := hl.2; omega) (lists_row l) (lists_row l)
      rwa [beq_self_eq_true] at this)
    have hZ2 := Lib.hid hx2
    have hZ3 := Lib.hid hx3
    have hZ1 := Lib.hid hx1
    have hZ4 := Lib.hid hx4
    clear hv hvI hD hqe hlen e1 e2 e3 e4 hx1 hx2 hx3 hx4 hs12 hT'
    go_enter Tryd.func4, Tryd.ntmps4
    go_upto_region 9 with (first
      | (go_at_call 16; refine (hfew.out).mono ?_; rintro e w1 ⟨v1, rfl, ho, hb⟩; have ho1 := Lib.hid ho; have hb1 := Lib.hid hb; clear ho hb hfew)
      | (go_at_call 25; refine (h25.out _ _ hb1.out ho1.out).mono ?_; rintro e w2 ⟨v2, rfl, hz, hb⟩; obtain ⟨a2, c2, rfl, -⟩ := id hz.shape; have hG2_2 := Lib.hid hz.shape; have hb2 := Lib.hid (below_call hb1.out hb); have ho2 := Lib.hid (own_below ho1.out hb); clear hz hb h25)
      | (go_at_call 26; refine (h26.out _ _ hb2.out ho2.out).mono ?_; rintro e w3 ⟨v3, rfl, hz, hb⟩; obtain ⟨a3, c3, rfl, -⟩ := id hz.shape; have hG3_3 := Lib.hid hz.shape; have hb3 := Lib.hid (below_call hb2.out hb); have ho3 := Lib.hid (own_below ho2.out hb); have hG2_3 := Lib.hid (hG2_2.out.below hb); clear hz hb h26)
      | (go_at_call 27; refine (h27.out _ _ hb3.out ho3.out).mono ?_; rintro e w4 ⟨v4, rfl, hz, hb⟩; obtain ⟨a4, c4, rfl, -⟩ := id hz.shape; have hG4_4 := Lib.hid hz.shape; have hb4 := Lib.hid (below_call hb3.out hb); have ho4 := Lib.hid (own_below ho3.out hb); have hG2_4 := Lib.hid (hG2_3.out.below hb); have hG3_4 := Lib.hid (hG3_3.out.below hb); clear hz hb h27)
      | (go_at_call 28; refine (h28.out _ _ hb4.out ho4.out).mono ?_; rintro e w5 ⟨v5, rfl, hz, hb⟩; obtain ⟨a5, c5, rfl, -⟩ := id hz.shape; have hG5_5 := Lib.hid hz.shape; have hb5 := Lib.hid (below_call hb4.out hb); have ho5 := Lib.hid (own_below ho4.out hb); have hG2_5 := Lib.hid (hG2_4.out.below hb); have hG3_5 := Lib.hid (hG3_4.out.below hb); have hG4_5 := Lib.hid (hG4_4.out.below hb); clear hz hb h28)
      | (go_at_call 19; refine (hv19.out _ _ ho5.out).mono ?_; rintro e w6 ⟨rfl, hb⟩; have hb6 := Lib.hid (below_call hb5.out hb); have ho6 := Lib.hid (own_below ho5.out hb); have hG2_6 := Lib.hid (hG2_5.out.below hb); have hG3_6 := Lib.hid (hG3_5.out.below hb); have hG4_6 := Lib.hid (hG4_5.out.below hb); have hG5_6 := Lib.hid (hG5_5.out.below hb); clear hb hv19)
      | (go_at_call 21; refine (h21.out _ _ ho6.out).mono ?_; rintro e w7 ⟨u7, rfl, hd, hb⟩; obtain ⟨x1, y1, x2, y2, rfl, hr1, hr2⟩ := hd; have hb7 := Lib.hid (below_call hb6.out hb); have hG2_7 := Lib.hid (hG2_6.out.below hb); have hG3_7 := Lib.hid (hG3_6.out.below hb); have hG4_7 := Lib.hid (hG4_6.out.below hb); have hG5_7 := Lib.hid (hG5_6.out.below hb); have hr1' := Lib.hid hr1; have hr2' := Lib.hid hr2; clear hb h21 hr1 hr2))
    obtain ⟨w8, hw8⟩ : ∃ w8, w8 = w7.alloc (.cells #[.int .i64 (sz : Int), .slice x1 sz y1, .slice x2 sz y2] 34) := ⟨_, rfl⟩
    obtain ⟨hb, hsz, k0, k1, k2⟩ := dis_box hw8
    rw [← hw8]
    have hb8 := Lib.hid (below_call hb7.out hb)
    have hG2_8 := Lib.hid (hG2_7.out.below hb)
    have hG3_8 := Lib.hid (hG3_7.out.below hb)
    have hG4_8 := Lib.hid (hG4_7.out.below hb)
    have hG5_8 := Lib.hid (hG5_7.out.below hb)
    have hdr8 := Lib.hid (show DisR w8 (.agg #[.int .i64 (sz : Int), .slice x1 sz y1, .slice x2 sz y2]) sz L from ⟨_, _, _, _, rfl, hr1'.out.below hb, hr2'.out.below hb⟩)
    have hdA8 := Lib.hid (show DisAt w8 w7.heap.size sz x1 y1 x2 y2 from ⟨k0, k1, k2⟩)
    generalize w7.heap.size = B7 at hdA8 k0 k1 k2 ⊢
    clear hw8 hb hsz hr1' hr2' hb7
    go_wp2_with (first
      | (go_at_call 31; refine (h312.out _ _ hdr8.out).mono ?_; rintro e w9 ⟨v9, rfl, ho, hb⟩; have hI9 := Lib.hid ho.shape; have hb9 := Lib.hid (below_call hb8.out hb); have hdr9 := Lib.hid (hdr8.out.below hb); have hdA9 := Lib.hid (hdA8.out.below hb); have hG2_9 := Lib.hid (hG2_8.out.below hb); have hG3_9 := Lib.hid (hG3_8.out.below hb); have hG4_9 := Lib.hid (hG4_8.out.below hb); have hG5_9 := Lib.hid (hG5_8.out.below hb); clear ho hb h312 k0 k1 k2)
      | (go_at_call 30; refine (h30.out _ _ _ hZ2.out hI9.out).mono ?_; rintro e w10 ⟨v10, rfl, ho, hb⟩; have hL10 := Lib.hid ho.shape; have hb10 := Lib.hid (below_call hb9.out hb); have hdr10 := Lib.hid (hdr9.out.below hb); have hdA10 := Lib.hid (hdA9.out.below hb); have hG2_10 := Lib.hid (hG2_9.out.below hb); have hG3_10 := Lib.hid (hG3_9.out.below hb); have hG4_10 := Lib.hid (hG4_9.out.below hb); have hG5_10 := Lib.hid (hG5_9.out.below hb); clear ho hb hI9)
      | (go_at_call 29; refine (h29.out _ _ _ _ hZ2.out hG2_10.out hL10.out).mono ?_; rintro e w11 ⟨rfl, hb⟩; have hb11 := Lib.hid (below_call hb10.out hb); have hdr11 := Lib.hid (hdr10.out.below hb); have hdA11 := Lib.hid (hdA10.out.below hb); obtain ⟨k0, k1, k2⟩ := hdA11.out; have hG3_11 := Lib.hid (hG3_10.out.below hb); have hG4_11 := Lib.hid (hG4_10.out.below hb); have hG5_11 := Lib.hid (hG5_10.out.below hb); clear hb hL10)
      | (go_at_call 31; refine (h313.out _ _ hdr11.out).mono ?_; rintro e w12 ⟨v12, rfl, ho, hb⟩; have hI12 := Lib.hid ho.shape; have hb12 := Lib.hid (below_call hb11.out hb); have hdr12 := Lib.hid (hdr11.out.below hb); have hdA12 := Lib.hid (hdA11.out.below hb); have hG3_12 := Lib.hid (hG3_11.out.below hb); have hG4_12 := Lib.hid (hG4_11.out.below hb); have hG5_12 := Lib.hid (hG5_11.out.below hb); clear ho hb h313 k0 k1 k2)
      | (go_at_call 30; refine (h30.out _ _ _ hZ3.out hI12.out).mono ?_; rintro e w13 ⟨v13, rfl, ho, hb⟩; have hL13 := Lib.hid ho.shape; have hb13 := Lib.hid (below_call hb12.out hb); have hdr13 := Lib.hid (hdr12.out.below hb); have hdA13 := Lib.hid (hdA12.out.below hb); have hG3_13 := Lib.hid (hG3_12.out.below hb); have hG4_13 := Lib.hid (hG4_12.out.below hb); have hG5_13 := Lib.hid (hG5_12.out.below hb); clear ho hb hI12)
      | (go_at_call 29; refine (h29.out _ _ _ _ hZ3.out hG3_13.out hL13.out).mono ?_; rintro e w14 ⟨rfl, hb⟩; have hb14 := Lib.hid (below_call hb13.out hb); have hdr14 := Lib.hid (hdr13.out.below hb); have hdA14 := Lib.hid (hdA13.out.below hb); obtain ⟨k0, k1, k2⟩ := hdA14.out; have hG4_14 := Lib.hid (hG4_13.out.below hb); have hG5_14 := Lib.hid (hG5_13.out.below hb); clear hb hL13)
      | (go_at_call 31; refine (h311.out _ _ hdr14.out).mono ?_; rintro e w15 ⟨v15, rfl, ho, hb⟩; have hI15 := Lib.hid ho.shape; have hb15 := Lib.hid (below_call hb14.out hb); have hdr15 := Lib.hid (hdr14.out.below hb); have hdA15 := Lib.hid (hdA14.out.below hb); have hG4_15 := Lib.hid (hG4_14.out.below hb); have hG5_15 := Lib.hid (hG5_14.out.below hb); clear ho hb h311 k0 k1 k2)
      | (go_at_call 30; refine (h30.out _ _ _ hZ1.out hI15.out).mono ?_; rintro e w16 ⟨v16, rfl, ho, hb⟩; have hL16 := Lib.hid ho.shape; have hb16 := Lib.hid (below_call hb15.out hb); have hdr16 := Lib.hid (hdr15.out.below hb); have hdA16 := Lib.hid (hdA15.out.below hb); have hG4_16 := Lib.hid (hG4_15.out.below hb); have hG5_16 := Lib.hid (hG5_15.out.below hb); clear ho hb hI15)
      | (go_at_call 29; refine (h29.out _ _ _ _ hZ1.out hG4_16.out hL16.out).mono ?_; rintro e w17 ⟨rfl, hb⟩; have hb17 := Lib.hid (below_call hb16.out hb); have hdr17 := Lib.hid (hdr16.out.below hb); have hdA17 := Lib.hid (hdA16.out.below hb); obtain ⟨k0, k1, k2⟩ := hdA17.out; have hG5_17 := Lib.hid (hG5_16.out.below hb); clear hb hL16)
      | (go_at_call 31; refine (h314.out _ _ hdr17.out).mono ?_; rintro e w18 ⟨v18, rfl, ho, hb⟩; have hI18 := Lib.hid ho.shape; have hb18 := Lib.hid (below_call hb17.out hb); have hdr18 := Lib.hid (hdr17.out.below hb); have hdA18 := Lib.hid (hdA17.out.below hb); have hG5_18 := Lib.hid (hG5_17.out.below hb); clear ho hb h314 k0 k1 k2)
      | (go_at_call 30; refine (h30.out _ _ _ hZ4.out hI18.out).mono ?_; rintro e w19 ⟨v19, rfl, ho, hb⟩; have hL19 := Lib.hid ho.shape; have hb19 := Lib.hid (below_call hb18.out hb); have hdr19 := Lib.hid (hdr18.out.below hb); have hdA19 := Lib.hid (hdA18.out.below hb); have hG5_19 := Lib.hid (hG5_18.out.below hb); clear ho hb hI18)
      | (go_at_call 29; refine (h29.out _ _ _ _ hZ4.out hG5_19.out hL19.out).mono ?_; rintro e w20 ⟨rfl, hb⟩; have hb20 := Lib.hid (below_call hb19.out hb); have hdr20 := Lib.hid (hdr19.out.below hb); have hdA20 := Lib.hid (hdA19.out.below hb); obtain ⟨k0, k1, k2⟩ := hdA20.out; clear hb hL19)
      | (go_at_call 20; refine (hli.out _ hb20.out).mono ?_; rintro e wZ ⟨rfl, hb⟩; have hbZ := Lib.hid (below_call hb20.out hb); clear hb hli))
    go_ret
    exact ⟨rfl, hbZ.out⟩
end Go.Proofs.YtpcjigdmfchbdaaDoor