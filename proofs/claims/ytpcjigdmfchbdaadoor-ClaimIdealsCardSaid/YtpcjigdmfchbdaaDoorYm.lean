import Derived.Test.YtpcjigdmfchbdaaDoorYl
namespace Go.Proofs.YtpcjigdmfchbdaaDoor
open Go.RowKit Go.Shelf Cl
attribute [local go_sem] Oper.semAt_some

theorem cm_lt {n : Nat} (hn : n ≤ 12) (l : List Nat) (k : Nat) : (l.take k).foldl (fun m s => m &&& s) (2 ^ n - 1) < 4096 := cmn_lt4 hn _
/-- The union so far. -/
def orK (C : Nat) (l : List Nat) (k : Nat) : Nat := (l.take k).foldl (fun m s => if C ||| s == C then m ||| s else m) 0
theorem orK_step {C : Nat} {l : List Nat} {k : Nat} (h : k < l.length) : orK C l (k + 1) = if C ||| l.getD k 0 == C then orK C l k ||| l.getD k 0 else orK C l k := by
  unfold orK
  rw [List.take_succ_eq_append_getElem h, List.foldl_append, List.getD_eq_getElem?_getD, List.getElem?_eq_getElem h]; rfl
theorem orK_lt {C : Nat} {l : List Nat} (h : ∀ s ∈ l, s < 4096) : ∀ k, orK C l k < 4096 := by
  intro k
  unfold orK
  exact fold_lt (n := 12) _ (fun s => C ||| s == C) id _ (by decide) fun s hs _ => h s (List.mem_of_mem_take hs)
theorem orK_all (C : Nat) (l : List Nat) : orK C l l.length = l.foldl (fun m s => if C ||| s == C then m ||| s else m) 0 := by unfold orK; rw [List.take_length]
set_option maxRecDepth 100000 in
set_option maxHeartbeats 8000000 in
theorem ideal33 {w : World} {u : Value} {n : Nat} {L : Atts} (hd : DisR w u n L) (hD : OkD n L) : Calls Tryd.prog 33 #[u] w (NumI w (idl n L)) := by
  have hn12 := hD.nn
  have h2 := Lib.hid (fun (W : World) (h : Below w.heap.size w W) => show Calls Tryd.prog 31 #[u, .int .i64 2] W (Made W (natI (prefs n L))) from by rw [← (kinds_eq L hn12).1]; exact sets31_2 (hd.below h) hD)
  have h0 := Lib.hid (fun (W : World) (h : Below w.heap.size w W) => sets31_0 (hd.below h) hD)
  obtain ⟨a, c, b, d, rfl, -, -⟩ := hd
  obtain ⟨W0, hW0⟩ : ∃ W0, W0 = w.alloc (.cells #[.int .i64 (n : Int), .slice a n c, .slice b n d] 34) := ⟨_, rfl⟩
  obtain ⟨hbA, hsz, k0, k1, k2⟩ := dis_box hW0
  have hbA' := Lib.hid hbA
  have hdA := Lib.hid (show DisAt W0 w.heap.size n a c b d from ⟨k0, k1, k2⟩)
  have hP := p2w' n hn12
  have h2n : 2 ^ n ≤ 4096 := pow12 hn12
  have h1n : 1 ≤ 2 ^ n := Nat.two_pow_pos n
  have hn64 : (n : Int) < 64 := by omega
  have hpl : (prefs n L).length ≤ 4096 := grt_len (sets_len hn12)
  have hp4 := Lib.hid (show ∀ S ∈ prefs n L, S < 4096 from grt_lt (sets_lt hn12))
  have hal : (sets n (admB n L)).length ≤ 4096 := sets_len hn12
  have ha4 := Lib.hid (show ∀ S ∈ sets n (admB n L), S < 4096 from sets_lt hn12)
  have hend := Lib.hid (show idl n L = (sets n (admB n L)).foldl (fun m s => if (prefs n L).foldl (fun m s => m &&& s) (2 ^ n - 1) ||| s == (prefs n L).foldl (fun m s => m &&& s) (2 ^ n - 1) then m ||| s else m) 0 from idl_ref)
  have hcl := Lib.hid (fun (l : List Nat) k => cm_lt hn12 l k)
  have hcs := Lib.hid (fun (l : List Nat) (k : Nat) (h : k < l.length) => cmn_step n h)
  generalize prefs n L = Z2 at h2 hpl hp4 hend
  generalize sets n (admB n L) = Z0 at h0 hal ha4 hend
  obtain ⟨N2, hN2⟩ : ∃ N, N = Z2.length := ⟨_, rfl⟩
  obtain ⟨N0, hN0⟩ : ∃ N, N = Z0.length := ⟨_, rfl⟩
  have e2 := Lib.hid (show (natI Z2).length = N2 from by rw [hN2]; simp [natI])
  have e0 := Lib.hid (show (natI Z0).length = N0 from by rw [hN0]; simp [natI])
  have hN2' := Lib.hid hN2
  have hN0' := Lib.hid hN0
  rw [← hN2] at hpl
  rw [← hN0] at hal
  obtain ⟨F, hF⟩ : ∃ F : Nat → Nat, F = fun k => (Z2.take k).foldl (fun m s => m &&& s) (2 ^ n - 1) := ⟨_, rfl⟩
  have hF0 := Lib.hid (show F 0 = 2 ^ n - 1 from by rw [hF]; rfl)
  have hFl := Lib.hid (fun k => show F k < 4096 from by rw [hF]; exact hcl.out Z2 k)
  have hFs := Lib.hid (fun (k : Nat) (h : k < N2) => show F (k + 1) = F k &&& Z2.getD k 0 from by rw [hF]; exact hcs.out Z2 k (by rw [hN2] at h; exact h))
  have hFN := Lib.hid (show F N2 = Z2.foldl (fun m s => m &&& s) (2 ^ n - 1) from by rw [hF, hN2]; simp)
  have hend2 := Lib.hid (show idl n L = orK (F N2) Z0 N0 from by rw [hend.out, hFN.out, hN0, orK_all])
  have hwall : IntKind.i64.wrap (((2 ^ n : Nat) : Int) - 1) = ((2 ^ n - 1 : Nat) : Int) := by
    rw [show (((2 ^ n : Nat) : Int) - 1) = ((2 ^ n - 1 : Nat) : Int) by omega]; exact IntWalk.i64_in _ ⟨by omega, by omega⟩
  have hwall2 : IntKind.i64.wrap ((2 ^ n - 1 : Nat) : Int) = ((2 ^ n - 1 : Nat) : Int) := IntWalk.i64_in _ ⟨by omega, by omega⟩
  have hF0' := hF0.out
  generalize hPq : 2 ^ n = P at hP hwall hwall2 hF0'
  have hFF := Lib.hid hF0'
  have hwall2' := Lib.hid hwall2
  have hP1 : 1 ≤ P := by omega
  clear hF hN2 hN0 hend hcl hcs hFN hF0 hF0' h2n h1n hPq hbA hsz hD
  go_enter Tryd.func33, Tryd.ntmps33
  go_upto_region 1 with fail
  rw [← hW0]
  clear hW0
  have hz2 := Lib.hid (fun (i : Nat) (h : i < N2) => show (natI Z2).getD i 0 = ((Z2.getD i 0 : Nat) : Int) ∧ Z2.getD i 0 < 4096 from by
    rw [hN2'.out] at h
    exact ⟨natI_get h, hp4.out _ (by rw [List.getD_eq_getElem?_getD, List.getElem?_eq_getElem h]; exact List.getElem_mem _)⟩)
  have hz0 := Lib.hid (fun (i : Nat) (h : i < N0) => show (natI Z0).getD i 0 = ((Z0.getD i 0 : Nat) : Int) ∧ Z0.getD i 0 < 4096 from by
    rw [hN0'.out] at h
    exact ⟨natI_get h, ha4.out _ (by rw [List.getD_eq_getElem?_getD, List.getElem?_eq_getElem h]; exact List.getElem_mem _)⟩)
  go_wp2_with (go_at_call 31; refine (h2.out _ hbA'.out).mono ?_; rintro e w1 ⟨v1, rfl, ho, hb⟩; obtain ⟨a1, c1, rfl, -⟩ := id ho.shape; rw [e2.out] at ho ⊢; have hI1 := Lib.hid ho.shape; have hb1 := Lib.hid (below_call hbA'.out hb); have hdA1 := Lib.hid (hdA.out.below hb); clear ho hb h2 k0 k1 k2)
  go_loopw [3, 5] (fun pv iv wr => ∃ i : Nat, i ≤ N2 ∧ iv = .int .i64 (i : Int) ∧ pv = .int .i64 ((F i : Nat) : Int) ∧ wr = w1) (fun _ iv _ => N2 - (intOf iv).toNat)
  case atStart => exact ⟨0, Nat.zero_le _, rfl, by rw [hFF.out]; first | done | exact congrArg (Value.int .i64) hwall2'.out, rfl⟩
  case round =>
    obtain ⟨i, hi, rfl, rfl, rfl⟩ := hrel
    by_cases hlt : i < N2
    · obtain ⟨g, o, rfl, hg, hc⟩ := hI1.out.at e2.out hlt
      have cx := hc i hlt
      obtain ⟨q1, q2⟩ := hz2.out i hlt
      rw [q1] at cx
      have hiI : (i : Int) < N2 := by omega
      have hFi := hFl.out i
      have hst := Lib.hid (hFs.out i hlt)
      have hand := and_i64 (F i) (Z2.getD i 0) (by omega) (by omega)
      generalize Z2.getD i 0 = S at cx q2 hst hand
      generalize F i = M at hFi hst hand ⊢
      clear hc q1
      go_wp2
      go_roundw
      case rel => exact ⟨i + 1, by omega, by go_num, by rw [hst.out], trivial⟩
      case measure => simp [intOf]; omega
    · obtain rfl : i = N2 := by omega
      obtain ⟨k0, k1, k2⟩ := hdA1.out
      have hFN := hFl.out i
      have hor0 := Lib.hid (show orK (F i) Z0 0 = 0 from rfl)
      have hors := Lib.hid (fun (k : Nat) (h : k < N0) => orK_step (C := F i) (l := Z0) (k := k) (by rw [← hN0'.out]; exact h))
      have horl := Lib.hid (fun k => orK_lt (C := F i) ha4.out k)
      generalize F i = C at hend2 hFN hor0 hors horl ⊢
      go_wp2_with (go_at_call 31; refine (h0.out _ hb1.out).mono ?_; rintro e w2 ⟨v2, rfl, ho, hb⟩; obtain ⟨a2, c2, rfl, -⟩ := id ho.shape; rw [e0.out] at ho ⊢; have hI2 := Lib.hid ho.shape; have hb2 := Lib.hid (below_call hb1.out hb); clear ho hb h0 k0 k1 k2)
      go_loopw [6, 8] (fun pv iv wr => ∃ k : Nat, k ≤ N0 ∧ iv = .int .i64 (k : Int) ∧ pv = .int .i64 ((orK C Z0 k : Nat) : Int) ∧ wr = w2) (fun _ iv _ => N0 - (intOf iv).toNat)
      case atStart => exact ⟨0, Nat.zero_le _, rfl, by rw [hor0.out]; rfl, rfl⟩
      case round =>
        obtain ⟨k, hk, rfl, rfl, rfl⟩ := hrel
        by_cases hlt2 : k < N0
        · obtain ⟨g, o, rfl, hg, hc⟩ := hI2.out.at e0.out hlt2
          have cx := hc k hlt2
          obtain ⟨q1, q2⟩ := hz0.out k hlt2
          rw [q1] at cx
          have hkI : (k : Int) < N0 := by omega
          have hst := hors.out k hlt2
          have hMl := horl.out k
          obtain ⟨r, hr, hr0⟩ := andNot_i64 (Z0.getD k 0) C q2 hFN
          have hor := or_i64 (orK C Z0 k) (Z0.getD k 0) (by omega) (by omega)
          generalize Z0.getD k 0 = S at cx q2 hst hr hr0 hor
          generalize orK C Z0 k = M at hMl hst hor ⊢
          have hr0' := Lib.hid hr0
          clear hc q1 hr0
          by_cases hrz : r = 0
          · have hs3 := Lib.hid (show orK C Z0 (k + 1) = M ||| S from by rw [hst, if_pos (beq_iff_eq.2 (hr0'.out.1 hrz))])
            subst hrz
            clear hst hr0'
            go_wp2
            go_roundw
            case rel => exact ⟨k + 1, by omega, by go_num, by rw [hs3.out], trivial⟩
            case measure => simp [intOf]; omega
          · have hs3 := Lib.hid (show orK C Z0 (k + 1) = M from by rw [hst, if_neg (fun h => hrz (hr0'.out.2 (beq_iff_eq.1 h)))])
            have t4 : ((r : Int) == 0) = false := beq_eq_false_iff_ne.2 (by omega)
            have t5 : (r == 0) = false := beq_eq_false_iff_ne.2 hrz
            clear hst hr0'
            go_wp2
            go_roundw
            case rel => exact ⟨k + 1, by omega, by go_num, by rw [hs3.out], trivial⟩
            case measure => simp [intOf]; omega
        · obtain rfl : k = N0 := by omega
          go_wp2
          go_ret
          exact ⟨by rw [hend2.out]; rfl, hb2.out⟩
set_option maxRecDepth 100000 in
set_option maxHeartbeats 8000000 in
theorem walk5 {w : World} (hT : Tab w) {n : Int} {v : Value} {ps : List (Int × Int)} (hp : InPs w v ps) :
    Calls Tryd.prog 5 #[.int .i64 n, v] w fun e w' => e = .returned (.bool true) ∧ Below w.heap.size w w' := by
  have hT' := Lib.hid hT
  have hfew := Lib.hid (few16 hp)
  have hlen : (ps.take 41).length ≤ 1000000 := by rw [List.length_take]; omega
  have hli := Lib.hid (fun (W : World) (h : Below w.heap.size w W) => lives20 (hT'.out.call h))
  clear hp hT
  generalize ps.take 41 = qs at hfew hlen
  have hv19 := Lib.hid (fun (W : World) (v : Value) (h : OwnP W w.heap.size v qs) => valid19 (n := n) (OwnP.reads h) hlen)
  cases hv : vldB n qs
  · rw [hv] at hv19
    have h32 := Lib.hid (fun (W : World) (v : Value) (h : Below w.heap.size w W) (hp : OwnP W w.heap.size v qs) => show Calls Tryd.prog 32 #[.int .i64 n, v] W (MadeE W [] 1) from by
      have := ideal32 (hT'.out.call h) (n := n) (OwnP.reads hp) hlen
      unfold resL resE at this
      rwa [hv] at this)
    clear hv hlen
    go_enter Tryd.func5, Tryd.ntmps5
    go_wp2_with (first
      | (go_at_call 16; refine (hfew.out).mono ?_; rintro e w1 ⟨v1, rfl, ho, hb⟩; have ho1 := Lib.hid ho; have hb1 := Lib.hid hb; clear ho hb hfew)
      | (go_at_call 32; refine (h32.out _ _ hb1.out ho1.out).mono ?_; rintro e w2 ⟨v2, rfl, hz, hb⟩; obtain ⟨a2, c2, rfl, -⟩ := id hz.shape; have hb2 := Lib.hid (below_call hb1.out hb); have ho2 := Lib.hid (own_below ho1.out hb); clear hz hb h32)
      | (go_at_call 19; refine (hv19.out _ _ ho2.out).mono ?_; rintro e w3 ⟨rfl, hb⟩; have hb3 := Lib.hid (below_call hb2.out hb); clear hb hv19)
      | (go_at_call 20; refine (hli.out _ hb3.out).mono ?_; rintro e w4 ⟨rfl, hb⟩; have hb4 := Lib.hid (below_call hb3.out hb); clear hb hli))
    go_ret
    exact ⟨rfl, hb4.out⟩
  · obtain ⟨sz, rfl, hvI⟩ := vld_nat hv
    have hqe := toI_natP hv
    have hs12 : sz ≤ 12 := by have := (vld_ok hv).2.2.1; omega
    have hD := (vld_ok hvI).1
    rw [Int.toNat_natCast, natP_toI] at hD
    rw [hv] at hv19
    rw [← hqe] at hfew hv19 hlen
    generalize natP qs = L at hvI hD hfew hv19 hlen
    have h32 := Lib.hid (fun (W : World) (v : Value) (h : Below w.heap.size w W) (hp : OwnP W w.heap.size v (toI L)) => idealM (hT'.out.call h) hvI hp)
    have h21 := Lib.hid (fun (W : World) (v : Value) (hp : OwnP W w.heap.size v (toI L)) => of21 (OwnP.reads hp) hvI)
    have h33 := Lib.hid (fun (W : World) (u : Value) (h : DisR W u sz L) => ideal33 h hD)
    have h24 := Lib.hid (fun (W : World) => refList24 (w := W) (lt12 hs12 (idl_lt (n := sz) (L := L) hs12)))
    have h23 := Lib.hid (fun (W : World) (u v : Value) (hu : Reads W u (natI (bl (idl sz L)))) (hv : Reads W v (natI (bl (idl sz L)))) => show Calls Tryd.prog 23 #[u, v] W (BoolEnd W true) from by
      have := same23 hu hv (natI_le _)
      rwa [sameL_self] at this)
    clear hv hvI hD hqe hlen hs12 hT'
    generalize idl sz L = I at h32 h33 h24 h23
    go_enter Tryd.func5, Tryd.ntmps5
    go_wp2_with (first
      | (go_at_call 16; refine (hfew.out).mono ?_; rintro e w1 ⟨v1, rfl, ho, hb⟩; have ho1 := Lib.hid ho; have hb1 := Lib.hid hb; clear ho hb hfew)
      | (go_at_call 32; refine (h32.out _ _ hb1.out ho1.out).mono ?_; rintro e w2 ⟨v2, rfl, hz, hb⟩; have hI2 := Lib.hid hz.shape; have hb2 := Lib.hid (below_call hb1.out hb); have ho2 := Lib.hid (own_below ho1.out hb); clear hz hb h32)
      | (go_at_call 19; refine (hv19.out _ _ ho2.out).mono ?_; rintro e w3 ⟨rfl, hb⟩; have hb3 := Lib.hid (below_call hb2.out hb); have ho3 := Lib.hid (own_below ho2.out hb); have hI3 := Lib.hid (hI2.out.below hb); clear hb hv19)
      | (go_at_call 21; refine (h21.out _ _ ho3.out).mono ?_; rintro e w4 ⟨u4, rfl, hd, hb⟩; have hd4 := Lib.hid hd; have hb4 := Lib.hid (below_call hb3.out hb); have hI4 := Lib.hid (hI3.out.below hb); clear hb hd h21)
      | (go_at_call 33; refine (h33.out _ _ hd4.out).mono ?_; rintro e w5 ⟨rfl, hb⟩; have hb5 := Lib.hid (below_call hb4.out hb); have hI5 := Lib.hid (hI4.out.below hb); clear hb h33)
      | (go_at_call 24; refine (h24.out _).mono ?_; rintro e w6 ⟨v6, rfl, ho, hb⟩; have hJ6 := Lib.hid ho.shape; have hb6 := Lib.hid (below_call hb5.out hb); have hI6 := Lib.hid (hI5.out.below hb); clear hb ho h24)
      | (go_at_call 23; refine (h23.out _ _ _ hI6.out hJ6.out).mono ?_; rintro e w7 ⟨rfl, hb⟩; have hb7 := Lib.hid (below_call hb6.out hb); clear hb h23)
      | (go_at_call 20; refine (hli.out _ hb7.out).mono ?_; rintro e w8 ⟨rfl, hb⟩; have hb8 := Lib.hid (below_call hb7.out hb); clear hb hli))
    go_ret
    exact ⟨rfl, hb8.out⟩
end Go.Proofs.YtpcjigdmfchbdaaDoor
