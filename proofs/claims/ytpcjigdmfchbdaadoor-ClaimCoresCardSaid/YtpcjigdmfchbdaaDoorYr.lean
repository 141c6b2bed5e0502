import Derived.Test.YtpcjigdmfchbdaaDoorYl
import Derived.BigQuiet
namespace Go.Proofs.YtpcjigdmfchbdaaDoor
open Go.RowKit Go.Shelf Cl

attribute [local go_sem] Oper.semAt_some

theorem keep_cases (L : Atts) (a b : Nat) : keep L a b = (att L a b && !(a != b && att L a a && (att L b a || att L b b))) := rfl
theorem bit_att {L : Atts} {n : Nat} (hD : OkD n L) (a b : Nat) : ∃ r : Nat, r < 2 ∧ bits BinOp.and IntKind.i64 (((tg L a : Nat) : Int) / 2 ^ b) 1 = (r : Int) ∧ (r = 1 ↔ att L a b = true) := by
  obtain ⟨r, h1, h2, h3⟩ := and_one64 (tg L a) b (hD.tlt a)
  exact ⟨r, h1, h2, by rw [h3, att_iff, tg_bit]⟩
set_option maxRecDepth 100000 in
set_option maxHeartbeats 8000000 in
theorem core40 {w : World} {u : Value} {n : Nat} {L : Atts} (hd : DisR w u n L) (hD : OkD n L) : Calls Tryd.prog 40 #[u] w fun e w' => ∃ v, e = .returned v ∧ OwnP w' w.heap.size v (toI (core n L)) ∧ Below w.heap.size w w' := by
  have hn12 := hD.nn
  obtain ⟨a0, c0, b0, d0, rfl, h1, -⟩ := hd
  obtain ⟨W0, hW0⟩ : ∃ W0, W0 = w.alloc (.cells #[.int .i64 (n : Int), .slice a0 n c0, .slice b0 n d0] 34) := ⟨_, rfl⟩
  obtain ⟨hbA, hsz, k0, k1, k2⟩ := dis_box hW0
  have hbA' := Lib.hid hbA
  have hdA := Lib.hid (show DisAt W0 w.heap.size n a0 c0 b0 d0 from ⟨k0, k1, k2⟩)
  have hR := Lib.hid h1
  have hol := Lib.hid (outI_len n L)
  have hat := Lib.hid (fun (i : Nat) (h : i < n) => outI_at L h)
  have hbit := Lib.hid (fun a b => bit_att hD a b)
  have hend := Lib.hid (coreA_all n L)
  have hsa := Lib.hid (coreA_succ n L)
  have hsr := Lib.hid (coreR_succ L)
  have hlen := Lib.hid (fun a k => core_part n L a k hn12)
  have hkc := Lib.hid (keep_cases L)
  have hc0 := Lib.hid (show coreA n L 0 = [] from rfl)
  have hr0 := Lib.hid (fun a => show coreR L a 0 = [] from rfl)
  have hszl := Lib.hid hsz
  have hlit := Lib.hid (OwnP.lit W0 W0.heap.size (Nat.le_refl _))
  have hal := Lib.hid (below_alloc1 W0 (.cells #[] 58))
  clear h1 hbA hsz k0 k1 k2 hD
  go_enter Tryd.func40, Tryd.ntmps40
  go_upto_region 1 with fail
  rw [← hW0]
  clear hW0
  go_wp2
  go_loopw [3, 4] (fun cv iv wr => ∃ a : Nat, a ≤ n ∧ iv = .int .i64 (a : Int) ∧ Hid (OwnP wr W0.heap.size cv (toI (coreA n L a))) ∧ Hid (Below W0.heap.size W0 wr)) (fun _ iv _ => n - (intOf iv).toNat)
  case atStart => exact ⟨0, Nat.zero_le _, rfl, Lib.hid (by rw [hc0.out]; exact hlit.out), hal⟩
  case round =>
    obtain ⟨a, ha, rfl, hoa, hba⟩ := hrel
    obtain ⟨wz, hwz⟩ : ∃ wz, wz = wr := ⟨_, rfl⟩
    subst hwz
    obtain ⟨k0, k1, k2⟩ := hdA.out.keep hba.out hszl.out
    by_cases hlt : a < n
    · have hai : (a : Int) < n := by omega
      go_wp2
      clear k0 k1 k2
      go_loopw [3, 5] (fun cv iv wr => ∃ b : Nat, b ≤ n ∧ iv = .int .i64 (b : Int) ∧ Hid (OwnP wr W0.heap.size cv (toI (coreA n L a ++ coreR L a b))) ∧ Hid (Below W0.heap.size W0 wr)) (fun _ iv _ => n - (intOf iv).toNat)
      case atStart => exact ⟨0, Nat.zero_le _, rfl, Lib.hid (by rw [hr0.out, List.append_nil]; exact hoa.out), hba⟩
      case round =>
        obtain ⟨b, hbn, rfl, hob, hbb⟩ := hrel
        obtain ⟨k0, k1, k2⟩ := hdA.out.keep hbb.out hszl.out
        have hbw := Lib.hid (below_call hbA'.out hbb.out)
        by_cases hlb : b < n
        · have hbi : (b : Int) < n := by omega
          have hl2 := Lib.hid (hlen.out a b hlt (by omega))
          obtain ⟨g, og, rfl, hg, hcl⟩ := hR.out.at hol.out hlt
          have ca := (hbw.out.cell (p := ⟨g, og + a, none⟩) hg).trans (hcl a hlt)
          have cb := (hbw.out.cell (p := ⟨g, og + b, none⟩) hg).trans (hcl b hlb)
          rw [hat.out a hlt] at ca
          rw [hat.out b hlb] at cb
          obtain ⟨rab, sab, tab, uab⟩ := hbit.out a b
          obtain ⟨raa, saa, taa, uaa⟩ := hbit.out a a
          obtain ⟨rba, sba, tba, uba⟩ := hbit.out b a
          obtain ⟨rbb, sbb, tbb, ubb⟩ := hbit.out b b
          have hs := hsr.out a b
          rw [hkc.out] at hs
          generalize tg L a = TA at ca tab taa
          generalize tg L b = TB at cb tba tbb
          generalize att L a b = Aab at uab hs
          generalize att L a a = Aaa at uaa hs
          generalize att L b a = Aba at uba hs
          generalize att L b b = Abb at ubb hs
          have hs' := Lib.hid hs
          have vab := Lib.hid uab
          have vaa := Lib.hid uaa
          have vba := Lib.hid uba
          have vbb := Lib.hid ubb
          have ha64 : (a : Int) < 64 := by omega
          have hb64 : (b : Int) < 64 := by omega
          clear hcl hs uab uaa uba ubb k2
          rcases (show rab = 0 ∨ rab = 1 by omega) with rfl | rfl
          · have hab0 := Lib.hid (show Aab = false from by
              cases e : Aab
              · rfl
              · exact absurd (vab.out.2 e) (by decide))
            have hsn := Lib.hid (show coreR L a (b + 1) = coreR L a b from by rw [hs'.out, hab0.out]; simp)
            go_wp2
            go_roundw
            case rel => exact ⟨b + 1, by omega, by go_num, Lib.hid (by rw [hsn.out]; exact hob.out), hbb⟩
            case measure => simp [intOf]; omega
          · have hab0 := Lib.hid (show Aab = true from vab.out.1 rfl)
            by_cases hab : a = b
            · subst hab
              have hne := Lib.hid (show (a != a) = false from by simp)
              clear cb tba tbb taa vaa vba vbb
              have hsn := Lib.hid (show coreR L a (a + 1) = coreR L a a ++ [(a, a)] from by rw [hs'.out, hab0.out, hne.out]; simp)
              go_wp2_with (at_builtin; refine app_pair hob.out (by have := hl2.out; omega) hbb.out.size rfl _ _ rfl rfl rfl ?_; intro v' w4 h1 h2; have h1q := Lib.hid h1; have h2q := Lib.hid h2; clear h1 h2)
              go_roundw
              case rel => exact ⟨a + 1, by omega, by go_num, Lib.hid (by rw [hsn.out, ← List.append_assoc, toI_snoc]; exact h1q.out), Lib.hid (hbb.out.trans h2q.out)⟩
              case measure => simp [intOf]; omega
            · have hne := Lib.hid (show (a != b) = true from bne_iff_ne.2 hab)
              have hne3 : ((a : Int) == (b : Int)) = false := beq_eq_false_iff_ne.2 (by omega)
              have hne2 : ((a : Int) != (b : Int)) = true := by rw [bne, hne3]; rfl
              have hab' := Lib.hid hab
              clear hab
              rcases (show raa = 0 ∨ raa = 1 by omega) with rfl | rfl
              · have haa := Lib.hid (show Aaa = false from by
                  cases e : Aaa
                  · rfl
                  · exact absurd (vaa.out.2 e) (by decide))
                have hsn := Lib.hid (show coreR L a (b + 1) = coreR L a b ++ [(a, b)] from by rw [hs'.out, hab0.out, hne.out, haa.out]; simp)
                go_wp2_with (at_builtin; refine app_pair hob.out (by have := hl2.out; omega) hbb.out.size rfl _ _ rfl rfl rfl ?_; intro v' w4 h1 h2; have h1q := Lib.hid h1; have h2q := Lib.hid h2; clear h1 h2)
                go_roundw
                case rel => exact ⟨b + 1, by omega, by go_num, Lib.hid (by rw [hsn.out, ← List.append_assoc, toI_snoc]; exact h1q.out), Lib.hid (hbb.out.trans h2q.out)⟩
                case measure => simp [intOf]; omega
              · have haa := Lib.hid (show Aaa = true from vaa.out.1 rfl)
                rcases (show rba = 0 ∨ rba = 1 by omega) with rfl | rfl
                · have hba1 := Lib.hid (show Aba = false from by
                    cases e : Aba
                    · rfl
                    · exact absurd (vba.out.2 e) (by decide))
                  rcases (show rbb = 0 ∨ rbb = 1 by omega) with rfl | rfl
                  · have hbb1 := Lib.hid (show Abb = false from by
                      cases e : Abb
                      · rfl
                      · exact absurd (vbb.out.2 e) (by decide))
                    have hsn := Lib.hid (show coreR L a (b + 1) = coreR L a b ++ [(a, b)] from by rw [hs'.out, hab0.out, hne.out, haa.out, hba1.out, hbb1.out]; simp)
                    go_wp2_with (at_builtin; refine app_pair hob.out (by have := hl2.out; omega) hbb.out.size rfl _ _ rfl rfl rfl ?_; intro v' w4 h1 h2; have h1q := Lib.hid h1; have h2q := Lib.hid h2; clear h1 h2)
                    go_roundw
                    case rel => exact ⟨b + 1, by omega, by go_num, Lib.hid (by rw [hsn.out, ← List.append_assoc, toI_snoc]; exact h1q.out), Lib.hid (hbb.out.trans h2q.out)⟩
                    case measure => simp [intOf]; omega
                  · have hbb1 := Lib.hid (show Abb = true from vbb.out.1 rfl)
                    have hsn := Lib.hid (show coreR L a (b + 1) = coreR L a b from by rw [hs'.out, hab0.out, hne.out, haa.out, hba1.out, hbb1.out]; simp)
                    go_wp2
                    go_roundw
                    case rel => exact ⟨b + 1, by omega, by go_num, Lib.hid (by rw [hsn.out]; exact hob.out), hbb⟩
                    case measure => simp [intOf]; omega
                · have hba1 := Lib.hid (show Aba = true from vba.out.1 rfl)
                  have hsn := Lib.hid (show coreR L a (b + 1) = coreR L a b from by rw [hs'.out, hab0.out, hne.out, haa.out, hba1.out]; simp)
                  go_wp2
                  go_roundw
                  case rel => exact ⟨b + 1, by omega, by go_num, Lib.hid (by rw [hsn.out]; exact hob.out), hbb⟩
                  case measure => simp [intOf]; omega
        · obtain rfl : b = n := by omega
          go_wp2
          go_roundw
          case rel => exact ⟨a + 1, by omega, by go_num, Lib.hid (by rw [hsa.out]; exact hob.out), hbb⟩
          case measure => simp [intOf]; omega
    · obtain rfl : a = n := by omega
      have hbw := Lib.hid (below_call hbA'.out hba.out)
      go_wp2
      go_ret
      exact ⟨_, rfl, by rw [← hend.out]; exact own_base hoa.out hbA'.out.size, hbw.out⟩

attribute [local go_sem] Oper.semAt_some

set_option maxRecDepth 100000 in
set_option maxHeartbeats 8000000 in
theorem walk7 {w : World} (hT : Tab w) {n : Int} {v : Value} {ps : List (Int × Int)} (hp : InPs w v ps) :
    Calls Tryd.prog 7 #[.int .i64 n, v] w fun e w' => e = .returned (.bool true) ∧ Below w.heap.size w w' := by
  have hT' := Lib.hid hT
  have hfew := Lib.hid (few16 hp)
  have hlen : (ps.take 41).length ≤ 1000000 := by rw [List.length_take]; omega
  have hli := Lib.hid (fun (W : World) (h : Below w.heap.size w W) => lives20 (hT'.out.call h))
  clear hp hT
  generalize ps.take 41 = qs at hfew hlen
  have hv19 := Lib.hid (fun (W : World) (v : Value) (h : OwnP W w.heap.size v qs) => valid19 (n := n) (OwnP.reads h) hlen)
  cases hv : vldB n qs
  · rw [hv] at hv19
    have h39 := Lib.hid (fun (W : World) (v : Value) (hp : OwnP W w.heap.size v qs) => core_bad (w := W) (n := n) (OwnP.reads hp) hlen hv)
    clear hv hlen
    go_enter Tryd.func7, Tryd.ntmps7
    go_wp2_with (first
      | (go_at_call 16; refine (hfew.out).mono ?_; rintro e w1 ⟨v1, rfl, ho, hb⟩; have ho1 := Lib.hid ho; have hb1 := Lib.hid hb; clear ho hb hfew)
      | (go_at_call 39; refine (h39.out _ _ ho1.out).mono ?_; rintro e w2 ⟨v2, rfl, hz, hb⟩; obtain ⟨a2, c2, rfl, -⟩ := id (own_cells hz); have hb2 := Lib.hid (below_call hb1.out hb); have ho2 := Lib.hid (own_below ho1.out hb); clear hz hb h39)
      | (go_at_call 19; refine (hv19.out _ _ ho2.out).mono ?_; rintro e w3 ⟨rfl, hb⟩; have hb3 := Lib.hid (below_call hb2.out hb); clear hb hv19)
      | (go_at_call 20; refine (hli.out _ hb3.out).mono ?_; rintro e w4 ⟨rfl, hb⟩; have hb4 := Lib.hid (below_call hb3.out hb); clear hb hli))
    go_ret
    exact ⟨rfl, hb4.out⟩
  · obtain ⟨sz, rfl, hvI⟩ := vld_nat hv
    have hqe := toI_natP hv
    have hs12 : sz ≤ 12 := by have := (vld_ok hv).2.2.1; omega
    have hD := (vld_ok hvI).1
    rw [Int.toNat_natCast, natP_toI] at hD
    rw [hv] at hv19
    have h40 : qs.length ≤ 40 := (vld_ok hv).2.2.2
    rw [← hqe] at hfew hv19 hlen h40
    generalize natP qs = L at hvI hD hfew hv19 hlen h40
    have h39 := Lib.hid (fun (W : World) (v : Value) (hp : OwnP W w.heap.size v (toI L)) => core_ok (w := W) (OwnP.reads hp) hvI)
    have h21 := Lib.hid (fun (W : World) (v : Value) (hp : OwnP W w.heap.size v (toI L)) => of21 (OwnP.reads hp) hvI)
    have hc40 := Lib.hid (fun (W : World) (u : Value) (h : DisR W u sz L) => core40 h hD)
    have hcl : (toI (core sz L)).length ≤ 40 := by
      rw [toI_len]; rw [toI_len] at h40
      exact Nat.le_trans (core_len sz L) h40
    clear hv hvI hD hqe hlen hs12 hT' h40
    generalize toI (core sz L) = C at h39 hc40 hcl
    obtain ⟨N, hN⟩ : ∃ N, N = C.length := ⟨_, rfl⟩
    have hN' := Lib.hid hN
    rw [← hN] at hcl
    clear hN
    have hgd := guard58
    go_enter Tryd.func7, Tryd.ntmps7
    go_wp2_with (first
      | (go_at_call 16; refine (hfew.out).mono ?_; rintro e w1 ⟨v1, rfl, ho, hb⟩; have ho1 := Lib.hid ho; have hb1 := Lib.hid hb; clear ho hb hfew)
      | (go_at_call 39; refine (h39.out _ _ ho1.out).mono ?_; rintro e w2 ⟨v2, rfl, hz, hb⟩; obtain ⟨a2, c2, rfl, -⟩ := id (own_cells hz); rw [← hN'.out] at hz ⊢; have hC2 := Lib.hid (OwnP.reads hz); have hb2 := Lib.hid (below_call hb1.out hb); have ho2 := Lib.hid (own_below ho1.out hb); clear hz hb h39)
      | (go_at_call 19; refine (hv19.out _ _ ho2.out).mono ?_; rintro e w3 ⟨rfl, hb⟩; have hb3 := Lib.hid (below_call hb2.out hb); have ho3 := Lib.hid (own_below ho2.out hb); have hC3 := Lib.hid (ReadsP.below hC2.out hb); clear hb hv19)
      | (go_at_call 21; refine (h21.out _ _ ho3.out).mono ?_; rintro e w4 ⟨u4, rfl, hd, hb⟩; have hd4 := Lib.hid hd; have hb4 := Lib.hid (below_call hb3.out hb); have hC4 := Lib.hid (ReadsP.below hC3.out hb); clear hb hd h21)
      | (go_at_call 40; refine (hc40.out _ _ hd4.out).mono ?_; rintro e w5 ⟨v5, rfl, hz, hb⟩; obtain ⟨a5, c5, rfl, -⟩ := id (own_cells hz); rw [← hN'.out] at hz ⊢; have hE5 := Lib.hid (OwnP.reads hz); have hb5 := Lib.hid (below_call hb4.out hb); have hC5 := Lib.hid (ReadsP.below hC4.out hb); clear hb hz hc40)
      | (go_at_call 20; refine (hli.out _ hb5.out).mono ?_; rintro e w6 ⟨rfl, hb⟩; have hb6 := Lib.hid (below_call hb5.out hb); have hC6 := Lib.hid (ReadsP.below hC5.out hb); have hE6 := Lib.hid (ReadsP.below hE5.out hb); clear hb hli))
    go_loopw [9] (fun iv wr => ∃ k : Nat, k ≤ N ∧ iv = .int .i64 (k : Int) ∧ Hid (Below w6.heap.size w6 wr)) (fun iv _ => N - (intOf iv).toNat)
    case atStart => exact ⟨0, Nat.zero_le _, rfl, Lib.hid (Below.refl _ _)⟩
    case round =>
      obtain ⟨k, hk, rfl, hb⟩ := hrel
      by_cases hlt : k < N
      · obtain ⟨ao, co, e1, hcl1⟩ := (ReadsP.below hC6.out hb.out).at
        obtain ⟨bo, do', e2, hcl2⟩ := (ReadsP.below hE6.out hb.out).at
        simp only [Value.slice.injEq] at e1 e2
        obtain ⟨rfl, -, rfl⟩ := e1
        obtain ⟨rfl, -, rfl⟩ := e2
        have hCne : C ≠ [] := fun e => by have := hN'.out; rw [e] at this; simp at this; omega
        obtain ⟨g1, o1, rfl, hg1, hc1⟩ := hcl1 hCne
        obtain ⟨g2, o2, rfl, hg2, hc2⟩ := hcl2 hCne
        obtain ⟨p1, p2⟩ := hc1 k (by rw [← hN'.out]; exact hlt)
        obtain ⟨q1, q2⟩ := hc2 k (by rw [← hN'.out]; exact hlt)
        have heq := fun (W : World) => show (Op.equalIn 10000 58 (.agg #[.int .i64 (C.getD k (0, 0)).1, .int .i64 (C.getD k (0, 0)).2]) (.agg #[.int .i64 (C.getD k (0, 0)).1, .int .i64 (C.getD k (0, 0)).2])).run Tryd.prog W = .ok true W from by rw [eq58]; simp
        generalize (C.getD k (0, 0)).1 = x at p1 q1 heq
        generalize (C.getD k (0, 0)).2 = y at p2 q2 heq
        have hki : (k : Int) < N := by omega
        clear hcl1 hcl2 hc1 hc2
        go_wp2
        go_quiet (fail)
        go_wp2
        go_roundw
        case rel => exact ⟨k + 1, by omega, by go_num, Lib.hid (below_drewN hb.out _)⟩
        case measure => simp [intOf]; omega
      · go_wp2
        go_ret
        exact ⟨rfl, below_call hb6.out hb.out⟩
end Go.Proofs.YtpcjigdmfchbdaaDoor
