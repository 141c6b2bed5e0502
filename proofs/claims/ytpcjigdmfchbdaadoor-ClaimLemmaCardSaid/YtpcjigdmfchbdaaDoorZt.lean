import Derived.Test.YtpcjigdmfchbdaaDoorZs
import Derived.Laws.BitsAllLaws
import Derived.Deep.CutRange
namespace Go.Proofs.YtpcjigdmfchbdaaDoor
open Go.RowKit Go.Shelf Cl
attribute [local go_sem] Oper.semAt_some

theorem natI_sub {q l : List Nat} (h : q.Sublist l) : (natI q).length ≤ l.length := by
  unfold natI; rw [List.length_map]; exact h.length_le
theorem bit_u16 {a k : Nat} (ha : a < 65536) : ∃ b : Nat, b < 2 ∧ bits BinOp.and IntKind.u16 ((a : Int) / 2 ^ k) 1 = (b : Int) := by
  refine ⟨a / 2 ^ k % 2, Nat.mod_lt _ (by decide), ?_⟩
  have h1 : ((a : Int) / 2 ^ k) = ((a / 2 ^ k : Nat) : Int) := by push_cast; rfl
  rw [h1]
  have h2 : a / 2 ^ k < 65536 := Nat.lt_of_le_of_lt (Nat.div_le_self _ _) ha
  rw [show (1 : Int) = ((1 : Nat) : Int) from rfl, Go.u16_and_nat _ _ h2 (by decide), Nat.and_one_is_mod]
set_option maxRecDepth 100000 in
set_option maxHeartbeats 8000000 in
theorem walk9 {w : World} (hT : Tab w) {n : Nat} {v : Value} {xs : List (Nat × Nat)} {wh : Nat} (hn : n < 256) (hx : InDuo w v xs) (hwh : wh < 65536) :
    Calls Tryd.prog 9 #[.int .u8 (n : Int), v, .int .u16 (wh : Int)] w fun e w' => e = .returned (.bool true) ∧ Below w.heap.size w w' := by
  have hT' := Lib.hid hT
  have hm := Lib.hid (show Calls Tryd.prog 43 #[.int .u8 (n : Int), v, .int .i64 12] w (MadeD w (szM n 12) (mkL (szM n 12) xs)) from made43 (most := 12) hn (by omega) (by omega) hx)
  have hs12 : szM n 12 ≤ 12 := by unfold szM; omega
  have hs1 : 1 ≤ szM n 12 := by unfold szM; omega
  have hv := mk_vld hs1 hs12 xs
  clear hT hx hn
  generalize szM n 12 = sz at hm hs12 hs1 hv
  generalize mkL sz xs = L at hm hv
  have h25 := Lib.hid (fun (W : World) (v : Value) (h : Below w.heap.size w W) (hp : OwnP W w.heap.size v (toI L)) => preferredM (hT'.out.call h) hv hp)
  have h35 := Lib.hid (fun (W : World) (T : Nat) (v u : Value) (hT : T < 2 ^ sz) (h : Below w.heap.size w W) (hp : OwnP W w.heap.size v (toI L)) (hu : Reads W u (natI (bl T))) => defendsM (hT'.out.call h) hs12 hT hv hp hu)
  have h34 := Lib.hid (fun (W : World) (T : Nat) (v u : Value) (hT : T < 2 ^ sz) (h : Below w.heap.size w W) (hp : OwnP W w.heap.size v (toI L)) (hu : Reads W u (natI (bl T))) => admissibleM (hT'.out.call h) hs12 hT hv hp hu)
  have h44 := Lib.hid (fun (W : World) (S T : Nat) (u v : Value) (hi : Inn S T) (hu : Reads W u (natI (bl S))) (hv : Reads W v (natI (bl T))) => show Calls Tryd.prog 44 #[u, v] W (BoolEnd W true) from by
    rw [← inB_inn hi]; exact within44 hu hv (natI_le _) (natI_le _))
  have hone := Lib.hid (fun (W : World) (T c : Nat) (hc : c < 12) (u v : Value) (hu : Reads W u [(c : Int)]) (hv : Reads W v (natI (bl T))) => show Calls Tryd.prog 44 #[u, v] W (BoolEnd W (T.testBit c)) from by
    rw [← inB_one hc]; exact within44 hu hv (by simp) (natI_le _))
  have hadd := Lib.hid (fun (T c : Nat) (hT : T < 2 ^ sz) (ha : Adm L T) (hc : (dfd sz L T).testBit c = true) =>
    (⟨Nat.or_lt_two_pow hT (pow_lt (near (dfd_lt sz L T) hc)), (admB_iff hs12 (Nat.or_lt_two_pow hT (pow_lt (near (dfd_lt sz L T) hc)))).2 (adm_more hs12 hT ha hc), dfd_mono (lt12 hs12 hT) (lt12 hs12 (Nat.or_lt_two_pow hT (pow_lt (near (dfd_lt sz L T) hc)))) (or_inn T c)⟩ :
      T ||| 2 ^ c < 2 ^ sz ∧ admB sz L (T ||| 2 ^ c) = true ∧ Inn (dfd sz L T) (dfd sz L (T ||| 2 ^ c))))
  have hsub := Lib.hid (fun (T : Nat) (hT : T < 2 ^ sz) (ha : Adm L T) => ha.sub hs12 hT)
  have hadB := Lib.hid (fun (T : Nat) (hT : T < 2 ^ sz) (ha : admB sz L T = true) => (admB_iff hs12 hT).1 ha)
  have hli := Lib.hid (fun (W : World) (h : Below w.heap.size w W) => lives20 (hT'.out.call h))
  have hl4 : (lists (prefs sz L)).length ≤ 4096 := by rw [lists_len]; exact grt_len (sets_len hs12)
  have hp4 : 0 < (lists (prefs sz L)).length := by
    rw [lists_len]
    obtain ⟨S, hS⟩ := prefs_some L hs12
    exact List.length_pos_of_mem hS
  have hrow := Lib.hid (fun (j : Nat) (hj : j < (lists (prefs sz L)).length) => show ∃ S, S < 2 ^ sz ∧ (lists (prefs sz L)).getD j [] = natI (bl S) from by
    have hm : (lists (prefs sz L)).getD j [] ∈ lists (prefs sz L) := by rw [List.getD_eq_getElem?_getD, List.getElem?_eq_getElem hj]; exact List.getElem_mem _
    obtain ⟨S, hS, he⟩ := mem_lists.1 hm
    exact ⟨S, ((mem_prefs hs12).1 hS).1, he⟩)
  have hpart := Lib.hid (fun (S : Nat) (q : List Nat) (hS : S < 2 ^ sz) (h : q.Sublist (bl S)) => bl_part hs12 hS h)
  have hz0 := Lib.hid (show (0 : Nat) < 2 ^ sz from Nat.two_pow_pos sz)
  have hd12 := Lib.hid (fun (T : Nat) => dfd_lt sz L T)
  have hl12 := Lib.hid (fun (T : Nat) (h : T < 2 ^ sz) => lt12 hs12 h)
  clear hs1 hv hT'
  generalize lists (prefs sz L) = A4 at h25 hl4 hp4 hrow
  obtain ⟨N, hN⟩ : ∃ N, N = A4.length := ⟨_, rfl⟩
  have hN' := Lib.hid hN
  rw [← hN] at hl4 hp4 hrow
  clear hN
  have hpI : ¬ (N : Int) = 0 := by omega
  go_enter Tryd.func9, Tryd.ntmps9
  go_upto_region 5 with (first
    | (go_at_call 43; refine (hm.out).mono ?_; rintro e w1 ⟨v1, rfl, ho, hb⟩; have ho1 := Lib.hid ho; have hb1 := Lib.hid hb; clear ho hb hm)
    | (go_at_call 25; refine (h25.out _ _ hb1.out ho1.out).mono ?_; rintro e w2 ⟨v2, rfl, hz, hb⟩; obtain ⟨a3, c3, rfl, -⟩ := id hz.shape; rw [← hN'.out] at hz ⊢; have hA2 := Lib.hid hz.shape; have hb2 := Lib.hid (below_call hb1.out hb); have ho2 := Lib.hid (ho1.out.below hb); clear hz hb h25)
    | (go_at_call 20; refine (hli.out _ hb2.out).mono ?_; rintro e w3 ⟨rfl, hb⟩; have hb3 := Lib.hid (below_call hb2.out hb); have ho3 := Lib.hid (ho2.out.below hb); have hA3 := Lib.hid (hA2.out.below hb); clear hb hli))
  obtain ⟨q, hq⟩ : ∃ q, q = wh % N := ⟨_, rfl⟩
  have hqN : q < N := by rw [hq]; exact Nat.mod_lt _ (by omega)
  have hqi : (wh : Int) % (N : Int) = (q : Int) := by rw [hq]; push_cast; rfl
  clear hq
  have hqj : (q : Int) < N := by omega
  have hwi : (wh : Int) < 65536 := by omega
  obtain ⟨g, o, rfl, hg0, ro, rc, c1, hR1⟩ := hA3.out.at hN'.out.symm hqN
  obtain ⟨S, hS, hSe⟩ := hrow.out q hqN
  rw [hSe] at c1 hR1
  have hS' := Lib.hid hS
  obtain ⟨m, hm⟩ : ∃ m, m = (natI (bl S)).length := ⟨_, rfl⟩
  have hm12 : m ≤ 12 := by rw [hm]; exact natI_len S
  have hmb : (bl S).length = m := by rw [hm]; simp [natI]
  have hmb' := Lib.hid hmb
  have hm' := Lib.hid hm
  rw [← hm] at c1 hR1
  have hR3 := Lib.hid hR1
  clear hS hSe hm hR1 hrow hmb
  go_wp2_with fail
  rw [show ((N : Int) == 0) = false from beq_eq_false_iff_ne.2 hpI]
  clear hqi hqj hqN hpI c1 hwi

  go_loopw [12, 13] (fun pv iv wr => ∃ (k : Nat) (ql : List Nat), k ≤ m ∧ iv = .int .i64 (k : Int) ∧ Hid (ql.Sublist ((bl S).take k)) ∧ Hid (Ints wr w3.heap.size pv (natI ql)) ∧ Hid (Below w3.heap.size w3 wr)) (fun _ iv _ => m - (intOf iv).toNat)
  case atStart => exact ⟨0, [], Nat.zero_le _, rfl, Lib.hid (by simp), Lib.hid (Ints.lit w3 w3.heap.size (Nat.le_refl _)), Lib.hid (below_alloc1 _ _)⟩
  case round =>
    obtain ⟨k, ql, hk, rfl, hql, hpo, hbk⟩ := hrel
    obtain ⟨ap, cp, rfl, -⟩ := id hpo.out.shape
    obtain ⟨ln, hln⟩ : ∃ ln, ln = (natI ql).length := ⟨_, rfl⟩
    have hln' := Lib.hid hln
    rw [← hln] at hpo ⊢
    clear hln
    by_cases hlt : k < m
    · have hkS : k < (bl S).length := by rw [hmb'.out]; exact hlt
      obtain ⟨g2, o2, rfl, hg2, hcl⟩ := hR3.out.at hm'.out.symm hlt
      have cy := hcl k hlt
      have ey : (natI (bl S)).getD k 0 = (((bl S).getD k 0 : Nat) : Int) := by simp [natI, List.getD_eq_getElem?_getD, hkS]
      rw [ey] at cy
      have cx := (hbk.out.cell (p := ⟨g2, o2 + k, none⟩) hg2).trans cy
      have hs1 : ql.Sublist ((bl S).take (k + 1)) := hql.out.trans (List.take_sublist_take_left (by omega))
      have hs2 : (ql ++ [(bl S).getD k 0]).Sublist ((bl S).take (k + 1)) := by
        rw [List.take_succ_eq_append_getElem hkS, List.getD_eq_getElem?_getD, List.getElem?_eq_getElem hkS]
        exact List.Sublist.append hql.out (List.Sublist.refl _)
      generalize (bl S).getD k 0 = y at cx hs2
      have hs1' := Lib.hid hs1
      have hs2' := Lib.hid hs2
      have hql4 := Lib.hid (show (natI ql).length ≤ 1000 from by
        have := natI_sub hql.out
        simp only [List.length_take] at this
        omega)
      clear cy ey hs1 hs2 hcl
      obtain ⟨b, hb2, hbe⟩ := bit_u16 (k := k) hwh
      have hki : (k : Int) < m := by omega
      rcases (show b = 1 ∨ b = 0 by omega) with rfl | rfl
      · go_wp2_with (at_builtin; refine app_int hpo.out (by have := hql4.out; omega) hbk.out.size rfl _ _ rfl rfl rfl ?_; intro v5 w5 ho5 hb5; have ho5' := Lib.hid ho5; have hb5' := Lib.hid (hbk.out.trans hb5); clear ho5 hb5)
        go_roundw
        case rel => exact ⟨k + 1, ql ++ [y], by omega, by go_num, hs2', Lib.hid (by rw [show natI (ql ++ [y]) = natI ql ++ [(y : Int)] from by simp [natI]]; exact ho5'.out), hb5'⟩
        case measure => simp [intOf]; omega
      · go_wp2_with fail
        go_roundw
        case rel => exact ⟨k + 1, ql, by omega, by go_num, hs1', hpo, hbk⟩
        case measure => simp [intOf]; omega
    · obtain rfl : k = m := by omega
      obtain ⟨T0, hT0, hqe⟩ := hpart.out S ql hS'.out (by
        have := hql.out
        rwa [List.take_of_length_le (by rw [hmb'.out]; exact Nat.le_refl _)] at this)
      subst hqe
      obtain ⟨wz, hwz⟩ : ∃ wz, wz = wr := ⟨_, rfl⟩
      subst hwz
      have hbP := Lib.hid (below_call hb3.out hbk.out)
      have hoP := Lib.hid (ho3.out.below hbk.out)
      have hR4 := Lib.hid hpo.out.shape
      have hT0' := Lib.hid hT0
      have hsh := Lib.hid (show (ap = none ∧ ln = 0 ∧ cp = 0) ∨ ∃ g, ap = some ⟨g, 0, none⟩ from by
        rcases ints_case hpo.out with ⟨e, _⟩ | ⟨g, cap, e, _⟩
        · simp only [Value.slice.injEq] at e; exact .inl e
        · simp only [Value.slice.injEq] at e; exact .inr ⟨g, e.1⟩)
      have hln2 := Lib.hid (show ln = (bl T0).length from by rw [hln'.out]; simp [natI])
      clear hql hpo hln' hT0 hR3 hwh
      have hpure := Lib.hid (show admB sz L T0 = true → Adm L T0 from fun h => hadB.out T0 hT0'.out h)
      obtain ⟨A, hA⟩ : ∃ A, A = admB sz L T0 := ⟨_, rfl⟩
      have hA' := Lib.hid hA
      clear hA
      go_upto_if 85 with (go_at_call 34; refine (h34.out _ T0 _ _ hT0'.out hbP.out hoP.out hR4.out).mono ?_; rw [← hA'.out]; rintro e w4 ⟨rfl, hb⟩; have hb4 := Lib.hid (below_call hbP.out hb); have ho4 := Lib.hid (hoP.out.below hb); have hP4 := Lib.hid (hR4.out.below hb); clear hb)
      go_cut [12] from 86 (fun pv wx => wx = w4 ∧ ∃ (T : Nat) (aq : Option Addr) (lq cq : Nat), pv = .slice aq lq cq ∧ Hid (T < 2 ^ sz ∧ Adm L T) ∧ Hid (Reads w4 (.slice aq lq cq) (natI (bl T))) ∧ Hid (lq = (bl T).length) ∧ Hid ((aq = none ∧ lq = 0 ∧ cq = 0) ∨ ∃ g, aq = some ⟨g, 0, none⟩))
      case first =>
        cases A
        · go_wp2_with fail
          go_meet
          exact ⟨rfl, 0, none, 0, 0, rfl, Lib.hid ⟨hz0.out, adm_zero L⟩, Lib.hid ⟨none, 0, rfl, Nat.le_refl _, fun h => absurd rfl h⟩, Lib.hid rfl, Lib.hid (.inl ⟨rfl, rfl, rfl⟩)⟩
        · go_wp2_with fail
          go_meet
          exact ⟨rfl, T0, ap, ln, cp, rfl, Lib.hid ⟨hT0'.out, hpure.out hA'.out.symm⟩, hP4, hln2, hsh⟩
      case rest =>
        obtain ⟨rfl, T, aq, lq, cq, rfl, hTA, hPq, hlq, hshq⟩ := hcut

        have hD12 := hd12.out T
        obtain ⟨hT2, hAd⟩ := hTA.out
        have hsbT := Lib.hid (hsub.out T hT2 hAd)
        have hadT := Lib.hid (fun c h => hadd.out T c hT2 hAd h)
        have h35T := Lib.hid (fun (W : World) (v u : Value) => h35.out W T v u hT2)
        have hT4 := Lib.hid (hl12.out T hT2)
        clear hT2 hAd hTA hpure
        obtain ⟨D, hD⟩ : ∃ D, D = dfd sz L T := ⟨_, rfl⟩
        rw [← hD] at hD12 hsbT hadT h35T
        have hD4 := Lib.hid (hl12.out D hD12)
        clear hD hD12
        obtain ⟨M, hM⟩ : ∃ M, M = (natI (bl D)).length := ⟨_, rfl⟩
        have hM12 : M ≤ 12 := by rw [hM]; exact natI_len D
        have hM' := Lib.hid hM
        clear hM
        have hlqI := Lib.hid (show (natI (bl T)).length = lq from by rw [hlq.out]; simp [natI])
        have hlq12 : lq ≤ 12 := by rw [← hlqI.out]; exact natI_len T
        have hlq2 := Lib.hid (show (bl T).length = lq from hlq.out.symm)
        clear hlq
        go_wp2_with (first
          | (go_at_call 35; refine (h35T.out _ _ _ hb4.out ho4.out hPq.out).mono ?_; rintro e w5 ⟨v5, rfl, hz, hb⟩; have hzs := hz.shape; obtain ⟨a5, c5, rfl, hc5, hcl⟩ := id hzs; rw [← hM'.out] at hzs hc5 ⊢; have hR5 := Lib.hid hzs; have hcl5 := Lib.hid hcl; have hb5 := Lib.hid (below_call hb4.out hb); have ho5 := Lib.hid (ho4.out.below hb); have hP5 := Lib.hid (hPq.out.below hb); clear hz hb hcl hzs)
          | (go_at_call 44; refine (h44.out _ T D _ _ hsbT.out hP5.out hR5.out).mono ?_; rintro e w6 ⟨rfl, hb⟩; have hbs6 := Lib.hid hb; have hb6 := Lib.hid (below_call hb5.out hb); have ho6 := Lib.hid (ho5.out.below hb); have hP6 := Lib.hid (hP5.out.below hb); have hR6 := Lib.hid (hR5.out.below hb); clear hb))
        go_loopw [18] (fun p wr => ∃ i : Nat, i ≤ M ∧ p = .int .i64 (i : Int) ∧ Hid (Below w6.heap.size w6 wr)) (fun p _ => M - (intOf p).toNat)
        case atStart => exact ⟨0, Nat.zero_le _, rfl, Lib.hid (Below.refl _ _)⟩
        case round =>
          obtain ⟨i, hi, rfl, hbi⟩ := hrel
          have hbV := Lib.hid (below_call hb6.out hbi.out)
          by_cases hlt2 : i < M
          · obtain ⟨g2, o2, rfl, hg0, hc1⟩ := hcl5.out (fun e => absurd (show (natI (bl D)).length = 0 from by rw [e]; rfl) (by rw [← hM'.out]; omega))
            obtain ⟨c, hcv, hcb, hc12⟩ := natI_at (S := D) (i := i) (by rw [← hM'.out]; exact hlt2)
            have hc1i := hc1 i (by rw [← hM'.out]; exact hlt2)
            rw [hcv] at hc1i
            have hg6 : g2 < w6.heap.size := Nat.lt_of_lt_of_le hg0 hbs6.out.size
            have cx := (hbi.out.cell (p := ⟨g2, o2 + i, none⟩) hg6).trans ((hbs6.out.cell (p := ⟨g2, o2 + i, none⟩) hg0).trans hc1i)
            have hgr : g2 < wr.heap.size := Nat.lt_of_lt_of_le hg6 hbi.out.size
            have hgr' := Lib.hid hgr
            have hoI := Lib.hid (ho6.out.below hbi.out)
            have hPI := Lib.hid (hP6.out.below hbi.out)
            have hRI := Lib.hid (hR6.out.below hbi.out)
            obtain ⟨hU, hUa, hUi⟩ := hadT.out c hcb
            have hU' := Lib.hid hU
            have hUa' := Lib.hid hUa
            have hUi' := Lib.hid hUi
            clear hU hUa hUi
            have hcc := Lib.hid (fun (cp : Nat) (hcp : 1 ≤ cp) => hone.out wr T c hc12 (.slice (some ⟨g2, o2 + i, none⟩) 1 cp) _ ⟨_, _, rfl, hcp, fun _ => ⟨g2, o2 + i, rfl, hgr, fun j hj => by
              obtain rfl : j = 0 := by simpa using hj
              exact cx⟩⟩ hPI.out)
            have hiI : (i : Int) < M := by omega
            have hco2 : i + 1 ≤ c5 := by omega
            have hco3 : (i : Int) + 1 ≤ c5 := by omega
            have hcx' := Lib.hid cx
            clear hc1 hc1i hcv hcb hg6 cx hgr
            obtain ⟨R, hR⟩ : ∃ R, R = T.testBit c := ⟨_, rfl⟩
            have hR' := Lib.hid hR
            rw [← hR] at hcc
            clear hR
            go_upto_if 115 with (go_at_call 44; refine (hcc.out _ (by omega)).mono ?_; rintro e w8 ⟨rfl, hb8⟩; have hb8' := Lib.hid hb8; clear hb8 hcc)
            have hbi2 := Lib.hid (below_call hbi.out hb8'.out)
            have hP8 := Lib.hid (hPI.out.below hb8'.out)
            have cx8 := (hb8'.out.cell (p := ⟨g2, o2 + i, none⟩) hgr'.out).trans hcx'.out
            have hg8 := Lib.hid (Nat.lt_of_lt_of_le hgr'.out hb8'.out.size)
            have hcx8 := Lib.hid cx8
            go_cut [19, 20] from 101 to 177 (fun mv _ wx => ∃ w9 : World, w9 = wx ∧ ∃ (am : Option Addr) (lm cm : Nat), mv = .slice am lm cm ∧ Hid (Reads w9 (.slice am lm cm) (natI (bl (T ||| 2 ^ c)))) ∧ Hid (Below w6.heap.size w6 w9))
            case first =>
              cases R
              · rcases hshq.out with ⟨rfl, rfl, rfl⟩ | ⟨bo, rfl⟩
                · have hTz := Lib.hid (show bl T = [] from List.length_eq_zero_iff.1 hlq2.out)
                  have hput := Lib.hid (bl_put (T := T) (c := c) (k := 0) hT4.out hc12 hR'.out.symm (fun j hj => absurd hj (Nat.not_lt_zero j)) (fun h => by rw [hlq2.out] at h; omega))
                  go_wp2_with fail
                  go_loopw [20] (fun kv wr => kv = .int .i64 0 ∧ Hid (Below w8.heap.size w8 wr)) (fun _ _ => 0)
                  case atStart => exact ⟨rfl, Lib.hid (Below.refl _ _)⟩
                  case round =>
                    obtain ⟨rfl, hbk⟩ := hrel
                    have cx9 := (hbk.out.cell (p := ⟨g2, o2 + i, none⟩) hg8.out).trans hcx8.out
                    go_wp2
                    go_quiet (fail)
                    go_wp2_with fail
                    obtain ⟨wi, hwi⟩ : ∃ wi, wi = World.drewN wr nq := ⟨_, rfl⟩
                    have hbq := Lib.hid (show Below wr.heap.size wr wi from by rw [hwi]; exact below_drewN (Below.refl wr.heap.size wr) nq)
                    rw [← hwi]
                    clear hwi
                    have hbiW := Lib.hid (below_call (below_call hbi2.out hbk.out) hbq.out)
                    have hb8i := Lib.hid (below_call hbk.out hbq.out)
                    have hPi := Lib.hid (hP8.out.below hb8i.out)
                    have hgi := Lib.hid (Nat.lt_of_lt_of_le hg8.out hb8i.out.size)
                    have hci := Lib.hid ((hb8i.out.cell (p := ⟨g2, o2 + i, none⟩) hg8.out).trans hcx8.out)
                    have hdc := Lib.hid (fun (W : World) (h : Below wi.heap.size wi W) => (h.cell (p := ⟨g2, o2 + i, none⟩) hgi.out).trans hci.out)
                    have A1 := Lib.hid (Ints.drew (lit_at wi wi.heap.size wi.heap.size (Nat.le_refl _) rfl))
                    have bA := Lib.hid (((Below.refl wi.heap.size wi).alloc (Nat.le_refl _) (.cells #[] 3)).drew)
                    have B1 := Lib.hid (Ints.drew (Ints.alloc (lit_at wi wi.heap.size wi.heap.size (Nat.le_refl _) rfl) (.cells #[.int .i64 (c : Int)] 3)))
                    have bB := Lib.hid ((((Below.refl wi.heap.size wi).alloc (Nat.le_refl _) (.cells #[] 3)).alloc (by simp) (.cells #[.int .i64 (c : Int)] 3)).drew)
                    have C1 := Lib.hid (Ints.drew (lit_at (wi.alloc (.cells #[.int .i64 (c : Int)] 3)) wi.heap.size (wi.heap.size + 1) (by simp) (by simp)))
                    have bC := Lib.hid ((((Below.refl wi.heap.size wi).alloc (Nat.le_refl _) (.cells #[.int .i64 (c : Int)] 3)).alloc (by simp) (.cells #[] 3)).drew)
                    have cB := Lib.hid (show ((wi.alloc (.cells #[] 3)).alloc (.cells #[.int .i64 (c : Int)] 3)).drew.cell? ⟨wi.heap.size + 1, 0, none⟩ = some (.int .i64 (c : Int)) by
                      rw [World.cell?_drew, World.cell?_alloc_at (hn := by simp)]; rfl)
                    have cC := Lib.hid (show ((wi.alloc (.cells #[.int .i64 (c : Int)] 3)).alloc (.cells #[] 3)).drew.cell? ⟨wi.heap.size, 0, none⟩ = some (.int .i64 (c : Int)) by
                      rw [World.cell?_drew]
                      exact ((below_alloc1 (wi.alloc (.cells #[.int .i64 (c : Int)] 3)) (.cells #[] 3)).cell (p := ⟨wi.heap.size, 0, none⟩) (by simp)).trans (by rw [World.cell?_alloc_at (hn := rfl)]; rfl))
                    have hxA := hdc.out _ bA.out
                    have hxB := hdc.out _ bB.out
                    have hxC := hdc.out _ bC.out
                    have hxD := hdc.out _ (below_alloc1 wi (.cells #[] 3))
                    have hxE := hdc.out _ (below_alloc1 wi (.cells #[.int .i64 (c : Int)] 3))
                    have hxF := hdc.out _ (Below.refl _ wi)
                    go_region_law (first
                      | (refine step_nil rfl (.tmp 133) (.tmp 136) rfl A1.out (by simp [Act.eval]) (by simp [Act.eval]) ?_)
                      | (refine step_nil rfl (.tmp 133) (.tmp 136) rfl B1.out (by simp [Act.eval]) (by simp [Act.eval]) ?_)
                      | (refine step_nil rfl (.tmp 133) (.tmp 136) rfl C1.out (by simp [Act.eval]) (by simp [Act.eval]) ?_)
                      | (refine step_ints rfl (.tmp 137) (.tmp 142) rfl B1.out (by simp [Act.eval]) _ 0 1 1 (by simp [Act.eval]) (reads_one cB.out) rfl (by simp) (by simp; omega) ?_; intro v47 w47 h47 hb47 hk47; have b47 := bB.out.trans hb47)
                      | (refine step_ints rfl (.tmp 137) (.tmp 142) rfl C1.out (by simp [Act.eval]) _ 0 1 1 (by simp [Act.eval]) (reads_one cC.out) rfl (by simp) (by simp; omega) ?_; intro v47 w47 h47 hb47 hk47; have b47 := bC.out.trans hb47)
                      | (refine step_nil rfl (.tmp 143) (.tmp 146) rfl h47 (by simp [Act.eval]) (by simp [Act.eval]) ?_; have h51 := h47; have b51 := b47; clear h47 b47))
                    all_goals
                      have e51 : ([] ++ [(c : Int)]) = natI (bl (T ||| 2 ^ c)) := by
                        rw [← hput.out]; simp [natI, hTz.out]
                      rw [e51] at h51
                      have h51' := Lib.hid h51.shape
                      have hb51' := Lib.hid (below_call hbiW.out b51)
                      obtain ⟨am, cm, rfl, -⟩ := id h51.shape
                      clear h51 e51 b51
                      go_wp2_with fail
                      go_meet
                      exact ⟨_, rfl, _, _, _, rfl, h51', hb51'⟩
                · have hcq := Lib.hid (show lq ≤ cq from by obtain ⟨_, _, e, h, _⟩ := hP8.out; rw [hlqI.out] at h; injection e with _ _ e3; rw [e3]; exact h)
                  go_wp2_with fail
                  go_loopw [20] (fun kv wr => ∃ k : Nat, k ≤ lq ∧ kv = .int .i64 (k : Int) ∧ Hid (∀ j, j < k → j < (bl T).length → (bl T).getD j 0 < c) ∧ Hid (Below w8.heap.size w8 wr)) (fun kv _ => lq - (intOf kv).toNat)
                  case atStart => exact ⟨0, Nat.zero_le _, rfl, Lib.hid (fun j hj => absurd hj (Nat.not_lt_zero j)), Lib.hid (Below.refl _ _)⟩
                  case round =>
                    obtain ⟨k, hk, rfl, hlo, hbk⟩ := hrel
                    have cx9 := (hbk.out.cell (p := ⟨g2, o2 + i, none⟩) hg8.out).trans hcx8.out
                    by_cases hlt3 : k < lq
                    · have hkT : k < (bl T).length := by rw [hlq2.out]; exact hlt3
                      obtain ⟨g5, o5, e5, hg5, hc5'⟩ := hP8.out.at hlqI.out hlt3
                      have cy := hc5' k hlt3
                      obtain ⟨rfl, rfl⟩ : bo = g5 ∧ 0 = o5 := by injection e5 with e6; injection e6 with e7 e8; exact ⟨e7, e8⟩
                      rw [Nat.zero_add, show (natI (bl T)).getD k 0 = (((bl T).getD k 0 : Nat) : Int) from by simp [natI, List.getD_eq_getElem?_getD, hkT]] at cy
                      have cy2 := (hbk.out.cell (p := ⟨bo, k, none⟩) hg5).trans cy
                      obtain ⟨x, hx⟩ : ∃ x, x = (bl T).getD k 0 := ⟨_, rfl⟩
                      rw [← hx] at cy2
                      have hx' := Lib.hid hx
                      have hki : (k : Int) < lq := by omega
                      clear cy hc5' e5 hx
                      by_cases hxc : x < c
                      · have hxd : decide ((x : Int) < (c : Int)) = true := decide_eq_true (by omega)
                        have hxd2 : decide (x < c) = true := decide_eq_true hxc
                        have hxd3 : (x : Int) < (c : Int) := by omega
                        have hlo2 := Lib.hid (show ∀ j, j < k + 1 → j < (bl T).length → (bl T).getD j 0 < c from fun j hj hl => by
                          rcases Nat.lt_succ_iff_lt_or_eq.1 hj with h | h
                          · exact hlo.out j h hl
                          · rw [h, ← hx'.out]; exact hxc)
                        clear hxc
                        go_wp2
                        go_quiet (fail)
                        go_wp2_with fail
                        go_roundw
                        case rel => exact ⟨k + 1, by omega, by go_num, hlo2, Lib.hid (below_drewN hbk.out _)⟩
                        case measure => simp [intOf]; omega
                      · have hck : ¬ cq = k := by have := hcq.out; omega
                        have hxd : decide ((x : Int) < (c : Int)) = false := decide_eq_false (by omega)
                        have hxd2 : decide (x < c) = false := decide_eq_false hxc
                        have hput := Lib.hid (bl_put (T := T) (c := c) (k := k) hT4.out hc12 hR'.out.symm hlo.out (fun _ => by rw [← hx'.out]; exact hxc))
                        clear hxc
                        go_wp2
                        go_quiet (fail)
                        go_wp2_with fail
                        obtain ⟨wi, hwi⟩ : ∃ wi, wi = World.drewN wr nq := ⟨_, rfl⟩
                        have hbq := Lib.hid (show Below wr.heap.size wr wi from by rw [hwi]; exact below_drewN (Below.refl wr.heap.size wr) nq)
                        rw [← hwi]
                        clear hwi
                        have hbiW := Lib.hid (below_call (below_call hbi2.out hbk.out) hbq.out)
                        have hb8i := Lib.hid (below_call hbk.out hbq.out)
                        have hPi := Lib.hid (hP8.out.below hb8i.out)
                        have hgi := Lib.hid (Nat.lt_of_lt_of_le hg8.out hb8i.out.size)
                        have hci := Lib.hid ((hb8i.out.cell (p := ⟨g2, o2 + i, none⟩) hg8.out).trans hcx8.out)
                        have hdc := Lib.hid (fun (W : World) (h : Below wi.heap.size wi W) => (h.cell (p := ⟨g2, o2 + i, none⟩) hgi.out).trans hci.out)
                        have hkp : (k : Int) ≤ (cq : Int) := by have := hcq.out; omega
                        have A1 := Lib.hid (Ints.drew (lit_at wi wi.heap.size wi.heap.size (Nat.le_refl _) rfl))
                        have bA := Lib.hid (((Below.refl wi.heap.size wi).alloc (Nat.le_refl _) (.cells #[] 3)).drew)
                        have B1 := Lib.hid (Ints.drew (Ints.alloc (lit_at wi wi.heap.size wi.heap.size (Nat.le_refl _) rfl) (.cells #[.int .i64 (c : Int)] 3)))
                        have bB := Lib.hid ((((Below.refl wi.heap.size wi).alloc (Nat.le_refl _) (.cells #[] 3)).alloc (by simp) (.cells #[.int .i64 (c : Int)] 3)).drew)
                        have C1 := Lib.hid (Ints.drew (lit_at (wi.alloc (.cells #[.int .i64 (c : Int)] 3)) wi.heap.size (wi.heap.size + 1) (by simp) (by simp)))
                        have bC := Lib.hid ((((Below.refl wi.heap.size wi).alloc (Nat.le_refl _) (.cells #[.int .i64 (c : Int)] 3)).alloc (by simp) (.cells #[] 3)).drew)
                        have cB := Lib.hid (show ((wi.alloc (.cells #[] 3)).alloc (.cells #[.int .i64 (c : Int)] 3)).drew.cell? ⟨wi.heap.size + 1, 0, none⟩ = some (.int .i64 (c : Int)) by
                          rw [World.cell?_drew, World.cell?_alloc_at (hn := by simp)]; rfl)
                        have cC := Lib.hid (show ((wi.alloc (.cells #[.int .i64 (c : Int)] 3)).alloc (.cells #[] 3)).drew.cell? ⟨wi.heap.size, 0, none⟩ = some (.int .i64 (c : Int)) by
                          rw [World.cell?_drew]
                          exact ((below_alloc1 (wi.alloc (.cells #[.int .i64 (c : Int)] 3)) (.cells #[] 3)).cell (p := ⟨wi.heap.size, 0, none⟩) (by simp)).trans (by rw [World.cell?_alloc_at (hn := rfl)]; rfl))
                        have hxA := hdc.out _ bA.out
                        have hxB := hdc.out _ bB.out
                        have hxC := hdc.out _ bC.out
                        have hxD := hdc.out _ (below_alloc1 wi (.cells #[] 3))
                        have hxE := hdc.out _ (below_alloc1 wi (.cells #[.int .i64 (c : Int)] 3))
                        have hxF := hdc.out _ (Below.refl _ wi)
                        have rT : Reads wi (.slice (some ⟨bo, 0, none⟩) k cq) ((natI (bl T)).take k) := Reads.take hlqI.out hPi.out hk
                        have rD : Reads wi (.slice (some ⟨bo, k, none⟩) (lq - k) (cq - k)) ((natI (bl T)).drop k) := reads_drop hPi.out hlqI.out hk (fun h => by omega)
                        have rA := Lib.hid (rT.below bA.out)
                        have rB := Lib.hid (rT.below bB.out)
                        have rC := Lib.hid (rT.below bC.out)
                        have hlk := Lib.hid (show ((natI (bl T)).take k).length = k by rw [List.length_take, hlqI.out]; omega)
                        have hld := Lib.hid (show ((natI (bl T)).drop k).length = lq - k by rw [List.length_drop, hlqI.out])
                        go_region_law (first
                          | (refine step_ints rfl (.tmp 133) (.tmp 136) rfl A1.out (by simp [Act.eval]) bo 0 k cq (by simp [Act.eval]) rA.out hlk.out (by rw [hlk.out]; first | (simp; done) | (simp; omega)) (by first | (simp; done) | (simp; omega)) ?_; intro v44 w44 h44 hb44 hk44; have b44 := bA.out.trans hb44; have hxG := hdc.out _ b44)
                          | (refine step_ints rfl (.tmp 133) (.tmp 136) rfl B1.out (by simp [Act.eval]) bo 0 k cq (by simp [Act.eval]) rB.out hlk.out (by rw [hlk.out]; first | (simp; done) | (simp; omega)) (by first | (simp; done) | (simp; omega)) ?_; intro v44 w44 h44 hb44 hk44; have b44 := bB.out.trans hb44; have hyc := hk44 _ 0 _ (by simp [Value.ownBlock]) cB.out)
                          | (refine step_ints rfl (.tmp 133) (.tmp 136) rfl C1.out (by simp [Act.eval]) bo 0 k cq (by simp [Act.eval]) rC.out hlk.out (by rw [hlk.out]; first | (simp; done) | (simp; omega)) (by first | (simp; done) | (simp; omega)) ?_; intro v44 w44 h44 hb44 hk44; have b44 := bC.out.trans hb44; have hyc := hk44 _ 0 _ (by simp [Value.ownBlock]) cC.out)
                          | (refine step_ints rfl (.tmp 137) (.tmp 142) rfl (h44.alloc _) (by simp [Act.eval]) w44.heap.size 0 1 1 (by simp [Act.eval]) (reads_one (y := (c : Int)) (by rw [World.cell?_alloc_at (hn := rfl)]; rfl)) rfl (by rw [List.nil_append, hlk.out]; simp; omega) (by have := b44.size; simp; omega) ?_; intro v47 w47 h47 hb47 hk47; have b47 := (b44.alloc b44.size _).trans hb47)
                          | (refine step_ints rfl (.tmp 137) (.tmp 142) rfl h44 (by simp [Act.eval]) _ 0 1 1 (by simp [Act.eval]) (reads_one hyc) rfl (by rw [List.nil_append, hlk.out]; simp; omega) b44.size ?_; intro v47 w47 h47 hb47 hk47; have b47 := b44.trans hb47)
                          | (refine step_ints rfl (.tmp 143) (.tmp 146) rfl h47 (by simp [Act.eval]) bo (k) (lq - k) (cq - k) (by simp [Act.eval]) (rD.below b47) hld.out (by rw [hld.out, List.nil_append, List.length_append, hlk.out]; simp; omega) b47.size ?_; intro v51 w51 h51 hb51 hk51; have b51 := b47.trans hb51))
                        all_goals
                          have e51 : (([] ++ (natI (bl T)).take k) ++ [(c : Int)]) ++ (natI (bl T)).drop k = natI (bl (T ||| 2 ^ c)) := by
                            rw [← hput.out]; simp [natI, List.map_take, List.map_drop]
                          rw [e51] at h51
                          have h51' := Lib.hid h51.shape
                          have hb51' := Lib.hid (below_call hbiW.out b51)
                          obtain ⟨am, cm, rfl, -⟩ := id h51.shape
                          clear h51 e51 b51
                          go_wp2_with fail
                          go_meet
                          exact ⟨_, rfl, _, _, _, rfl, h51', hb51'⟩
                    · have hkq := Lib.hid (show k = lq from by omega)
                      have hltI : ¬ (k : Int) < lq := by omega
                      have hput := Lib.hid (bl_put (T := T) (c := c) (k := k) hT4.out hc12 hR'.out.symm hlo.out (fun h => by rw [hlq2.out] at h; omega))
                      by_cases hck : cq = k
                      · subst hck
                        go_wp2
                        go_quiet (fail)
                        go_wp2_with fail
                        obtain ⟨wi, hwi⟩ : ∃ wi, wi = World.drewN wr nq := ⟨_, rfl⟩
                        have hbq := Lib.hid (show Below wr.heap.size wr wi from by rw [hwi]; exact below_drewN (Below.refl wr.heap.size wr) nq)
                        rw [← hwi]
                        clear hwi
                        have hbiW := Lib.hid (below_call (below_call hbi2.out hbk.out) hbq.out)
                        have hb8i := Lib.hid (below_call hbk.out hbq.out)
                        have hPi := Lib.hid (hP8.out.below hb8i.out)
                        have hgi := Lib.hid (Nat.lt_of_lt_of_le hg8.out hb8i.out.size)
                        have hci := Lib.hid ((hb8i.out.cell (p := ⟨g2, o2 + i, none⟩) hg8.out).trans hcx8.out)
                        have hdc := Lib.hid (fun (W : World) (h : Below wi.heap.size wi W) => (h.cell (p := ⟨g2, o2 + i, none⟩) hgi.out).trans hci.out)
                        have hkp : (cq : Int) ≤ (cq : Int) := by have := hcq.out; omega
                        have A1 := Lib.hid (Ints.drew (lit_at wi wi.heap.size wi.heap.size (Nat.le_refl _) rfl))
                        have bA := Lib.hid (((Below.refl wi.heap.size wi).alloc (Nat.le_refl _) (.cells #[] 3)).drew)
                        have B1 := Lib.hid (Ints.drew (Ints.alloc (lit_at wi wi.heap.size wi.heap.size (Nat.le_refl _) rfl) (.cells #[.int .i64 (c : Int)] 3)))
                        have bB := Lib.hid ((((Below.refl wi.heap.size wi).alloc (Nat.le_refl _) (.cells #[] 3)).alloc (by simp) (.cells #[.int .i64 (c : Int)] 3)).drew)
                        have C1 := Lib.hid (Ints.drew (lit_at (wi.alloc (.cells #[.int .i64 (c : Int)] 3)) wi.heap.size (wi.heap.size + 1) (by simp) (by simp)))
                        have bC := Lib.hid ((((Below.refl wi.heap.size wi).alloc (Nat.le_refl _) (.cells #[.int .i64 (c : Int)] 3)).alloc (by simp) (.cells #[] 3)).drew)
                        have cB := Lib.hid (show ((wi.alloc (.cells #[] 3)).alloc (.cells #[.int .i64 (c : Int)] 3)).drew.cell? ⟨wi.heap.size + 1, 0, none⟩ = some (.int .i64 (c : Int)) by
                          rw [World.cell?_drew, World.cell?_alloc_at (hn := by simp)]; rfl)
                        have cC := Lib.hid (show ((wi.alloc (.cells #[.int .i64 (c : Int)] 3)).alloc (.cells #[] 3)).drew.cell? ⟨wi.heap.size, 0, none⟩ = some (.int .i64 (c : Int)) by
                          rw [World.cell?_drew]
                          exact ((below_alloc1 (wi.alloc (.cells #[.int .i64 (c : Int)] 3)) (.cells #[] 3)).cell (p := ⟨wi.heap.size, 0, none⟩) (by simp)).trans (by rw [World.cell?_alloc_at (hn := rfl)]; rfl))
                        have hxA := hdc.out _ bA.out
                        have hxB := hdc.out _ bB.out
                        have hxC := hdc.out _ bC.out
                        have hxD := hdc.out _ (below_alloc1 wi (.cells #[] 3))
                        have hxE := hdc.out _ (below_alloc1 wi (.cells #[.int .i64 (c : Int)] 3))
                        have hxF := hdc.out _ (Below.refl _ wi)
                        have rT : Reads wi (.slice (some ⟨bo, 0, none⟩) cq cq) ((natI (bl T)).take cq) := Reads.take hlqI.out hPi.out hk
                        have rD : Reads wi (.slice (some ⟨bo, 0, none⟩) (lq - cq) (cq - cq)) ((natI (bl T)).drop cq) := reads_drop hPi.out hlqI.out hk (fun h => by have := hkq.out; omega)
                        have rA := Lib.hid (rT.below bA.out)
                        have rB := Lib.hid (rT.below bB.out)
                        have rC := Lib.hid (rT.below bC.out)
                        have hlk := Lib.hid (show ((natI (bl T)).take cq).length = cq by rw [List.length_take, hlqI.out]; omega)
                        have hld := Lib.hid (show ((natI (bl T)).drop cq).length = lq - cq by rw [List.length_drop, hlqI.out])
                        go_region_law (first
                          | (refine step_ints rfl (.tmp 133) (.tmp 136) rfl A1.out (by simp [Act.eval]) bo 0 cq cq (by simp [Act.eval]) rA.out hlk.out (by rw [hlk.out]; first | (simp; done) | (simp; omega)) (by first | (simp; done) | (simp; omega)) ?_; intro v44 w44 h44 hb44 hk44; have b44 := bA.out.trans hb44; have hxG := hdc.out _ b44)
                          | (refine step_ints rfl (.tmp 133) (.tmp 136) rfl B1.out (by simp [Act.eval]) bo 0 cq cq (by simp [Act.eval]) rB.out hlk.out (by rw [hlk.out]; first | (simp; done) | (simp; omega)) (by first | (simp; done) | (simp; omega)) ?_; intro v44 w44 h44 hb44 hk44; have b44 := bB.out.trans hb44; have hyc := hk44 _ 0 _ (by simp [Value.ownBlock]) cB.out)
                          | (refine step_ints rfl (.tmp 133) (.tmp 136) rfl C1.out (by simp [Act.eval]) bo 0 cq cq (by simp [Act.eval]) rC.out hlk.out (by rw [hlk.out]; first | (simp; done) | (simp; omega)) (by first | (simp; done) | (simp; omega)) ?_; intro v44 w44 h44 hb44 hk44; have b44 := bC.out.trans hb44; have hyc := hk44 _ 0 _ (by simp [Value.ownBlock]) cC.out)
                          | (refine step_ints rfl (.tmp 137) (.tmp 142) rfl (h44.alloc _) (by simp [Act.eval]) w44.heap.size 0 1 1 (by simp [Act.eval]) (reads_one (y := (c : Int)) (by rw [World.cell?_alloc_at (hn := rfl)]; rfl)) rfl (by rw [List.nil_append, hlk.out]; simp; omega) (by have := b44.size; simp; omega) ?_; intro v47 w47 h47 hb47 hk47; have b47 := (b44.alloc b44.size _).trans hb47)
                          | (refine step_ints rfl (.tmp 137) (.tmp 142) rfl h44 (by simp [Act.eval]) _ 0 1 1 (by simp [Act.eval]) (reads_one hyc) rfl (by rw [List.nil_append, hlk.out]; simp; omega) b44.size ?_; intro v47 w47 h47 hb47 hk47; have b47 := b44.trans hb47)
                          | (refine step_ints rfl (.tmp 143) (.tmp 146) rfl h47 (by simp [Act.eval]) bo (0) (lq - cq) (cq - cq) (by simp [Act.eval]) (rD.below b47) hld.out (by rw [hld.out, List.nil_append, List.length_append, hlk.out]; simp; omega) b47.size ?_; intro v51 w51 h51 hb51 hk51; have b51 := b47.trans hb51))
                        all_goals
                          have e51 : (([] ++ (natI (bl T)).take cq) ++ [(c : Int)]) ++ (natI (bl T)).drop cq = natI (bl (T ||| 2 ^ c)) := by
                            rw [← hput.out]; simp [natI, List.map_take, List.map_drop]
                          rw [e51] at h51
                          have h51' := Lib.hid h51.shape
                          have hb51' := Lib.hid (below_call hbiW.out b51)
                          obtain ⟨am, cm, rfl, -⟩ := id h51.shape
                          clear h51 e51 b51
                          go_wp2_with fail
                          go_meet
                          exact ⟨_, rfl, _, _, _, rfl, h51', hb51'⟩
                      · go_wp2
                        go_quiet (fail)
                        go_wp2_with fail
                        obtain ⟨wi, hwi⟩ : ∃ wi, wi = World.drewN wr nq := ⟨_, rfl⟩
                        have hbq := Lib.hid (show Below wr.heap.size wr wi from by rw [hwi]; exact below_drewN (Below.refl wr.heap.size wr) nq)
                        rw [← hwi]
                        clear hwi
                        have hbiW := Lib.hid (below_call (below_call hbi2.out hbk.out) hbq.out)
                        have hb8i := Lib.hid (below_call hbk.out hbq.out)
                        have hPi := Lib.hid (hP8.out.below hb8i.out)
                        have hgi := Lib.hid (Nat.lt_of_lt_of_le hg8.out hb8i.out.size)
                        have hci := Lib.hid ((hb8i.out.cell (p := ⟨g2, o2 + i, none⟩) hg8.out).trans hcx8.out)
                        have hdc := Lib.hid (fun (W : World) (h : Below wi.heap.size wi W) => (h.cell (p := ⟨g2, o2 + i, none⟩) hgi.out).trans hci.out)
                        have hkp : (k : Int) ≤ (cq : Int) := by have := hcq.out; omega
                        have A1 := Lib.hid (Ints.drew (lit_at wi wi.heap.size wi.heap.size (Nat.le_refl _) rfl))
                        have bA := Lib.hid (((Below.refl wi.heap.size wi).alloc (Nat.le_refl _) (.cells #[] 3)).drew)
                        have B1 := Lib.hid (Ints.drew (Ints.alloc (lit_at wi wi.heap.size wi.heap.size (Nat.le_refl _) rfl) (.cells #[.int .i64 (c : Int)] 3)))
                        have bB := Lib.hid ((((Below.refl wi.heap.size wi).alloc (Nat.le_refl _) (.cells #[] 3)).alloc (by simp) (.cells #[.int .i64 (c : Int)] 3)).drew)
                        have C1 := Lib.hid (Ints.drew (lit_at (wi.alloc (.cells #[.int .i64 (c : Int)] 3)) wi.heap.size (wi.heap.size + 1) (by simp) (by simp)))
                        have bC := Lib.hid ((((Below.refl wi.heap.size wi).alloc (Nat.le_refl _) (.cells #[.int .i64 (c : Int)] 3)).alloc (by simp) (.cells #[] 3)).drew)
                        have cB := Lib.hid (show ((wi.alloc (.cells #[] 3)).alloc (.cells #[.int .i64 (c : Int)] 3)).drew.cell? ⟨wi.heap.size + 1, 0, none⟩ = some (.int .i64 (c : Int)) by
                          rw [World.cell?_drew, World.cell?_alloc_at (hn := by simp)]; rfl)
                        have cC := Lib.hid (show ((wi.alloc (.cells #[.int .i64 (c : Int)] 3)).alloc (.cells #[] 3)).drew.cell? ⟨wi.heap.size, 0, none⟩ = some (.int .i64 (c : Int)) by
                          rw [World.cell?_drew]
                          exact ((below_alloc1 (wi.alloc (.cells #[.int .i64 (c : Int)] 3)) (.cells #[] 3)).cell (p := ⟨wi.heap.size, 0, none⟩) (by simp)).trans (by rw [World.cell?_alloc_at (hn := rfl)]; rfl))
                        have hxA := hdc.out _ bA.out
                        have hxB := hdc.out _ bB.out
                        have hxC := hdc.out _ bC.out
                        have hxD := hdc.out _ (below_alloc1 wi (.cells #[] 3))
                        have hxE := hdc.out _ (below_alloc1 wi (.cells #[.int .i64 (c : Int)] 3))
                        have hxF := hdc.out _ (Below.refl _ wi)
                        have rT : Reads wi (.slice (some ⟨bo, 0, none⟩) k cq) ((natI (bl T)).take k) := Reads.take hlqI.out hPi.out hk
                        have rD : Reads wi (.slice (some ⟨bo, k, none⟩) (lq - k) (cq - k)) ((natI (bl T)).drop k) := reads_drop hPi.out hlqI.out hk (fun h => by omega)
                        have rA := Lib.hid (rT.below bA.out)
                        have rB := Lib.hid (rT.below bB.out)
                        have rC := Lib.hid (rT.below bC.out)
                        have hlk := Lib.hid (show ((natI (bl T)).take k).length = k by rw [List.length_take, hlqI.out]; omega)
                        have hld := Lib.hid (show ((natI (bl T)).drop k).length = lq - k by rw [List.length_drop, hlqI.out])
                        go_region_law (first
                          | (refine step_ints rfl (.tmp 133) (.tmp 136) rfl A1.out (by simp [Act.eval]) bo 0 k cq (by simp [Act.eval]) rA.out hlk.out (by rw [hlk.out]; first | (simp; done) | (simp; omega)) (by first | (simp; done) | (simp; omega)) ?_; intro v44 w44 h44 hb44 hk44; have b44 := bA.out.trans hb44; have hxG := hdc.out _ b44)
                          | (refine step_ints rfl (.tmp 133) (.tmp 136) rfl B1.out (by simp [Act.eval]) bo 0 k cq (by simp [Act.eval]) rB.out hlk.out (by rw [hlk.out]; first | (simp; done) | (simp; omega)) (by first | (simp; done) | (simp; omega)) ?_; intro v44 w44 h44 hb44 hk44; have b44 := bB.out.trans hb44; have hyc := hk44 _ 0 _ (by simp [Value.ownBlock]) cB.out)
                          | (refine step_ints rfl (.tmp 133) (.tmp 136) rfl C1.out (by simp [Act.eval]) bo 0 k cq (by simp [Act.eval]) rC.out hlk.out (by rw [hlk.out]; first | (simp; done) | (simp; omega)) (by first | (simp; done) | (simp; omega)) ?_; intro v44 w44 h44 hb44 hk44; have b44 := bC.out.trans hb44; have hyc := hk44 _ 0 _ (by simp [Value.ownBlock]) cC.out)
                          | (refine step_ints rfl (.tmp 137) (.tmp 142) rfl (h44.alloc _) (by simp [Act.eval]) w44.heap.size 0 1 1 (by simp [Act.eval]) (reads_one (y := (c : Int)) (by rw [World.cell?_alloc_at (hn := rfl)]; rfl)) rfl (by rw [List.nil_append, hlk.out]; simp; omega) (by have := b44.size; simp; omega) ?_; intro v47 w47 h47 hb47 hk47; have b47 := (b44.alloc b44.size _).trans hb47)
                          | (refine step_ints rfl (.tmp 137) (.tmp 142) rfl h44 (by simp [Act.eval]) _ 0 1 1 (by simp [Act.eval]) (reads_one hyc) rfl (by rw [List.nil_append, hlk.out]; simp; omega) b44.size ?_; intro v47 w47 h47 hb47 hk47; have b47 := b44.trans hb47)
                          | (refine step_ints rfl (.tmp 143) (.tmp 146) rfl h47 (by simp [Act.eval]) bo (k) (lq - k) (cq - k) (by simp [Act.eval]) (rD.below b47) hld.out (by rw [hld.out, List.nil_append, List.length_append, hlk.out]; simp; omega) b47.size ?_; intro v51 w51 h51 hb51 hk51; have b51 := b47.trans hb51))
                        all_goals
                          have e51 : (([] ++ (natI (bl T)).take k) ++ [(c : Int)]) ++ (natI (bl T)).drop k = natI (bl (T ||| 2 ^ c)) := by
                            rw [← hput.out]; simp [natI, List.map_take, List.map_drop]
                          rw [e51] at h51
                          have h51' := Lib.hid h51.shape
                          have hb51' := Lib.hid (below_call hbiW.out b51)
                          obtain ⟨am, cm, rfl, -⟩ := id h51.shape
                          clear h51 e51 b51
                          go_wp2_with fail
                          go_meet
                          exact ⟨_, rfl, _, _, _, rfl, h51', hb51'⟩
              · go_wp2_with fail
                go_meet
                exact ⟨_, rfl, _, _, _, rfl, Lib.hid (by rw [or_same hR'.out.symm]; exact hP8.out), hbi2⟩
            case rest =>
              obtain ⟨w9, rfl, am, lm, cm, rfl, hR9, hb9⟩ := hcut
              have hbW9 := Lib.hid (below_call hb6.out hb9.out)
              have ho9 := Lib.hid (ho6.out.below hb9.out)
              have hR69 := Lib.hid (hR6.out.below hb9.out)
              go_wp2_with (first
                | (go_at_call 34; refine (h34.out _ (T ||| 2 ^ c) _ _ hU'.out hbW9.out ho9.out hR9.out).mono ?_; rw [hUa'.out]; rintro e w10 ⟨rfl, hb⟩; have hb10 := Lib.hid (below_call hbW9.out hb); have hbx10 := Lib.hid (below_call hb9.out hb); have ho10 := Lib.hid (ho9.out.below hb); have hR10 := Lib.hid (hR9.out.below hb); have hD10 := Lib.hid (hR69.out.below hb); clear hb)
                | (go_at_call 35; refine (h35.out _ (T ||| 2 ^ c) _ _ hU'.out hb10.out ho10.out hR10.out).mono ?_; rintro e w11 ⟨v11, rfl, hz, hb⟩; have hz11 := Lib.hid hz.shape; have hbx11 := Lib.hid (below_call hbx10.out hb); have hD11 := Lib.hid (hD10.out.below hb); clear hb hz)
                | (go_at_call 44; refine (h44.out _ D (dfd sz L (T ||| 2 ^ c)) _ _ hUi'.out hD11.out hz11.out).mono ?_; rintro e w12 ⟨rfl, hb⟩; have hbx12 := Lib.hid (below_call hbx11.out hb); clear hb))
              go_roundw
              case rel => exact ⟨i + 1, by omega, by go_num, hbx12⟩
              case measure => simp [intOf]; omega
          · go_wp2_with fail
            go_ret
            exact ⟨rfl, hbV.out⟩

end Go.Proofs.YtpcjigdmfchbdaaDoor
