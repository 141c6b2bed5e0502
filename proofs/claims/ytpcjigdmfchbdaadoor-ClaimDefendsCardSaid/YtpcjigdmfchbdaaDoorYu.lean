import Derived.Test.YtpcjigdmfchbdaaDoorYl
import Derived.BigQuiet
import Derived.Deep.RegionLaw
import Derived.Deep.CutRange
namespace Go.Proofs.YtpcjigdmfchbdaaDoor
open Go.RowKit Go.Shelf Cl
attribute [local go_sem] Oper.semAt_some

def SetIs (n : Int) (xs : List Int) (S : Nat) (ok : Bool) : Prop := (ok = true ∧ rdS n xs 0 0 = some S) ∨ (ok = false ∧ S = 0 ∧ rdS n xs 0 0 = none)
def SetREnd (w : World) (n : Int) (xs : List Int) (e : Ending) (w' : World) : Prop := ∃ S ok, e = .returned (.tuple #[.int .i64 ((S : Nat) : Int), .bool ok]) ∧ Hid (SetIs n xs S ok) ∧ Below w.heap.size w w'
set_option maxRecDepth 100000 in
set_option maxHeartbeats 8000000 in
theorem refSet36 {w : World} {v : Value} {n : Nat} {xs : List Int} (hv : Reads w v xs) (hn : n ≤ 12) (hl : xs.length ≤ 1000000) : Calls Tryd.prog 36 #[v, .int .i64 (n : Int)] w (SetREnd w (n : Int) xs) := by
  obtain ⟨ao, c, rfl, -⟩ := id hv
  obtain ⟨N, hN⟩ : ∃ N, N = xs.length := ⟨_, rfl⟩
  rw [← hN] at hv hl ⊢
  have hv' := Lib.hid hv
  have hN' := Lib.hid hN
  have hw1 : IntKind.i64.wrap ((n : Int) - 1) = (n : Int) - 1 := IntWalk.i64_in _ ⟨by omega, by omega⟩
  have h52 := Lib.hid (fun (W : World) (v : Int) => show Calls Tryd.prog 52 #[.int .i64 v, .int .i64 0, .int .i64 ((n : Int) - 1)] W fun e w' => e = .returned (.bool (decide (0 ≤ v) && decide (v ≤ (n : Int) - 1))) ∧ w' = W from in52)
  have hdrop := Lib.hid (fun (k : Nat) (h : k < N) (lo : Int) (S : Nat) => rdS_drop (n := (n : Int)) (xs := xs) (k := k) (by rw [← hN]; exact h) lo S)
  have hno := Lib.hid (fun (h : rdS (n : Int) xs 0 0 = none) => show SetIs (n : Int) xs 0 false from .inr ⟨rfl, rfl, h⟩)
  have hyes := Lib.hid (fun (S : Nat) (h : rdS (n : Int) xs 0 0 = some S) => show SetIs (n : Int) xs S true from .inl ⟨rfl, h⟩)
  have hdl := Lib.hid (fun (k : Nat) (h : N ≤ k) => show xs.drop k = [] from List.drop_eq_nil_of_le (by rw [← hN]; exact h))
  have hz := Lib.hid (show rdS (n : Int) xs 0 0 = rdS (n : Int) (xs.drop 0) 0 0 from rfl)
  clear hv hN
  go_enter Tryd.func36, Tryd.ntmps36
  go_wp2
  go_loopw [6, 7] (fun mv iv wr => ∃ (k : Nat) (lo : Nat) (S : Nat), k ≤ N ∧ iv = .int .i64 (k : Int) ∧ mv = .int .i64 ((S : Nat) : Int) ∧ lo ≤ 12 ∧ S < 4096 ∧ Hid ((k = 0 ∧ lo = 0) ∨ (0 < k ∧ xs.getD (k - 1) 0 + 1 = (lo : Int))) ∧ Hid (rdS (n : Int) xs 0 0 = rdS (n : Int) (xs.drop k) (lo : Int) S) ∧ Hid (Below w.heap.size w wr)) (fun _ iv _ => N - (intOf iv).toNat)
  case atStart => exact ⟨0, 0, 0, Nat.zero_le _, rfl, rfl, by omega, by omega, Lib.hid (.inl ⟨rfl, rfl⟩), Lib.hid (by rw [hz.out]; rfl), Lib.hid (Below.refl _ _)⟩
  case round =>
    obtain ⟨k, lo, S, hk, rfl, rfl, hlo, hS, hprev, hrd, hb⟩ := hrel
    by_cases hlt : k < N
    · obtain ⟨g, o, rfl, hg, hcl⟩ := hv'.out.at hN'.out.symm hlt
      have cx := (hb.out.cell (p := ⟨g, o + k, none⟩) hg).trans (hcl k hlt)
      have hst := hdrop.out k hlt (lo : Int) S
      have hkI : (k : Int) < N := by omega
      have hbad := Lib.hid (fun (h : xs.getD k 0 < (lo : Int) ∨ (n : Int) ≤ xs.getD k 0) => hno.out (by rw [hrd.out, hst, if_pos h]))
      have hgood := Lib.hid (fun (h : ¬ (xs.getD k 0 < (lo : Int) ∨ (n : Int) ≤ xs.getD k 0)) => show rdS (n : Int) xs 0 0 = rdS (n : Int) (xs.drop (k + 1)) (xs.getD k 0 + 1) (S ||| 2 ^ (xs.getD k 0).toNat) from by rw [hrd.out, hst, if_neg h])
      have hxq := Lib.hid (show xs.getD (k + 1 - 1) 0 = xs.getD k 0 from by rw [Nat.add_sub_cancel])
      have hpc := Lib.hid (fun (h : 0 < k) => (hb.out.cell (p := ⟨g, o + (k - 1), none⟩) hg).trans (hcl (k - 1) (by omega)))
      have hp2 := hprev.out
      generalize xs.getD k 0 = x at cx hbad hgood hxq
      have hx52 := Lib.hid (fun (W : World) => h52.out W x)
      clear hcl hst
      by_cases hin : 0 ≤ x ∧ x ≤ (n : Int) - 1
      · have hxx : (decide (0 ≤ x) && decide (x ≤ (n : Int) - 1)) = true := by rw [decide_eq_true hin.1, decide_eq_true hin.2]; rfl
        rw [hxx] at hx52
        obtain ⟨a, rfl⟩ : ∃ a : Nat, x = (a : Int) := ⟨x.toNat, by omega⟩
        have ha12 : a < 12 := by omega
        have hP := p2w a ha12
        have hor := or_i64 S (2 ^ a) (by omega) (by have := Nat.pow_lt_pow_right (a := 2) (m := a) (n := 12) (by decide) ha12; omega)
        have hSn := Lib.hid (show S ||| 2 ^ a < 4096 from Nat.or_lt_two_pow (n := 12) hS (Nat.pow_lt_pow_right (a := 2) (m := a) (n := 12) (by decide) ha12))
        have ha64 : (a : Int) < 64 := by omega
        have hin1 : (a : Int) ≤ (n : Int) - 1 := hin.2
        rw [Int.toNat_natCast] at hgood
        clear hxx hin
        rcases hp2 with ⟨rfl, rfl⟩ | ⟨hk0, hpl⟩
        · have hg2 := Lib.hid (hgood.out (by omega))
          generalize 2 ^ a = P at hP hor hSn hg2
          rw [Nat.add_zero] at cx
          have hkI0 : (0 : Int) < N := by omega
          clear hprev hbad hgood hpc
          go_wp2
          go_quiet ((go_at_call 52; exact Calls.quiet_of_same (hx52.out _)))
          go_wp2
          go_roundw
          case rel => exact ⟨1, a + 1, S ||| P, by omega, by go_num, rfl, by omega, hSn.out, Lib.hid (.inr ⟨by omega, by rw [hxq.out]; go_num⟩), Lib.hid (by rw [hg2.out]; rfl), Lib.hid (below_drewN hb.out _)⟩
          case measure => simp [intOf]; omega
        · have cp := hpc.out hk0
          generalize xs.getD (k - 1) 0 = y at cp hpl
          obtain ⟨j, rfl⟩ : ∃ j, k = j + 1 := ⟨k - 1, by omega⟩
          rw [Nat.add_sub_cancel] at cp
          have hwk : IntKind.i64.wrap (((j + 1 : Nat) : Int) - 1) = (j : Int) := by rw [show (((j + 1 : Nat) : Int) - 1) = (j : Int) by omega]; exact IntWalk.i64_in _ ⟨by omega, by omega⟩
          have hk1 : ((j + 1 : Nat) : Int) > 0 := by omega
          have hjN : (j : Int) < N := by omega
          have hje : ((j + 1 : Nat) : Int) - 1 = (j : Int) := by omega
          by_cases hya : y ≥ (a : Int)
          · have hfin := hbad.out (.inl (by omega))
            have hyd : decide (y ≥ (a : Int)) = true := decide_eq_true hya
            have hyd2 : decide ((a : Int) ≤ y) = true := decide_eq_true hya
            have hfin' := Lib.hid hfin
            clear hprev hbad hgood hpc hfin hpl
            go_wp2
            go_quiet ((go_at_call 52; exact Calls.quiet_of_same (hx52.out _)))
            go_wp2
            refine bodyPost_ret (results_tmp2 rfl _ _ _) rfl ?_
            exact ⟨0, false, rfl, hfin', below_drewN hb.out _⟩
          · have hg2 := Lib.hid (hgood.out (by omega))
            have hyd : decide (y ≥ (a : Int)) = false := decide_eq_false hya
            have hyd2 : decide ((a : Int) ≤ y) = false := decide_eq_false hya
            generalize 2 ^ a = P at hP hor hSn hg2
            clear hprev hbad hgood hpc hpl
            go_wp2
            go_quiet ((go_at_call 52; exact Calls.quiet_of_same (hx52.out _)))
            go_wp2
            go_roundw
            case rel => exact ⟨j + 1 + 1, a + 1, S ||| P, by omega, by go_num, rfl, by omega, hSn.out, Lib.hid (.inr ⟨by omega, by rw [hxq.out]; go_num⟩), Lib.hid (by rw [hg2.out]; rfl), Lib.hid (below_drewN hb.out _)⟩
            case measure => simp [intOf]; omega
      · have hxx : (decide (0 ≤ x) && decide (x ≤ (n : Int) - 1)) = false := by
          by_cases h0 : 0 ≤ x
          · rw [decide_eq_true h0, decide_eq_false (fun h => hin ⟨h0, h⟩)]; rfl
          · rw [decide_eq_false h0]; rfl
        rw [hxx] at hx52
        have hfin := Lib.hid (hbad.out (by rcases hp2 with ⟨_, h⟩ | ⟨_, h⟩ <;> omega))
        clear hxx hin hprev hbad hgood hpc hp2
        go_wp2
        go_quiet ((go_at_call 52; exact Calls.quiet_of_same (hx52.out _)))
        go_wp2
        refine bodyPost_ret (results_tmp2 rfl _ _ _) rfl ?_
        exact ⟨0, false, rfl, hfin, below_drewN hb.out _⟩
    · have hfin := Lib.hid (hyes.out S (by rw [hrd.out, hdl.out k (by omega)]; rfl))
      go_wp2
      refine bodyPost_ret (results_tmp2 rfl _ _ _) rfl ?_
      exact ⟨S, true, rfl, hfin, hb.out⟩
theorem OwnP.far {w w' : World} {B L : Nat} {v : Value} {ps : List (Int × Int)} (h : OwnP w B v ps) (hs : w.heap.size ≤ w'.heap.size) (hL : L < B) (hk : ∀ q j u, q ≠ L → w.cell? ⟨q, j, none⟩ = some u → w'.cell? ⟨q, j, none⟩ = some u) : ReadsP w' v ps := by
  obtain ⟨h1, ao, c, e, h2, h3, h4⟩ := OwnP.reads h
  refine ⟨h1, ao, c, e, h2, h3, fun hne => ?_⟩
  obtain ⟨g, o, e1, hg, hc⟩ := h4 hne
  subst e1
  subst e
  have hgB : B ≤ g := by
    rcases h.2 with ⟨e2, _⟩ | ⟨g2, cap, cur, e2, h5, _⟩
    · cases e2
    · simp only [Value.slice.injEq, Option.some.injEq, Addr.mk.injEq] at e2
      omega
  exact ⟨g, o, rfl, by omega, fun j u hj => hk _ _ _ (by omega) (hc j u hj)⟩
theorem rdS_lt2 {n : Nat} : ∀ {xs : List Int} {lo : Int} {S T : Nat}, 0 ≤ lo → S < 2 ^ n → rdS (n : Int) xs lo S = some T → T < 2 ^ n
  | [], _, S, T, _, hS, e => by
    have : S = T := Option.some.inj e
    omega
  | x :: xs, lo, S, T, h0, hS, e => by
    unfold rdS at e
    split at e
    · cases e
    · next hc =>
      exact rdS_lt2 (by omega) (Nat.or_lt_two_pow hS (Nat.pow_lt_pow_right (by decide) (by omega))) e
set_option maxRecDepth 100000 in
/-- append(s, src...) of ints, wherever the source lies, at one step of a region that draws its order. -/
theorem step_intsA {ops : Array Oper} {o : Oper} {a : Act} {w : World} {K : Act → World → Prop} {Q : Exit → Act → World → Prop} {E : Prop} {B : Nat} {v : Value} {xs ys : List Int}
    (hg : o.guard = none) (s x : Operand) (hop : o.op = Op.call { callee := Callee.builtin Builtin.append, args := #[s, x], argTypes := #[24, 24] })
    (hown : Ints w B v xs) (hs : a.eval s = v) (ad : Addr) (m c : Nat) (hx : a.eval x = .slice (some ad) m c) (hc : ∀ j y, ys[j]? = some y → w.cell? (ad.add j) = some (.int .i64 y)) (hm : ys.length = m) (hlen : xs.length + ys.length ≤ 1000000) (hB : B ≤ w.heap.size)
    (hK : ∀ v' w', Ints w' B v' (xs ++ ys) → Below B w w' → (∀ q j u, some q ≠ v.ownBlock → w.cell? ⟨q, j, none⟩ = some u → w'.cell? ⟨q, j, none⟩ = some u) → K (a.put o.dst v') w') :
    if Region.wanted o (yielded ops a.tmps) = true then Oper.wp Tryd.prog o a w K Q else E := by
  have hw : Region.wanted o (yielded ops a.tmps) = true := by simp [Region.wanted, hg]
  rw [if_pos hw]
  obtain ⟨i0, hi, hz0, hz1, hz2⟩ := info_parts info3
  have hc2 : ∀ j u, (ys.map (Value.int .i64))[j]? = some u → w.cell? (ad.add j) = some u := by
    intro j z hj
    rw [List.getElem?_map, Option.map_eq_some_iff] at hj
    obtain ⟨y, hy, rfl⟩ := hj
    exact hc j y hy
  obtain ⟨v', w', hrun, r1, r2, _⟩ := run_append_own (P := Tryd.prog) w B 24 o.type 3 i0 (.int .i64 0) 1 8 Tryd.underlying24 hi hz0 hz1 hz2 rfl (by decide) v xs.length (xs.map (Value.int .i64)) hown ad m c (ys.map (Value.int .i64)) (by simp [hm]) hc2
    (by intro z hz; rw [List.mem_map] at hz; obtain ⟨y, _, rfl⟩ := hz; rfl) (by unfold maxLen; omega) (by omega) hB
  unfold Oper.wp
  simp [execOp, hop, resolve, invoke, builtin, hs, hx, hrun, Result.andThen]
  refine hK v' w' ?_ ?_ ?_
  · unfold Ints; simpa [hm] using r1
  · exact (Below.refl B w).grown r2 hB (fun k hk => (World.ownsRow.lt hown k hk).1)
  · intro q j u hq hcq
    have hlt : q < w.heap.size := by have := World.block_lt_of_cell? w _ hcq; simpa using this
    have := r2.block q hlt hq
    rw [← hcq]
    simp only [World.cell?, this]
set_option maxRecDepth 100000 in
set_option maxHeartbeats 8000000 in
theorem walk6 {w : World} (hT : Tab w) {n : Int} {v u : Value} {ps : List (Int × Int)} {ys : List Int} (hp : InPs w v ps) (hy : InRow w u ys) :
    Calls Tryd.prog 6 #[.int .i64 n, v, u] w fun e w' => e = .returned (.bool true) ∧ Below w.heap.size w w' := by
  have hT' := Lib.hid hT
  have hfew := Lib.hid (fun (W : World) (h : Below w.heap.size w W) => few16 (w := W) (v := v) (ps := ps) ⟨hp.1.below h, hp.2⟩)
  have hlen : (ps.take 41).length ≤ 1000000 := by rw [List.length_take]; omega
  have hli := Lib.hid (fun (W : World) (h : Below w.heap.size w W) => lives20 (hT'.out.call h))
  clear hp hT
  generalize ps.take 41 = qs at hfew hlen
  obtain ⟨hyr, hym, ao, c, rfl, hnone⟩ := hy
  obtain ⟨m, hm⟩ : ∃ m, m = ys.length := ⟨_, rfl⟩
  rw [← hm] at hyr hym ⊢
  obtain ⟨p, hpq⟩ : ∃ p, p = min m 13 := ⟨_, rfl⟩
  have hmc : m ≤ c := by obtain ⟨_, _, e, h, _⟩ := hyr; rw [← hm] at h; injection e with _ _ e3; rw [e3]; exact h
  have hq1 : (if (13 : Int) < (m : Int) then 13 else (m : Int)) = (p : Int) := by split <;> omega
  have hq2 : min (m : Int) 13 = (p : Int) := by omega
  have hpc : (p : Int) ≤ c := by omega
  have hys := Lib.hid (hyr.take hm.symm (show p ≤ m by omega))
  have hze : (ys.take p).length = p := by rw [List.length_take]; omega
  have hp13 : p ≤ 13 := by omega
  have hnil : ao = none → p = 0 ∧ c = 0 := fun e => by have := hnone e; omega
  obtain ⟨zs, hzs⟩ : ∃ zs, zs = ys.take p := ⟨_, rfl⟩
  rw [← hzs] at hys hze
  have hze' := Lib.hid hze
  clear hpq hm hyr hym hmc hzs hnone hze
  go_enter Tryd.func6, Tryd.ntmps6
  go_upto_region 1 with fail
  go_cut [7, 8] from 17 (fun lv sv wx => ∃ (w1 : World) (v1 u1 : Value), w1 = wx ∧ lv = v1 ∧ sv = u1 ∧ Hid (ReadsP w1 v1 qs) ∧ Hid (Reads w1 u1 zs) ∧ Hid (Below w.heap.size w w1))
  case first =>
    have hbd := Lib.hid ((Below.refl w.heap.size w).drew)
    have hbA := Lib.hid (((Below.refl w.heap.size w).alloc (Nat.le_refl _) (.cells #[] 3)).drew)
    have hsA := Lib.hid (show (w.alloc (.cells #[] 3)).drew.heap.size = w.heap.size + 1 from by simp)
    have hlA := Lib.hid (Ints.drew (lit_at w w.heap.size w.heap.size (Nat.le_refl _) rfl))
    cases ao with
    | none =>
      obtain ⟨rfl, rfl⟩ := hnil rfl
      have hz0 : zs = [] := List.length_eq_zero_iff.1 hze'.out
      subst hz0
      go_region_law (first
        | (go_simp; go_at_call 16; refine (hfew.out _ hbd.out).mono ?_; rintro e w2 ⟨v2, rfl, ho, hb⟩; have hoC := Lib.hid ho; have hbC := Lib.hid (below_call hbd.out hb); clear ho hb hbd hbA hlA)
        | (go_simp; go_at_call 16; refine (hfew.out _ hbA.out).mono ?_; rintro e w2 ⟨v2, rfl, ho, hb⟩; have hoD := Lib.hid ho; have hbD := Lib.hid (below_call hbA.out hb); have hlD := Lib.hid (hlA.out.below hb); clear ho hb hbd hbA hlA)
        | (go_simp; go_at_call 16; refine (hfew.out _ hbE.out).mono ?_; rintro e w2 ⟨v2, rfl, ho, hb⟩; have hF := Lib.hid (OwnP.reads ho); have hbF := Lib.hid (below_call hbE.out hb); have hRF := Lib.hid (Ints.shape (hoE.out.below hb)); clear ho hb hbE hoE)
        | (refine step_nil rfl (.tmp 19) (.tmp 24) rfl (lit_at w2 w2.heap.size w2.heap.size (Nat.le_refl _) rfl) (by first | rfl | simp [Act.eval]) (by first | rfl | simp [Act.eval]) ?_; have hF := Lib.hid (ReadsP.below (OwnP.reads hoC.out) (below_alloc1 w2 (.cells #[] 3))); have hbF := Lib.hid (below_call hbC.out (below_alloc1 w2 (.cells #[] 3))); have hRF := Lib.hid (Ints.shape (lit_at w2 w2.heap.size w2.heap.size (Nat.le_refl _) rfl)); clear hoC hbC)
        | (refine step_nil rfl (.tmp 19) (.tmp 24) rfl hlD.out (by first | rfl | simp [Act.eval]) (by first | rfl | simp [Act.eval]) ?_; have hF := Lib.hid (OwnP.reads hoD.out); have hbF := hbD; have hRF := Lib.hid (Ints.shape hlD.out); clear hoD hbD)
        | (refine step_nil rfl (.tmp 19) (.tmp 24) rfl hlA.out (by first | rfl | simp [Act.eval]) (by first | rfl | simp [Act.eval]) ?_; have hbE := hbA; have hoE := hlA; clear hbd hbA hlA))
      all_goals
        go_wp2_with fail
        go_meet
        exact ⟨_, _, _, rfl, rfl, rfl, hF, hRF, hbF⟩
    | some ad =>
      have hcA := Lib.hid (fun (W : World) (h : Below w.heap.size w W) (j : Nat) (y : Int) (hj : zs[j]? = some y) => show W.cell? (ad.add j) = some (.int .i64 y) from by
        obtain ⟨a1, c1, e, _, h2⟩ := hys.out
        have hjl := (List.getElem?_eq_some_iff.1 hj).1
        obtain ⟨g, o, e1, hg, hc⟩ := h2 (fun e => by rw [e] at hjl; simp at hjl)
        subst e1
        simp only [Value.slice.injEq, Option.some.injEq] at e
        obtain ⟨rfl, -, -⟩ := e
        rw [show (⟨g, o, none⟩ : Addr).add j = ⟨g, o + j, none⟩ from by simp [Addr.add], h.cell (p := ⟨g, o + j, none⟩) hg, hc j hjl, List.getD_eq_getElem?_getD, hj]; rfl)
      go_region_law (first
        | (go_simp; go_at_call 16; refine (hfew.out _ hbd.out).mono ?_; rintro e w2 ⟨v2, rfl, ho, hb⟩; have hoC := Lib.hid ho; have hbC := Lib.hid (below_call hbd.out hb); clear ho hb hbd hbA hlA)
        | (go_simp; go_at_call 16; refine (hfew.out _ hbA.out).mono ?_; rintro e w2 ⟨v2, rfl, ho, hb⟩; have hoD := Lib.hid ho; have hbD := Lib.hid (below_call hbA.out hb); have hlD := Lib.hid (hlA.out.below hb); clear ho hb hbd hbA hlA)
        | (go_simp; go_at_call 16; refine (hfew.out _ hbE.out).mono ?_; rintro e w2 ⟨v2, rfl, ho, hb⟩; have hF := Lib.hid (OwnP.reads ho); have hbF := Lib.hid (below_call hbE.out hb); have hRF := Lib.hid (Ints.shape (hoE.out.below hb)); clear ho hb hbE hoE)
        | (refine step_intsA rfl (.tmp 19) (.tmp 24) rfl (lit_at w2 w2.heap.size w2.heap.size (Nat.le_refl _) rfl) (by first | rfl | simp [Act.eval]) ad p c (by first | rfl | simp [Act.eval]) (hcA.out _ (below_call hbC.out (below_alloc1 w2 _))) hze'.out (by rw [hze'.out]; simp; omega) (by simp) ?_; intro v3 w3 h3 hb3 hk3; have hF := Lib.hid (ReadsP.below (OwnP.reads hoC.out) ((below_alloc1 w2 (.cells #[] 3)).trans hb3)); have hbF := Lib.hid (below_call hbC.out ((below_alloc1 w2 (.cells #[] 3)).trans hb3)); have hRF := Lib.hid (show Reads w3 v3 zs from by have := Ints.shape h3; simpa using this); clear h3 hb3 hk3 hoC hbC)
        | (refine step_intsA rfl (.tmp 19) (.tmp 24) rfl hlD.out (by first | rfl | simp [Act.eval]) ad p c (by first | rfl | simp [Act.eval]) (hcA.out _ hbD.out) hze'.out (by rw [hze'.out]; simp; omega) hbD.out.size ?_; intro v3 w3 h3 hb3 hk3; have hF := Lib.hid (OwnP.far hoD.out hb3.size (L := w.heap.size) (by rw [hsA.out]; omega) (fun q j u hq => hk3 q j u (by simpa [Value.ownBlock] using hq))); have hbF := Lib.hid (hbD.out.trans hb3); have hRF := Lib.hid (show Reads w3 v3 zs from by have := Ints.shape h3; simpa using this); clear h3 hb3 hk3 hoD hbD)
        | (refine step_intsA rfl (.tmp 19) (.tmp 24) rfl hlA.out (by first | rfl | simp [Act.eval]) ad p c (by first | rfl | simp [Act.eval]) (hcA.out _ hbA.out) hze'.out (by rw [hze'.out]; simp; omega) hbA.out.size ?_; intro v3 w3 h3 hb3 hk3; have hbE := Lib.hid (hbA.out.trans hb3); have hoE := Lib.hid (show Ints w3 w.heap.size v3 zs from by simpa using h3); clear h3 hb3 hk3 hbd hbA hlA))
      all_goals
        go_wp2_with fail
        go_meet
        exact ⟨_, _, _, rfl, rfl, rfl, hF, hRF, hbF⟩
  case rest =>
  obtain ⟨w1, v1, u1, rfl, rfl, rfl, hQ1, hZ1, hb1⟩ := hcut
  clear hfew hnil hq1 hq2 hpc hys
  have hzl : zs.length ≤ 1000000 := by rw [hze'.out]; omega
  clear hze' hp13
  have hv19 := Lib.hid (fun (W : World) (v : Value) (h : ReadsP W v qs) => valid19 (n := n) h hlen)
  have h34 := Lib.hid (fun (W : World) (v u : Value) (h : Below w.heap.size w W) (hp : ReadsP W v qs) (hu : Reads W u zs) => admissible34 (hT'.out.call h) (n := n) hp hlen hu hzl)
  have h35 := Lib.hid (fun (W : World) (v u : Value) (h : Below w.heap.size w W) (hp : ReadsP W v qs) (hu : Reads W u zs) => defends35 (hT'.out.call h) (n := n) hp hlen hu hzl)
  obtain ⟨az, cz, rfl, -⟩ := id hZ1.out
  obtain ⟨lz, hlz⟩ : ∃ l, l = zs.length := ⟨_, rfl⟩
  rw [← hlz] at hZ1 ⊢
  clear hlz
  cases hv : vldB n qs
  · rw [hv] at hv19
    have e1 : admR n qs zs = false := by unfold admR; rw [hv]; rfl
    have e2 : setE n qs zs = 1 := by unfold setE; rw [hv]; rfl
    have e3 : defL n qs zs = [] := by unfold defL; rw [hv]; rfl
    rw [e1, e2] at h34
    rw [e2, e3] at h35
    clear e1 e2 e3 hv hlen hzl
    go_wp2_with (first
      | (go_at_call 34; refine (h34.out _ _ _ hb1.out hQ1.out hZ1.out).mono ?_; rintro e w2 ⟨rfl, hb⟩; have hb2 := Lib.hid (below_call hb1.out hb); have hQ2 := Lib.hid (ReadsP.below hQ1.out hb); have hZ2 := Lib.hid (Reads.below hZ1.out hb); clear hb h34)
      | (go_at_call 35; refine (h35.out _ _ _ hb2.out hQ2.out hZ2.out).mono ?_; rintro e w3 ⟨v3, rfl, hz, hb⟩; obtain ⟨a3, c3, rfl, -⟩ := id hz.shape; have hb3 := Lib.hid (below_call hb2.out hb); have hQ3 := Lib.hid (ReadsP.below hQ2.out hb); clear hz hb h35)
      | (go_at_call 19; refine (hv19.out _ _ hQ3.out).mono ?_; rintro e w4 ⟨rfl, hb⟩; have hb4 := Lib.hid (below_call hb3.out hb); clear hb hv19)
      | (go_at_call 20; refine (hli.out _ hb4.out).mono ?_; rintro e w5 ⟨rfl, hb⟩; have hb5 := Lib.hid (below_call hb4.out hb); clear hb hli))
    go_ret
    exact ⟨rfl, hb5.out⟩
  · obtain ⟨sz, rfl, hvI⟩ := vld_nat hv
    have hqe := toI_natP hv
    have hs12 : sz ≤ 12 := by have := (vld_ok hv).2.2.1; omega
    have hD := (vld_ok hvI).1
    rw [Int.toNat_natCast, natP_toI] at hD
    rw [hv] at hv19
    have h36 := Lib.hid (fun (W : World) (u : Value) (hu : Reads W u zs) => refSet36 (n := sz) hu hs12 hzl)
    cases hr : rdS (sz : Int) zs 0 0 with
    | none =>
      have e1 : admR (sz : Int) qs zs = false := by unfold admR; rw [hv, hr]; rfl
      have e2 : setE (sz : Int) qs zs = 2 := by unfold setE; rw [hv, hr]; rfl
      have e3 : defL (sz : Int) qs zs = [] := by unfold defL; rw [hv, hr]; rfl
      have hsi := Lib.hid (fun (S : Nat) (ok : Bool) (h : SetIs (sz : Int) zs S ok) => show S = 0 ∧ ok = false from by
        rcases h with ⟨_, h2⟩ | ⟨h1, h2, _⟩
        · rw [hr] at h2; cases h2
        · exact ⟨h2, h1⟩)
      rw [e1, e2] at h34
      rw [e2, e3] at h35
      clear e1 e2 e3 hv hlen hzl hr hD hqe hvI
      go_wp2_with (first
        | (go_at_call 34; refine (h34.out _ _ _ hb1.out hQ1.out hZ1.out).mono ?_; rintro e w2 ⟨rfl, hb⟩; have hb2 := Lib.hid (below_call hb1.out hb); have hQ2 := Lib.hid (ReadsP.below hQ1.out hb); have hZ2 := Lib.hid (Reads.below hZ1.out hb); clear hb h34)
        | (go_at_call 35; refine (h35.out _ _ _ hb2.out hQ2.out hZ2.out).mono ?_; rintro e w3 ⟨v3, rfl, hz, hb⟩; obtain ⟨a3, c3, rfl, -⟩ := id hz.shape; have hb3 := Lib.hid (below_call hb2.out hb); have hQ3 := Lib.hid (ReadsP.below hQ2.out hb); have hZ3 := Lib.hid (Reads.below hZ2.out hb); clear hz hb h35)
        | (go_at_call 19; refine (hv19.out _ _ hQ3.out).mono ?_; rintro e w4 ⟨rfl, hb⟩; have hb4 := Lib.hid (below_call hb3.out hb); have hZ4 := Lib.hid (Reads.below hZ3.out hb); clear hb hv19)
        | (go_at_call 36; refine (h36.out _ _ hZ4.out).mono ?_; rintro e w5 ⟨S5, ok5, rfl, hs, hb⟩; obtain ⟨rfl, rfl⟩ := hsi.out _ _ hs.out; have hb5 := Lib.hid (below_call hb4.out hb); clear hb hs h36)
        | (go_at_call 20; refine (hli.out _ hb5.out).mono ?_; rintro e w6 ⟨rfl, hb⟩; have hb6 := Lib.hid (below_call hb5.out hb); clear hb hli))
      go_ret
      exact ⟨rfl, hb6.out⟩
    | some S =>
      have e1 : admR (sz : Int) qs zs = admB sz (natP qs) S := by unfold admR; rw [hv, hr, Int.toNat_natCast]; rfl
      have e2 : setE (sz : Int) qs zs = 0 := by unfold setE; rw [hv, hr]; rfl
      have e3 : defL (sz : Int) qs zs = natI (bl (dfd sz (natP qs) S)) := by unfold defL; rw [hv, hr, Int.toNat_natCast]; rfl
      have hS : S < 2 ^ sz := rdS_lt2 (by omega) (Nat.two_pow_pos sz) hr
      have hsi := Lib.hid (fun (S' : Nat) (ok : Bool) (h : SetIs (sz : Int) zs S' ok) => show S' = S ∧ ok = true from by
        rcases h with ⟨h1, h2⟩ | ⟨_, _, h3⟩
        · rw [hr] at h2; exact ⟨(Option.some.inj h2).symm, h1⟩
        · rw [hr] at h3; cases h3)
      rw [e1, e2] at h34
      rw [e2, e3] at h35
      have h21 := Lib.hid (fun (W : World) (v : Value) (hp : ReadsP W v qs) => of21 (n := sz) (L := natP qs) (by rw [hqe]; exact hp) hvI)
      have h37 := Lib.hid (fun (W : World) (u : Value) (h : DisR W u sz (natP qs)) => adm37 h hD hS)
      have h38 := Lib.hid (fun (W : World) (u : Value) (h : DisR W u sz (natP qs)) => defends38 h hD hS)
      have h24 := Lib.hid (fun (W : World) => refList24 (w := W) (lt12 hs12 (dfd_lt sz (natP qs) S)))
      have h23 := Lib.hid (fun (W : World) (u v : Value) (hu : Reads W u (natI (bl (dfd sz (natP qs) S)))) (hv : Reads W v (natI (bl (dfd sz (natP qs) S)))) => show Calls Tryd.prog 23 #[u, v] W (BoolEnd W true) from by
        have := same23 hu hv (natI_le _)
        rwa [sameL_self] at this)
      clear e1 e2 e3 hv hlen hzl hr hD hqe hvI hS hs12
      generalize admB sz (natP qs) S = A at h34 h37
      generalize dfd sz (natP qs) S = D at h35 h38 h24 h23
      cases A
      all_goals
        go_upto_region 14 with (first
          | (go_at_call 34; refine (h34.out _ _ _ hb1.out hQ1.out hZ1.out).mono ?_; rintro e w2 ⟨rfl, hb⟩; have hb2 := Lib.hid (below_call hb1.out hb); have hQ2 := Lib.hid (ReadsP.below hQ1.out hb); have hZ2 := Lib.hid (Reads.below hZ1.out hb); clear hb h34)
          | (go_at_call 35; refine (h35.out _ _ _ hb2.out hQ2.out hZ2.out).mono ?_; rintro e w3 ⟨v3, rfl, hz, hb⟩; have hI3 := Lib.hid hz.shape; have hb3 := Lib.hid (below_call hb2.out hb); have hQ3 := Lib.hid (ReadsP.below hQ2.out hb); have hZ3 := Lib.hid (Reads.below hZ2.out hb); clear hz hb h35)
          | (go_at_call 19; refine (hv19.out _ _ hQ3.out).mono ?_; rintro e w4 ⟨rfl, hb⟩; have hb4 := Lib.hid (below_call hb3.out hb); have hQ4 := Lib.hid (ReadsP.below hQ3.out hb); have hZ4 := Lib.hid (Reads.below hZ3.out hb); have hI4 := Lib.hid (hI3.out.below hb); clear hb hv19)
          | (go_at_call 36; refine (h36.out _ _ hZ4.out).mono ?_; rintro e w5 ⟨S5, ok5, rfl, hs, hb⟩; obtain ⟨rfl, rfl⟩ := hsi.out _ _ hs.out; have hb5 := Lib.hid (below_call hb4.out hb); have hQ5 := Lib.hid (ReadsP.below hQ4.out hb); have hI5 := Lib.hid (hI4.out.below hb); clear hb hs h36)
          | (go_at_call 21; refine (h21.out _ _ hQ5.out).mono ?_; rintro e w6 ⟨u6, rfl, hd, hb⟩; obtain ⟨x1, y1, x2, y2, rfl, hr1, hr2⟩ := hd; have hb6 := Lib.hid (below_call hb5.out hb); have hI6 := Lib.hid (hI5.out.below hb); have hr1' := Lib.hid hr1; have hr2' := Lib.hid hr2; clear hb h21 hr1 hr2))
        obtain ⟨w7, hw7⟩ : ∃ w7, w7 = w6.alloc (.cells #[.int .i64 (sz : Int), .slice x1 sz y1, .slice x2 sz y2] 34) := ⟨_, rfl⟩
        obtain ⟨hb, hsz, k0, k1, k2⟩ := dis_box hw7
        rw [← hw7]
        have hb7 := Lib.hid (below_call hb6.out hb)
        have hI7 := Lib.hid (hI6.out.below hb)
        have hdr7 := Lib.hid (show DisR w7 (.agg #[.int .i64 (sz : Int), .slice x1 sz y1, .slice x2 sz y2]) sz (natP qs) from ⟨_, _, _, _, rfl, hr1'.out.below hb, hr2'.out.below hb⟩)
        have hdA7 := Lib.hid (show DisAt w7 w6.heap.size sz x1 y1 x2 y2 from ⟨k0, k1, k2⟩)
        generalize w6.heap.size = B7 at hdA7 k0 k1 k2 ⊢
        clear hw7 hb hsz hr1' hr2' hb6
        go_wp2_with (first
          | (go_at_call 37; refine (h37.out _ _ hdr7.out).mono ?_; rintro e w8 ⟨rfl, hb⟩; have hb8 := Lib.hid (below_call hb7.out hb); have hdr8 := Lib.hid (hdr7.out.below hb); have hI8 := Lib.hid (hI7.out.below hb); clear k0 k1 k2; obtain ⟨k0, k1, k2⟩ := hdA7.out.below hb; clear hb h37)
          | (go_at_call 38; refine (h38.out _ _ hdr8.out).mono ?_; rintro e w9 ⟨rfl, hb⟩; have hb9 := Lib.hid (below_call hb8.out hb); have hI9 := Lib.hid (hI8.out.below hb); clear hb h38 k0 k1 k2)
          | (go_at_call 24; refine (h24.out _).mono ?_; rintro e wA ⟨vA, rfl, ho, hb⟩; have hJA := Lib.hid ho.shape; have hbA := Lib.hid (below_call hb9.out hb); have hIA := Lib.hid (hI9.out.below hb); clear hb ho h24)
          | (go_at_call 23; refine (h23.out _ _ _ hIA.out hJA.out).mono ?_; rintro e wB ⟨rfl, hb⟩; have hbB := Lib.hid (below_call hbA.out hb); clear hb h23)
          | (go_at_call 20; refine (hli.out _ hbB.out).mono ?_; rintro e wC ⟨rfl, hb⟩; have hbC := Lib.hid (below_call hbB.out hb); clear hb hli))
        go_ret
        exact ⟨rfl, hbC.out⟩
end Go.Proofs.YtpcjigdmfchbdaaDoor
