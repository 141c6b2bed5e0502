import Derived.Test.YtpcjigdmfchbdaaDoorZw
import Derived.Test.YtpcjigdmfchbdaaDoorZo
import Derived.Laws.AppendOwnNone
import Derived.Deep.CutRange
import Derived.Deep.Cut
namespace Go.Proofs.YtpcjigdmfchbdaaDoor
open Go.RowKit Go.Shelf Cl

theorem InDuo.slice {w : World} {ao : Option Addr} {n c m : Nat} {xs : List (Nat × Nat)} (h : InDuo w (.slice ao n c) xs) (hm : m ≤ n) : InDuo w (.slice ao m c) (xs.take m) := by
  obtain ⟨⟨h1, a1, c1, e, h2, h3, h4⟩, h5, h6⟩ := h
  simp only [Value.slice.injEq] at e
  obtain ⟨rfl, rfl, rfl⟩ := e
  have hl : (xs.take m).length = m := by rw [List.length_take]; omega
  refine ⟨⟨by rw [flat_len enc2_len], ao, c, by rw [hl], by rw [hl]; omega, h3, fun hne => ?_⟩, by rw [hl]; omega, fun x hx => h6 x (List.mem_of_mem_take hx)⟩
  rw [hl] at hne
  obtain ⟨g, o, rfl, hg, hc⟩ := h4 (by omega)
  refine ⟨g, o, rfl, hg, fun j u hj => hc j u ?_⟩
  rw [flat_take enc2_len] at hj
  rw [List.getElem?_take] at hj
  split at hj
  · exact hj
  · cases hj

theorem OwnP.cases {w : World} {B : Nat} {v : Value} {ps : List (Int × Int)} (h : OwnP w B v ps) : (v = .slice none 0 0 ∧ ps = []) ∨ ∃ g cap, v = .slice (some ⟨g, 0, none⟩) ps.length cap := by
  rcases h.2 with ⟨rfl, h2⟩ | ⟨g, cap, cur, rfl, _⟩
  · exact .inl ⟨rfl, List.length_eq_zero_iff.1 h2⟩
  · exact .inr ⟨g, cap, rfl⟩
theorem OwnP.lit (w : World) (B : Nat) (hB : B ≤ w.heap.size) : OwnP (w.alloc (.cells #[] 58)) B (.slice (some ⟨w.heap.size, 0, none⟩) 0 0) [] := by
  refine ⟨rfl, .inr ⟨w.heap.size, 0, #[], rfl, hB, heap_alloc_new w _, Nat.zero_le _, by unfold maxLen; omega, rfl, by simp [flat]⟩⟩
/-- append(s, src...) of pairs, at the model's operation. -/
theorem app_pairs {ops : Array Oper} {rest : List Oper} {o : Oper} {a : Act} {Q : Exit → Act → World → Prop} {w : World} {B B2 : Nat} {v u : Value} {ps qs : List (Int × Int)}
    (hown : OwnP w B v ps) (hu : OwnP w B2 u qs) (hlen : ps.length + qs.length ≤ 1000000) (hB : B ≤ w.heap.size) (hgd : o.guard = none) (s x : Operand)
    (ho : o.op = .call { callee := .builtin .append, args := #[s, x], argTypes := #[22, 22] }) (hs : a.eval s = v) (hx : a.eval x = u)
    (h : ∀ v' w', OwnP w' B v' (ps ++ qs) → Below B w w' → wpList Tryd.prog ops Q rest (a.put o.dst v') w') : wpList Tryd.prog ops Q (o :: rest) a w := by
  obtain ⟨i0, hi, hz0, hz1, hz2⟩ := info_parts info58
  rcases hu.cases with ⟨rfl, rfl⟩ | ⟨g, cap, rfl⟩
  · refine wpList_append_own_none hgd s x 22 ho B 58 i0 2 Tryd.underlying22 hi v ps.length (flat encP ps) hs hown hx ?_
    exact h v w (by simpa using hown) (Below.refl _ _)
  · refine app_flat Tryd.underlying22 hi hz0 hz1 hz2 rfl (by decide) (by decide) hown hu.reads ?_ hlen hB hgd s x ho hs hx ?_
    · intro z hz
      obtain ⟨q, _, hq⟩ := List.mem_flatMap.1 hz
      simp only [encP, List.mem_cons, List.not_mem_nil, or_false] at hq
      rcases hq with rfl | rfl <;> rfl
    · intro v' w' h2 h3 _
      refine h v' w' ?_ ((Below.refl B w).grown h3 hB (fun k hk => (World.ownsRow.lt hown k hk).1))
      unfold OwnP
      rw [List.length_append, flat_app]
      exact h2
theorem toI_app (L M : Atts) : toI (L ++ M) = toI L ++ toI M := by simp [toI]
set_option maxRecDepth 100000 in
set_option maxHeartbeats 8000000 in
theorem walk14 {w : World} (hT : Tab w) {n : Nat} {v u : Value} {xs ys : List (Nat × Nat)} (hn : n < 256) (hx : InDuo w v xs) (hy : InDuo w u ys) :
    Calls Tryd.prog 14 #[.int .u8 (n : Int), v, u] w fun e w' => e = .returned (.bool true) ∧ Below w.heap.size w w' := by
  have hT' := Lib.hid hT
  obtain ⟨hx1, hx2, hx3⟩ := id hx
  obtain ⟨hy1, hy2, hy3⟩ := id hy
  obtain ⟨-, ax, cx, rfl, hcx, -⟩ := id hx1
  obtain ⟨-, ay, cy, rfl, hcy, -⟩ := id hy1
  obtain ⟨lx, hlx⟩ : ∃ lx, lx = xs.length := ⟨_, rfl⟩
  obtain ⟨ly, hly⟩ : ∃ ly, ly = ys.length := ⟨_, rfl⟩
  rw [← hlx] at hx hx2 hcx ⊢
  rw [← hly] at hy hy2 hcy ⊢
  have hlx' := Lib.hid hlx
  have hly' := Lib.hid hly
  have hs10 : szM n 10 ≤ 10 := by unfold szM; omega
  have hs1 : 1 ≤ szM n 10 := by unfold szM; omega
  have hmA := Lib.hid (fun (W : World) (h : Below w.heap.size w W) (m : Nat) (hm : m ≤ lx) => show Calls Tryd.prog 43 #[.int .u8 (n : Int), .slice ax m cx, .int .i64 10] W (MadeD W (szM n 10) (mkL (szM n 10) (xs.take m))) from made43 (most := 10) hn (by omega) (by omega) ⟨(hx.slice hm).1.below h, (hx.slice hm).2⟩)
  have hmB := Lib.hid (fun (W : World) (h : Below w.heap.size w W) (m : Nat) (hm : m ≤ ly) => show Calls Tryd.prog 43 #[.int .u8 (n : Int), .slice ay m cy, .int .i64 10] W (MadeD W (szM n 10) (mkL (szM n 10) (ys.take m))) from made43 (most := 10) hn (by omega) (by omega) ⟨(hy.slice hm).1.below h, (hy.slice hm).2⟩)
  have hwA := mkL_within (sz := szM n 10) (by omega) (xs.take 24)
  have hwB := mkL_within (sz := szM n 10) (by omega) (ys.take 16)
  have hlA : (mkL (szM n 10) (xs.take 24)).length ≤ 24 := by unfold mkL; simp; omega
  have hlB : (mkL (szM n 10) (ys.take 16)).length ≤ 16 := by unfold mkL; simp; omega
  obtain ⟨pA, hpA⟩ : ∃ p, p = min lx 24 := ⟨_, rfl⟩
  obtain ⟨pB, hpB⟩ : ∃ p, p = min ly 16 := ⟨_, rfl⟩
  have heA := Lib.hid (show xs.take pA = xs.take 24 from by rw [hpA, hlx, List.take_eq_take_min (i := 24), Nat.min_comm])
  have heB := Lib.hid (show ys.take pB = ys.take 16 from by rw [hpB, hly, List.take_eq_take_min (i := 16), Nat.min_comm])
  have hqA : (if (24 : Int) < (lx : Int) then 24 else (lx : Int)) = (pA : Int) := by split <;> omega
  have hqB : (if (16 : Int) < (ly : Int) then 16 else (ly : Int)) = (pB : Int) := by split <;> omega
  have hrA : min (lx : Int) 24 = (pA : Int) := by omega
  have hrB : min (ly : Int) 16 = (pB : Int) := by omega
  have hqA2 : (pA : Int) ≤ cx := by omega
  have hqB2 : (pB : Int) ≤ cy := by omega
  replace hpA := Lib.hid (show pA ≤ lx from by omega)
  replace hpB := Lib.hid (show pB ≤ ly from by omega)
  clear hT hx hy hn hx1 hy1 hx3 hy3 hlx hly
  generalize szM n 10 = sz at hmA hmB hs10 hs1 hwA hwB hlA hlB
  clear hx2 hy2
  go_enter Tryd.func14, Tryd.ntmps14
  go_upto_region 3 with (first
    | (go_at_call 43; refine (hmA.out _ (Below.refl _ _) pA hpA.out).mono ?_; rw [heA.out]; rintro e w1 ⟨v1, rfl, ho, hb⟩; have ho1 := Lib.hid ho; have hb1 := Lib.hid hb; clear ho hb hmA heA)
    | (go_at_call 43; refine (hmB.out _ hb1.out pB hpB.out).mono ?_; rw [heB.out]; rintro e w2 ⟨v2, rfl, ho, hb⟩; have hq2 := Lib.hid (own_base ho hb1.out.size); have hb2 := Lib.hid (below_call hb1.out hb); have ho2 := Lib.hid (ho1.out.below hb); clear ho hb hmB heB))
  clear hrA hrB hqA hqB hqA2 hqB2 hcx hcy

  generalize mkL sz (xs.take 24) = L at hwA hlA ho2
  generalize mkL sz (ys.take 16) = A at hwB hlB hq2
  have hs12 : sz ≤ 12 := by omega
  have hcL := core_len sz L
  have hcW := core_within (n := sz) hwA
  have hv1 := vld_toI hs1 hs12 hwA (by omega)
  have hv2 := vld_toI hs1 hs12 hcW (by omega)
  have hwin : ∀ {X Y : Atts}, Within sz X → Within sz Y → Within sz (X ++ Y) := fun h k p hp => (List.mem_append.1 hp).elim (h p) (k p)
  have hv3 := vld_toI hs1 hs12 (hwin hwA hwB) (by rw [List.length_append]; omega)
  have hv4 := vld_toI hs1 hs12 (hwin hcW hwB) (by rw [List.length_append]; omega)
  have h39 := Lib.hid (fun (W : World) (v : Value) (h : Below w.heap.size w W) (hp : OwnP W w.heap.size v (toI L)) => core_ok (w := W) hp.reads hv1)
  have h39b := Lib.hid (fun (W : World) (v : Value) (h : Below w.heap.size w W) (hp : OwnP W w.heap.size v (toI (core sz L))) => show Calls Tryd.prog 39 #[.int .i64 (sz : Int), v] W (MadeP W (toI (core sz L)) 0) from by
    have := core_ok (w := W) hp.reads hv2
    rwa [core_core] at this)
  have h25 := Lib.hid (fun (W : World) (v : Value) (h : Below w.heap.size w W) (hp : OwnP W w.heap.size v (toI (L ++ A))) => preferredM (hT'.out.call h) hv3 hp)
  have h25b := Lib.hid (fun (W : World) (v : Value) (h : Below w.heap.size w W) (hp : OwnP W w.heap.size v (toI (core sz L ++ A))) => show Calls Tryd.prog 25 #[.int .i64 (sz : Int), v] W (MadeG W (lists (prefs sz (L ++ A))) 0) from by
    have := preferredM (hT'.out.call h) hv4 hp
    rwa [← prefs_core hs12 hwA] at this)
  have h32 := Lib.hid (fun (W : World) (v : Value) (h : Below w.heap.size w W) (hp : OwnP W w.heap.size v (toI (L ++ A))) => idealM (hT'.out.call h) hv3 hp)
  have h32b := Lib.hid (fun (W : World) (v : Value) (h : Below w.heap.size w W) (hp : OwnP W w.heap.size v (toI (core sz L ++ A))) => show Calls Tryd.prog 32 #[.int .i64 (sz : Int), v] W (MadeE W (natI (bl (idl sz (L ++ A)))) 0) from by
    have := idealM (hT'.out.call h) hv4 hp
    rwa [← idl_core hs12 hwA] at this)
  have hli := Lib.hid (fun (W : World) (h : Below w.heap.size w W) => lives20 (hT'.out.call h))
  have hl4 : (lists (prefs sz (L ++ A))).length ≤ 4096 := by rw [lists_len]; exact grt_len (sets_len hs12)
  have hrow := Lib.hid (fun j => lists_row (prefs sz (L ++ A)) j)
  have hIl := natI_le (idl sz (L ++ A))
  have hcell := Lib.hid (fun (k : Nat) (h : k < (core sz L).length) => show ∃ a b : Nat, (toI (core sz L)).getD k (0, 0) = ((a : Int), (b : Int)) ∧ a < sz ∧ b < sz from by
    have hm : (core sz L)[k] ∈ core sz L := List.getElem_mem _
    have := hcW _ hm
    exact ⟨(core sz L)[k].1, (core sz L)[k].2, by simp [toI, List.getD_eq_getElem?_getD, h], this.1, this.2⟩)
  have eA := Lib.hid (toI_app L A)
  have eC := Lib.hid (toI_app (core sz L) A)
  have nL := Lib.hid (toI_len L)
  have nA := Lib.hid (toI_len A)
  have nC := Lib.hid (toI_len (core sz L))
  clear hv1 hv2 hv3 hv4 hwin hcW hwA hwB hs1 hs12 hT'
  generalize core sz L = C at h39 h39b h25b h32b hcell eC nC hcL
  generalize lists (prefs sz (L ++ A)) = PP at h25 h25b hl4 hrow
  generalize natI (bl (idl sz (L ++ A))) = II at h32 h32b hIl
  obtain ⟨N, hN⟩ : ∃ N, N = C.length := ⟨_, rfl⟩
  have hN' := Lib.hid hN
  rw [← hN] at hcL hcell
  obtain ⟨NL, hNL⟩ : ∃ NL, NL = L.length := ⟨_, rfl⟩
  rw [← hNL] at hcL hlA
  have nL' := Lib.hid (show (toI L).length = NL from by rw [nL.out, hNL])
  have nC' := Lib.hid (show (toI C).length = N from by rw [nC.out, hN])
  clear hN hNL nL nC
  obtain ⟨al, cl, rfl, -⟩ := id (own_cells ho2.out)
  rw [nL'.out] at ho2 ⊢
  go_wp2_with (first
    | (go_at_call 39; refine (h39.out _ _ hb2.out ho2.out).mono ?_; rintro e w3 ⟨v3, rfl, ho, hb⟩; obtain ⟨ac, cc, rfl, -⟩ := id (own_cells ho); rw [nC'.out] at ho ⊢; have hC3 := Lib.hid (own_base ho hb2.out.size); have hb3 := Lib.hid (below_call hb2.out hb); have hL3 := Lib.hid (own_below ho2.out hb); have hA3 := Lib.hid (own_below hq2.out hb); clear ho hb h39)
    | (go_at_call 20; refine (hli.out _ hb3.out).mono ?_; rintro e w4 ⟨rfl, hb⟩; have hb4 := Lib.hid (below_call hb3.out hb); have hC4 := Lib.hid (own_below hC3.out hb); have hL4 := Lib.hid (own_below hL3.out hb); have hA4 := Lib.hid (own_below hA3.out hb); clear hb hli))

  go_loopw [13] (fun iv wr => ∃ k : Nat, k ≤ N ∧ iv = .int .i64 (k : Int) ∧ wr = w4) (fun iv _ => N - (intOf iv).toNat)
  case atStart => exact ⟨0, Nat.zero_le _, rfl, rfl⟩
  case round =>
    obtain ⟨k, hk, rfl, rfl⟩ := hrel
    by_cases hlt : k < N
    · obtain ⟨ao2, c2, e2, hcl⟩ := (OwnP.reads hC4.out).at
      simp only [Value.slice.injEq] at e2
      obtain ⟨rfl, -, rfl⟩ := e2
      obtain ⟨g, of, rfl, hg, hcl2⟩ := hcl (fun e => by have := nC'.out; rw [e] at this; simp at this; omega)
      obtain ⟨c1, c2⟩ := hcl2 k (by rw [nC'.out]; exact hlt)
      obtain ⟨a, b, hab, ha, hb⟩ := hcell.out k hlt
      rw [hab] at c1 c2
      have hki : (k : Int) < N := by omega
      have d1 : decide ((a : Int) < 0) = false := decide_eq_false (by omega)
      have d2 : decide ((b : Int) < 0) = false := decide_eq_false (by omega)
      have d3 : decide ((a : Int) ≥ sz) = false := decide_eq_false (by omega)
      have d4 : decide ((b : Int) ≥ sz) = false := decide_eq_false (by omega)
      clear hcl hcl2 hab
      go_wp2
      go_roundw
      case rel => exact ⟨k + 1, by omega, by go_num, trivial⟩
      case measure => simp [intOf]; omega
    · obtain rfl : k = N := by omega
      have hne : ¬ (k : Int) > NL := by omega
      have hlitA := Lib.hid (fun (W : World) => OwnP.lit W W.heap.size (Nat.le_refl _))
      go_wp2_with (first
        | (go_at_call 39; refine (h39b.out _ _ hb4.out hC4.out).mono ?_; rintro e w5 ⟨v5, rfl, ho, hb⟩; obtain ⟨a5, c5, rfl, -⟩ := id (own_cells ho); rw [nC'.out] at ho ⊢; have hb5 := Lib.hid (below_call hb4.out hb); have hC5 := Lib.hid (own_below hC4.out hb); have hL5 := Lib.hid (own_below hL4.out hb); have hA5 := Lib.hid (own_below hA4.out hb); have lit5 := Lib.hid (OwnP.lit w5 w5.heap.size (Nat.le_refl _)); have al5 := Lib.hid (below_alloc1 w5 (.cells #[] 58)); clear ho hb h39b)
        | (at_builtin; refine app_pairs lit5.out (own_below hL5.out al5.out) (by rw [nL'.out]; simp; omega) (by simp) rfl _ _ rfl rfl rfl ?_; intro v6 w6 ho hb; have ho6 := Lib.hid ho; have hb6 := Lib.hid (al5.out.trans hb); clear ho hb)
        | (at_builtin; refine app_pairs ho6.out (own_below hA5.out hb6.out) (by rw [List.length_append, nL'.out, nA.out]; simp; omega) hb6.out.size rfl _ _ rfl rfl rfl ?_; intro v7 w7 ho hb; have ho7 := Lib.hid (show OwnP w7 w.heap.size v7 (toI (L ++ A)) from by rw [eA.out]; exact own_base ho hb5.out.size); have hb57 := hb6.out.trans hb; have hb7 := Lib.hid (below_call hb5.out hb57); have hC7 := Lib.hid (own_below hC5.out hb57); have hA7 := Lib.hid (own_below hA5.out hb57); have lit7 := Lib.hid (OwnP.lit w7 w7.heap.size (Nat.le_refl _)); have al7 := Lib.hid (below_alloc1 w7 (.cells #[] 58)); clear ho hb hb57)
        | (at_builtin; refine app_pairs lit7.out (own_below hC7.out al7.out) (by rw [nC'.out]; simp; omega) (by simp) rfl _ _ rfl rfl rfl ?_; intro v8 w8 ho hb; have ho8 := Lib.hid ho; have hb8 := Lib.hid (al7.out.trans hb); clear ho hb)
        | (at_builtin; refine app_pairs ho8.out (own_below hA7.out hb8.out) (by rw [List.length_append, nC'.out, nA.out]; simp; omega) hb8.out.size rfl _ _ rfl rfl rfl ?_; intro v9 w9 ho hb; have hb79 := hb8.out.trans hb; have hb9 := Lib.hid (below_call hb7.out hb79); have hC9 := Lib.hid (show OwnP w9 w.heap.size v9 (toI (C ++ A)) from by rw [eC.out]; exact own_base ho hb7.out.size); have hL9 := Lib.hid (own_below ho7.out hb79); clear ho hb hb79)
        | (go_at_call 25; refine (h25.out _ _ hb9.out hL9.out).mono ?_; rintro e w10 ⟨v10, rfl, hz, hb⟩; have hP10 := Lib.hid hz.shape; have hb10 := Lib.hid (below_call hb9.out hb); have hL10 := Lib.hid (own_below hL9.out hb); have hC10 := Lib.hid (own_below hC9.out hb); clear hz hb h25)
        | (go_at_call 25; refine (h25b.out _ _ hb10.out hC10.out).mono ?_; rintro e w11 ⟨v11, rfl, hz, hb⟩; have hQ11 := Lib.hid hz.shape; have hP11 := Lib.hid (hP10.out.below hb); have hb11 := Lib.hid (below_call hb10.out hb); have hL11 := Lib.hid (own_below hL10.out hb); have hC11 := Lib.hid (own_below hC10.out hb); clear hz hb h25b)
        | (go_at_call 32; refine (h32.out _ _ hb11.out hL11.out).mono ?_; rintro e w12 ⟨v12, rfl, hz, hb⟩; have hI12 := Lib.hid hz.shape; have hP12 := Lib.hid (hP11.out.below hb); have hQ12 := Lib.hid (hQ11.out.below hb); have hb12 := Lib.hid (below_call hb11.out hb); have hC12 := Lib.hid (own_below hC11.out hb); clear hz hb h32)
        | (go_at_call 32; refine (h32b.out _ _ hb12.out hC12.out).mono ?_; rintro e w13 ⟨v13, rfl, hz, hb⟩; have hJ13 := Lib.hid hz.shape; have hI13 := Lib.hid (hI12.out.below hb); have hP13 := Lib.hid (hP12.out.below hb); have hQ13 := Lib.hid (hQ12.out.below hb); have hb13 := Lib.hid (below_call hb12.out hb); clear hz hb h32b)
        | (go_at_call 29; refine (refSame29 hP13.out hQ13.out (by omega) hrow.out hrow.out).mono ?_; rw [beq_self_eq_true]; rintro e w14 ⟨rfl, hb⟩; have hI14 := Lib.hid (hI13.out.below hb); have hJ14 := Lib.hid (hJ13.out.below hb); have hb14 := Lib.hid (below_call hb13.out hb); clear hb)
        | (go_at_call 23; refine (same23 hI14.out hJ14.out hIl).mono ?_; rw [sameL_self]; rintro e w15 ⟨rfl, hb⟩; have hb15 := Lib.hid (below_call hb14.out hb); clear hb))
      go_ret
      exact ⟨rfl, hb15.out⟩
end Go.Proofs.YtpcjigdmfchbdaaDoor
