import Derived.Test.YtfobdlllghpelaaZc
import Derived.Test.YtfobdlllghpelaaW
import Derived.Maps.AppendAt
namespace Go.Proofs.Ytfobdlllghpelaa
open Go.RowKit Go.Shelf Pair
attribute [local go_sem] Oper.semAt_some

theorem Stays.trans {B : Nat} {W W1 W2 : World} (h : Stays B W W1) (k : Stays B W1 W2) : Stays B W W2 := ⟨Nat.le_trans h.1 k.1, fun g hg hl => (k.2 g hg (Nat.lt_of_lt_of_le hl h.1)).trans (h.2 g hg hl)⟩
theorem Stays.of_below {B : Nat} {W W' : World} (h : Below W.heap.size W W') : Stays B W W' := ⟨h.size, fun g _ hl => h.block g hl⟩
theorem Ints.stays {w w' : World} {B : Nat} {v : Value} {xs : List Int} (h : Ints w B v xs) (hs : Stays B w w') : Ints w' B v xs := by
  refine ⟨h.1, ?_⟩
  rcases h.2 with hn | ⟨b, cap, cur, e, hB, hb, rest⟩
  · exact .inl hn
  · exact .inr ⟨b, cap, cur, e, hB, by rw [hs.2 b hB (Array.getElem?_eq_some_iff.1 hb).1]; exact hb, rest⟩
theorem OwnG.at {w : World} {B : Nat} {v : Value} {xss : List (List Int)} (h : OwnG w B v xss) {k : Nat} (hk : k < xss.length) :
    ∃ g cap u, v = .slice (some ⟨g, 0, none⟩) xss.length cap ∧ B ≤ g ∧ g < w.heap.size ∧ w.cell? ⟨g, k, none⟩ = some u ∧ Ints w B u (xss.getD k []) := by
  obtain ⟨vs, h1, h2, h3⟩ := h
  have hh := h1
  rcases h1.2 with ⟨_, h0⟩ | ⟨g, cap, cur, rfl, hB, hg, _⟩
  · omega
  · refine ⟨g, cap, vs.getD k undef, by rw [h2], hB, (Array.getElem?_eq_some_iff.1 hg).1, ?_, h3 k (by omega)⟩
    rw [hh.cellAt k (by omega)]
    simp [List.getD_eq_getElem?_getD, h2, hk]
theorem Stays.cell {B g j : Nat} {W W' : World} (h : Stays B W W') (hB : B ≤ g) (hg : g < W.heap.size) : W'.cell? ⟨g, j, none⟩ = W.cell? ⟨g, j, none⟩ := by
  simp only [World.cell?, h.2 g hB hg]

/-- append(s, row) of one row, where the new slice lies. -/
theorem app_row_at {ops : Array Oper} {rest : List Oper} {o : Oper} {a : Act} {Q : Exit → Act → World → Prop} {w : World} {B : Nat} {v u : Value} {xss : List (List Int)} {ys : List Int}
    (hown : OwnG w B v xss) (hu : Ints w B u ys) (hlen : xss.length ≤ 1000000) (hB : B ≤ w.heap.size) (hgd : o.guard = none) (s x : Operand)
    (ho : o.op = .call { callee := .builtin .append, args := #[s, x], argTypes := #[22, 22] }) (hs : a.eval s = v) (hx : a.eval x = .slice (some ⟨w.heap.size, 0, none⟩) 1 1)
    (h : ∀ v' w', OwnG w' B v' (xss ++ [ys]) → Below B w w' → (∀ g, g < w.heap.size → some g ≠ v.ownBlock → w'.heap[g]? = w.heap[g]?) → w.heap.size ≤ w'.heap.size → (v'.ownBlock = v.ownBlock ∨ v'.ownBlock = some (w.heap.size + 1)) → wpList Try.prog ops Q rest (a.put o.dst v') w') : wpList Try.prog ops Q (o :: rest) a (w.alloc (.cells #[u] 24)) := by
  obtain ⟨i0, hi, hz0, hz1, hz2⟩ := info_parts info24
  obtain ⟨vs, hv, hvl, hin⟩ := hown
  have hone : u.oneCell' = true := by obtain ⟨ao, c, rfl, _⟩ := hu.shape; rfl
  refine wpList_append_own_at _ hgd s x 22 ho B 24 i0 (.slice none 0 0) 1 24 Try.underlying22 hi hz0 hz1 hz2 rfl (by decide) v vs.length vs hs (World.ownsRow.alloc hv _) ⟨w.heap.size, 0, none⟩ 1 1 [u] hx rfl (cell_one_new _ _ _) ?_ ?_ ?_ ?_ ?_
  · intro z hz; simp at hz; subst hz; exact hone
  · unfold maxLen; omega
  · omega
  · simp; omega
  · intro v' w' h2 h3 _ hloc
    have hkeep : ∀ u' zs, Ints w B u' zs → Ints w' B u' zs := by
      intro u' zs hz
      refine World.ownsRow.kept (World.ownsRow.alloc hz _) h3 ?_
      rcases hz.2 with ⟨rfl, _⟩ | ⟨g, cap, cur, rfl, _, hg, _⟩
      · exact .inl rfl
      · right
        intro e
        rcases hv.2 with ⟨rfl, _⟩ | ⟨g', cap', cur', rfl, _, hg', _⟩
        · simp [Value.ownBlock] at e
        · simp only [Value.ownBlock, Option.some.injEq] at e
          subst e
          rw [hg] at hg'
          simp at hg'
    refine h v' w' ⟨vs ++ [u], by simpa using h2, by simp [hvl], fun j hj => ?_⟩ ?_ ?_ ?_ ?_
    · simp at hj
      by_cases e : j < vs.length
      · have := hkeep _ _ (hin j e)
        rw [List.getD_eq_getElem?_getD, List.getElem?_append_left e, ← List.getD_eq_getElem?_getD, List.getD_eq_getElem?_getD (l := xss ++ [ys]), List.getElem?_append_left (by omega), ← List.getD_eq_getElem?_getD]
        exact this
      · have : j = vs.length := by omega
        subst this
        have := hkeep _ _ hu
        rw [List.getD_eq_getElem?_getD, List.getElem?_append_right (Nat.le_refl _), List.getD_eq_getElem?_getD, List.getElem?_append_right (by omega), hvl]
        simpa using this
    · exact ((Below.refl B w).alloc hB _).grown h3 (by simp; omega) (fun k hk => (World.ownsRow.lt hv k hk).1)
    · intro g hg hne
      rw [h3.block g (by simp; omega) hne]
      exact (below_alloc1 w _).block g hg
    · have := h3.size
      simp at this; omega
    · simpa using hloc

/-- The greatest cost of a pairing is within the limit. -/
def withinL (cs : List (List Int)) (lim : Int) (l : List Nat) : Bool := decide (((falling (costsN cs l)).getD 0 0 : Int) ≤ lim)
theorem okL_range (ok : Nat → Nat → Bool) : ∀ (l : List Nat) (i : Nat), okL ok i l = true ↔ ∀ j, j < l.length → ok (i + j) (l.getD j 0) = true
  | [], i => by simp [okL]
  | a :: l, i => by
    rw [okL, Bool.and_eq_true, okL_range ok l (i + 1)]
    constructor
    · rintro ⟨h1, h2⟩ j hj
      cases j with
      | zero => exact h1
      | succ j => have := h2 j (by simpa using hj); rw [show i + (j + 1) = i + 1 + j by omega]; simpa using this
    · intro h
      refine ⟨by simpa using h 0 (by simp), fun j hj => ?_⟩
      have := h (j + 1) (by simpa using hj)
      rw [show i + 1 + j = i + (j + 1) by omega]; simpa using this
theorem within_iff {cs : List (List Int)} {n : Nat} {lim : Int} {l : List Nat} (hn : 1 ≤ n) (hl : l.length = n) (hb : ∀ a ∈ l, a < n) (hbd : ∀ i j, i < n → j < n → 0 ≤ costAt cs i j ∧ costAt cs i j ≤ 1000) :
    withinL cs lim l = okL (okM cs 0 lim) 0 l := by
  rw [Bool.eq_iff_iff, okL_range]
  unfold withinL
  rw [decide_eq_true_eq]
  have hp := falling_perm (costsN cs l)
  have hs := falling_sorted (costsN cs l)
  have hlen : (falling (costsN cs l)).length = n := by rw [hp.length_eq]; simp [costsN, hl]
  cases hf : falling (costsN cs l) with
  | nil => rw [hf] at hlen; simp at hlen; omega
  | cons h t =>
    rw [hf] at hp hs
    have hmax : ∀ a ∈ costsN cs l, a ≤ h := fun a ha => by
      have := hp.mem_iff.2 ha
      rcases List.mem_cons.1 this with rfl | ht
      · exact Nat.le_refl _
      · exact (List.pairwise_cons.1 hs).1 a ht
    have hin : h ∈ costsN cs l := hp.mem_iff.1 (List.mem_cons_self ..)
    have hat : ∀ j, j < l.length → (costAt cs j (l.getD j 0)).toNat ∈ costsN cs l := fun j hj => by
      unfold costsN; rw [List.mem_map]; exact ⟨j, List.mem_range.2 hj, rfl⟩
    have hge : ∀ j, j < l.length → 0 ≤ costAt cs j (l.getD j 0) := fun j hj =>
      (hbd j _ (by omega) (hb _ (by rw [List.getD_eq_getElem?_getD, List.getElem?_eq_getElem hj]; simp))).1
    show (h : Int) ≤ lim ↔ _
    constructor
    · intro hle j hj
      have h1 := hmax _ (hat j hj)
      have h2 := hge j hj
      unfold okM
      rw [Nat.zero_add]
      simp only [Bool.and_eq_true, decide_eq_true_eq]
      omega
    · intro hall
      unfold costsN at hin
      rw [List.mem_map] at hin
      obtain ⟨j, hj, e⟩ := hin
      have h1 := hall j (List.mem_range.1 hj)
      have h2 := hge j (List.mem_range.1 hj)
      unfold okM at h1
      rw [Nat.zero_add] at h1
      simp only [Bool.and_eq_true, decide_eq_true_eq] at h1
      omega
theorem filter_take {α : Type} (p : α → Bool) (ls : List α) (k : Nat) (h : k < ls.length) : (ls.take (k + 1)).filter p = (ls.take k).filter p ++ (if p ls[k] then [ls[k]] else []) := by
  rw [List.take_succ_eq_append_getElem h, List.filter_append]
  cases e : p ls[k] <;> simp [e]

set_option maxHeartbeats 4000000 in
set_option maxRecDepth 100000 in
theorem allowed42 {w : World} {v : Value} {cs : List (List Int)} {n : Nat} (h : Cst w v cs) (hg : Good cs n) (hn6 : n ≤ 6) (lim : Int) :
    Calls Try.prog 42 #[v, .int .i64 lim] w (AllEnd w ((allP n n []).filter (withinL cs lim))) := by
  have hsq := h.sq hg
  obtain ⟨ao, c, rfl⟩ := hsq.val
  have hsq' := Lib.hid hsq
  have hn1 := hg.one
  have hall := Lib.hid (fun (w : World) => all54 hn6 n [] w (.slice none 0 0) (by refine ⟨none, 0, rfl, Nat.le_refl _, fun h => absurd rfl h⟩) (.inl rfl) (by simp))
  have hbd := Lib.hid (allP_bd (n := n) (k := n) hn6 (Nat.le_refl _) [])
  have hmem := Lib.hid (fun (l : List Nat) (hl : l ∈ allP n n []) => all_mem hl)
  have hfal := Lib.hid (fun (w' : World) (u : Value) (l : List Nat) (hb : Below w.heap.size w w') (hu : Reads w' u (natI l)) (hl : l ∈ allP n n []) => falling46 (hsq'.out.below hb) hg hu (hmem.out l hl).1 (hmem.out l hl).2.2)
  obtain ⟨ls, hls⟩ : ∃ ls, ls = allP n n [] := ⟨_, rfl⟩
  rw [← hls] at hall hbd hmem hfal ⊢
  clear h hg hsq hls
  have hg0 := Lib.hid (OwnG.lit w w.heap.size (Nat.le_refl _))
  have hb0 := Lib.hid (below_alloc1 w (.cells #[] 24))
  go_enter Try.func42, Try.ntmps42
  go_wp2_with fail
  have hs0 : (w.alloc (.cells #[] 24)).heap.size = w.heap.size + 1 := by simp
  obtain ⟨w0, hw0⟩ : ∃ w0, w0 = w.alloc (.cells #[] 24) := ⟨_, rfl⟩
  rw [← hw0] at hg0 hb0 hs0 ⊢
  have hs0' := Lib.hid hs0
  clear hw0 hs0
  refine (hall.out w0).mono ?_
  rintro e w1 ⟨v1, rfl, hv1, hb1⟩
  obtain ⟨lo, lc, rfl, _⟩ := hv1.shape
  rw [List.length_map] at hv1 ⊢
  obtain ⟨N, hN⟩ : ∃ N, N = ls.length := ⟨_, rfl⟩
  rw [← hN] at hv1 ⊢
  have hN' := Lib.hid hN
  have hNb : N ≤ 46656 := by rw [hN]; exact hbd.out
  have hv1' := Lib.hid hv1
  have hb1' := Lib.hid (below_call hb0.out hb1)
  have hg1 := Lib.hid (hg0.out.below hb1)
  have hsz1 := Lib.hid hb1.size
  clear hN hv1 hb1 hg0
  have hown0 := Lib.hid (show ∀ b, (Value.slice (some ⟨w.heap.size, 0, none⟩) 0 0).ownBlock = some b → b < w0.heap.size ∨ w1.heap.size ≤ b from fun b e => by
    simp only [Value.ownBlock, Option.some.injEq] at e
    rw [← e, hs0'.out]; left; omega)
  go_wp2_with fail
  go_loopw [5, 13] (fun p iv wr => ∃ k : Nat, k ≤ N ∧ iv = .int .i64 k ∧ Hid (OwnG wr w.heap.size p (((ls.take k).filter (withinL cs lim)).map natI)) ∧ Hid (∀ b, p.ownBlock = some b → b < w0.heap.size ∨ w1.heap.size ≤ b) ∧ Hid (Stays w0.heap.size w1 wr) ∧ Hid (Below w.heap.size w wr)) (fun _ i _ => N - (intOf i).toNat)
  case atStart => exact ⟨0, Nat.zero_le _, rfl, hg1, hown0, Lib.hid (Stays.refl _ _), hb1'⟩
  case round =>
    obtain ⟨k, hk, rfl, hout, hob, hst, hbw⟩ := hrel
    by_cases hlt : k < N
    · have hkl : k < ls.length := by rw [← hN'.out]; exact hlt
      obtain ⟨g1, cap1, u1, e1, hg1B, hg1s, c1, hi1⟩ := hv1'.out.at (k := k) (by rw [List.length_map]; exact hkl)
      obtain rfl : lo = some ⟨g1, 0, none⟩ := by injection e1
      rw [show (ls.map natI).getD k [] = natI ls[k] by simp [List.getD_eq_getElem?_getD, hkl]] at hi1
      have hin : ls[k] ∈ ls := List.getElem_mem hkl
      have hsc := Lib.hid (filter_take (withinL cs lim) ls k hkl)
      obtain ⟨l, hl⟩ : ∃ l, l = ls[k] := ⟨_, rfl⟩
      rw [← hl] at hi1 hin hsc
      have hm := hmem.out l hin
      have cc := (hst.out.cell (j := k) hg1B hg1s).trans c1
      have hrr := Lib.hid (hi1.stays hst.out)
      have hs := Lib.hid (hfal.out wr _ l hbw.out hrr.out.shape hin)
      obtain ⟨uo, uc, rfl, _⟩ := hi1.shape
      rw [natI_len, hm.1] at cc hrr hs
      have hml := Lib.hid hm.1
      have hflen : (falling (costsN cs l)).length = n := by rw [(falling_perm _).length_eq]; simp [costsN, hm.1]
      have hwl := Lib.hid (show withinL cs lim l = decide (((falling (costsN cs l)).getD 0 0 : Int) ≤ lim) from rfl)
      have hfk : ((ls.take k).filter (withinL cs lim)).length ≤ 46656 := by
        have h1 := List.length_filter_le (withinL cs lim) (ls.take k)
        rw [List.length_take] at h1; omega
      have hfk' := Lib.hid (show (((ls.take k).filter (withinL cs lim)).map natI).length ≤ 1000000 by rw [List.length_map]; omega)
      clear hi1 hl hin hm c1 e1 hfk
      obtain ⟨F, hF⟩ : ∃ F, F = falling (costsN cs l) := ⟨_, rfl⟩
      rw [← hF] at hs hflen hwl
      clear hF
      go_wp2_with fail
      refine (hs.out).mono ?_
      rintro e w2 ⟨v2, rfl, hv2, hb2⟩
      obtain ⟨g2, cap2, rfl, _, c2, _⟩ := int_val hv2 (by intro e; rw [e] at hflen; simp at hflen; omega)
      have c20 := c2 0 (by omega)
      rw [hflen]
      have hout2 := Lib.hid (hout.out.below hb2)
      have hst2 := Lib.hid (hst.out.trans (Stays.of_below hb2))
      have hrr2 := Lib.hid (hrr.out.below hb2)
      have hbw2 := Lib.hid (below_call hbw.out hb2)
      obtain ⟨y, hy⟩ : ∃ y, y = F.getD 0 0 := ⟨_, rfl⟩
      rw [← hy] at c20 hwl
      clear hy c2 hv2 hb2 hout hst hrr hbw
      by_cases hyl : (y : Int) ≤ lim
      · have hsc2 := Lib.hid (show ((ls.take (k + 1)).filter (withinL cs lim)).map natI = ((ls.take k).filter (withinL cs lim)).map natI ++ [natI l] by rw [hsc.out, hwl.out, if_pos (by simpa using hyl), List.map_append]; rfl)
        have hs2 := hbw2.out.size
        have hir := Lib.hid (hrr2.out.base (B' := w.heap.size) (by rw [hs0'.out]; omega))
        go_wp2_with (first | (at_builtin; refine app_row_at hout2.out hir.out hfk'.out hs2 rfl _ _ rfl rfl rfl ?_; intro v5 w5 hown5 hb5 hk5 hsz5 hl5))
        have hst5 := Lib.hid (show Stays w0.heap.size w1 w5 from ⟨Nat.le_trans hst2.out.1 hsz5, fun g hg hgl => by
          rw [hk5 g (Nat.lt_of_lt_of_le hgl hst2.out.1) (fun e => by rcases hob.out g e.symm with h | h <;> omega)]
          exact hst2.out.2 g hg hgl⟩)
        have hob5 := Lib.hid (show ∀ b, v5.ownBlock = some b → b < w0.heap.size ∨ w1.heap.size ≤ b from fun b e => by
          rcases hl5 with h | h
          · exact hob.out b (h ▸ e)
          · rw [h] at e
            injection e with e
            have := hst2.out.1
            right; omega)
        have hbw5 := Lib.hid (hbw2.out.trans hb5)
        clear hk5 hl5 hsz5 hb5
        go_roundw
        case rel => exact ⟨k + 1, by omega, by go_num, Lib.hid (by rw [hsc2.out]; exact hown5), hob5, hst5, hbw5⟩
        case measure => simp [intOf]; omega
      · have hsc2 := Lib.hid (show (ls.take (k + 1)).filter (withinL cs lim) = (ls.take k).filter (withinL cs lim) by rw [hsc.out, hwl.out, if_neg (by simpa using hyl)]; simp)
        have hyl' : decide ((y : Int) ≤ lim) = false := by simpa using hyl
        go_wp2_with fail
        go_roundw
        case rel => exact ⟨k + 1, by omega, by go_num, Lib.hid (by rw [hsc2.out]; exact hout2.out), hob, hst2, hbw2⟩
        case measure => simp [intOf]; omega
    · have hfin := Lib.hid (show ls.take k = ls by rw [List.take_of_length_le (by rw [← hN'.out]; omega)])
      rw [hfin.out] at hout
      go_wp2_with fail
      go_ret
      exact ⟨_, rfl, hout.out, hbw.out⟩
end Go.Proofs.Ytfobdlllghpelaa
