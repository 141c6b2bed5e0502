import Derived.Test.YtfobdlllghpelaaZv
namespace Go.Proofs.Ytfobdlllghpelaa
open Go.RowKit Go.Shelf Pair
attribute [local go_sem] Oper.semAt_some

/-- The greatest cost of a pairing; how much its costs differ. -/
def wrM (cs : List (List Int)) (l : List Nat) : Int := ((falling (costsN cs l)).getD 0 0 : Int)
def evM (cs : List (List Int)) (l : List Nat) : Int := ((falling (costsN cs l)).getD 0 0 : Int) - ((falling (costsN cs l)).getD ((falling (costsN cs l)).length - 1) 0 : Int)
theorem fall_bd {cs : List (List Int)} {n : Nat} {l : List Nat} (hbd : ∀ i j, i < n → j < n → 0 ≤ costAt cs i j ∧ costAt cs i j ≤ 1000) (hl : l.length = n) (hb : ∀ a ∈ l, a < n) (i : Nat) : (falling (costsN cs l)).getD i 0 ≤ 1000 := by
  rw [List.getD_eq_getElem?_getD]
  cases h : (falling (costsN cs l))[i]? with
  | none => simp
  | some x =>
    have hx := (falling_perm (costsN cs l)).mem_iff.1 (List.mem_of_getElem? h)
    obtain ⟨j, hj, rfl⟩ := List.mem_map.1 hx
    have hj := List.mem_range.1 hj
    have := hbd j (l.getD j 0) (by omega) (hb _ (getD_mem hj))
    simp only [Option.getD_some]
    omega
theorem evM_bd {cs : List (List Int)} {n : Nat} {l : List Nat} (hbd : ∀ i j, i < n → j < n → 0 ≤ costAt cs i j ∧ costAt cs i j ≤ 1000) (hl : l.length = n) (hb : ∀ a ∈ l, a < n) : -1000 ≤ evM cs l ∧ evM cs l ≤ 1000 := by
  have h1 := fall_bd hbd hl hb 0
  have h2 := fall_bd hbd hl hb ((falling (costsN cs l)).length - 1)
  unfold evM
  omega

set_option maxHeartbeats 4000000 in
set_option maxRecDepth 100000 in
theorem refWorst23 {w : World} {v : Value} {cs : List (List Int)} {n : Nat} (h : Cst w v cs) (hg : Good cs n) (hn6 : n ≤ 6) :
    Calls Try.prog 23 #[v] w (RefEnd w (wrM cs) ((allP n n []).foldl (bestM (wrM cs)) none)) := by
  have hsq := h.sq hg
  obtain ⟨ao, c, rfl⟩ := hsq.val
  have hsq' := Lib.hid hsq
  have hn1 := hg.one
  have hall := Lib.hid (fun (w : World) => all54 hn6 n [] w (.slice none 0 0) (by refine ⟨none, 0, rfl, Nat.le_refl _, fun h => absurd rfl h⟩) (.inl rfl) (by simp))
  have hbd := Lib.hid (allP_bd (n := n) (k := n) hn6 (Nat.le_refl _) [])
  have hmem := Lib.hid (fun (l : List Nat) (hl : l ∈ allP n n []) => all_mem hl)
  have hsum := Lib.hid (fun (w' : World) (u : Value) (l : List Nat) (hb : Below w.heap.size w w') (hu : Reads w' u (natI l)) (hl : l ∈ allP n n []) => falling46 (hsq'.out.below hb) hg hu (hmem.out l hl).1 (hmem.out l hl).2.2)
  obtain ⟨ls, hls⟩ : ∃ ls, ls = allP n n [] := ⟨_, rfl⟩
  rw [← hls] at hall hbd hmem hsum ⊢
  have hnil := nil_eq
  clear h hg hsq hls
  go_enter Try.func23, Try.ntmps23
  go_wp2_with fail
  refine (hall.out _).mono ?_
  rintro e w1 ⟨v1, rfl, hv1, hb1⟩
  have hr1 := hv1.shape
  obtain ⟨lo, lc, rfl, _⟩ := hv1.shape
  rw [List.length_map] at hr1 ⊢
  obtain ⟨N, hN⟩ : ∃ N, N = ls.length := ⟨_, rfl⟩
  rw [← hN] at hr1 ⊢
  have hN' := Lib.hid hN
  have hNb : N ≤ 46656 := by rw [hN]; exact hbd.out
  have hr1' := Lib.hid hr1
  have hb1' := Lib.hid hb1
  clear hN hv1 hr1 hb1
  go_wp2_with fail
  go_loopw [4, 5, 13] (fun bv lv iv wr => ∃ k : Nat, k ≤ N ∧ iv = .int .i64 k ∧ Hid (BestAt wr (wrM cs) bv lv ((ls.take k).foldl (bestM (wrM cs)) none)) ∧ Hid (Below w1.heap.size w1 wr)) (fun _ _ i _ => N - (intOf i).toNat)
  case atStart => exact ⟨0, Nat.zero_le _, rfl, Lib.hid ⟨rfl, rfl⟩, Lib.hid (Below.refl _ _)⟩
  case round =>
    obtain ⟨k, hk, rfl, hbest, hbw⟩ := hrel
    by_cases hlt : k < N
    · have hkl : k < ls.length := by rw [← hN'.out]; exact hlt
      obtain ⟨g, o, rfl, hgw, ro, rc, c1, hr⟩ := hr1'.out.at (by rw [List.length_map]; exact hN'.out.symm) hlt
      rw [show (ls.map natI).getD k [] = natI ls[k] by simp [List.getD_eq_getElem?_getD, hkl]] at c1 hr
      have hin : ls[k] ∈ ls := List.getElem_mem hkl
      have hsc := Lib.hid (foldl_take (bestM (wrM cs)) none ls k hkl)
      obtain ⟨l, hl⟩ : ∃ l, l = ls[k] := ⟨_, rfl⟩
      rw [← hl] at c1 hr hin hsc
      have hm := hmem.out l hin
      rw [natI_len, hm.1] at c1 hr
      have cc := (hbw.out.cell (p := ⟨g, o + k, none⟩) hgw).trans c1
      have hrr := Lib.hid (hr.below hbw.out)
      obtain ⟨ad, l2, c2, e2⟩ := reads_addr hr (by rw [natI_len, hm.1]) hn1
      obtain ⟨rfl, rfl, rfl⟩ : ro = some ad ∧ n = l2 ∧ rc = c2 := by injection e2 with a b c; exact ⟨a, b, c⟩
      have hs := Lib.hid (hsum.out wr _ l (below_call hb1'.out hbw.out) hrr.out hin)
      have hml := Lib.hid hm.1
      clear c1 hr hl hin hm e2
      obtain ⟨b, hb⟩ : ∃ b, b = (ls.take k).foldl (bestM (wrM cs)) none := ⟨_, rfl⟩
      rw [← hb] at hbest hsc
      clear hb
      have hfl : (falling (costsN cs l)).length = n := by rw [(falling_perm _).length_eq]; simp [costsN, hml.out]
      obtain ⟨m, hm⟩ : ∃ m, m = wrM cs l := ⟨_, rfl⟩
      have hm' := Lib.hid hm
      have hmF := Lib.hid (show m = ((falling (costsN cs l)).getD 0 0 : Int) from hm)
      obtain ⟨F, hF⟩ : ∃ F, F = falling (costsN cs l) := ⟨_, rfl⟩
      rw [← hF] at hs hfl hmF
      clear hm hF
      cases b with
      | none =>
        obtain ⟨rfl, rfl⟩ := hbest.out
        have hsc' := Lib.hid (show (ls.take (k + 1)).foldl (bestM (wrM cs)) none = some l from hsc.out)
        go_wp2_with fail
        refine (hs.out).mono ?_
        rintro e w2 ⟨vF, rfl, hvF, hb2⟩
        obtain ⟨gF, cF, rfl, _, kF, _⟩ := int_val hvF (by intro e; rw [e] at hfl; simp at hfl; omega)
        have k0 := kF 0 (by omega)
        rw [← hmF.out] at k0
        rw [hfl]
        clear hvF kF
        have hr2 := Lib.hid (hrr.out.below hb2)
        have hb2' := Lib.hid (below_call hbw.out hb2)
        clear hb2
        go_wp2_with fail
        go_roundw
        case rel => exact ⟨k + 1, by omega, by go_num, Lib.hid (by rw [hsc'.out]; exact ⟨⟨_, _, by rw [hml.out]⟩, hr2.out, by rw [hm'.out]⟩), hb2'⟩
        case measure => simp [intOf]; omega
      | some b =>
        obtain ⟨⟨adb, cb, rfl⟩, hbr, rfl⟩ := hbest.out
        have hsc' := Lib.hid (show (ls.take (k + 1)).foldl (bestM (wrM cs)) none = if m < wrM cs b then some l else some b by rw [hsc.out, hm'.out]; rfl)
        obtain ⟨mb, hmb⟩ : ∃ m, m = wrM cs b := ⟨_, rfl⟩
        rw [← hmb] at hsc' hbest ⊢
        have hmb' := Lib.hid hmb
        clear hmb hbr
        by_cases hlt2 : m < mb
        · have hsc2 := Lib.hid (show (ls.take (k + 1)).foldl (bestM (wrM cs)) none = some l by rw [hsc'.out, if_pos hlt2])
          go_wp2_with fail
          refine (hs.out).mono ?_
          rintro e w2 ⟨vF, rfl, hvF, hb2⟩
          obtain ⟨gF, cF, rfl, _, kF, _⟩ := int_val hvF (by intro e; rw [e] at hfl; simp at hfl; omega)
          have k0 := kF 0 (by omega)
          rw [← hmF.out] at k0
          rw [hfl]
          clear hvF kF
          have hr2 := Lib.hid (hrr.out.below hb2)
          have hb2' := Lib.hid (below_call hbw.out hb2)
          clear hb2
          go_wp2_with fail
          go_roundw
          case rel => exact ⟨k + 1, by omega, by go_num, Lib.hid (by rw [hsc2.out]; exact ⟨⟨_, _, by rw [hml.out]⟩, hr2.out, by rw [hm'.out]⟩), hb2'⟩
          case measure => simp [intOf]; omega
        · have hsc2 := Lib.hid (show (ls.take (k + 1)).foldl (bestM (wrM cs)) none = some b by rw [hsc'.out, if_neg hlt2])
          go_wp2_with fail
          refine (hs.out).mono ?_
          rintro e w2 ⟨vF, rfl, hvF, hb2⟩
          obtain ⟨gF, cF, rfl, _, kF, _⟩ := int_val hvF (by intro e; rw [e] at hfl; simp at hfl; omega)
          have k0 := kF 0 (by omega)
          rw [← hmF.out] at k0
          rw [hfl]
          clear hvF kF
          have hk2 := Lib.hid (hbest.out.below hb2)
          have hb2' := Lib.hid (below_call hbw.out hb2)
          clear hb2
          go_wp2_with fail
          go_roundw
          case rel => exact ⟨k + 1, by omega, by go_num, Lib.hid (by rw [hsc2.out]; exact hk2.out), hb2'⟩
          case measure => simp [intOf]; omega
    · have hfin := Lib.hid (show (ls.take k).foldl (bestM (wrM cs)) none = ls.foldl (bestM (wrM cs)) none by rw [List.take_of_length_le (by rw [← hN'.out]; omega)])
      have hbest' := Lib.hid (show BestAt wr (wrM cs) u4 u5 (ls.foldl (bestM (wrM cs)) none) by rw [← hfin.out]; exact hbest.out)
      clear hbest
      go_wp2_with fail
      go_ret2
      exact ⟨_, _, rfl, hbest'.out, below_call hb1'.out hbw.out⟩
set_option maxHeartbeats 4000000 in
set_option maxRecDepth 100000 in
theorem refEven24 {w : World} {v : Value} {cs : List (List Int)} {n : Nat} (h : Cst w v cs) (hg : Good cs n) (hn6 : n ≤ 6) :
    Calls Try.prog 24 #[v] w (RefEnd w (evM cs) ((allP n n []).foldl (bestM (evM cs)) none)) := by
  have hsq := h.sq hg
  obtain ⟨ao, c, rfl⟩ := hsq.val
  have hsq' := Lib.hid hsq
  have hn1 := hg.one
  have hall := Lib.hid (fun (w : World) => all54 hn6 n [] w (.slice none 0 0) (by refine ⟨none, 0, rfl, Nat.le_refl _, fun h => absurd rfl h⟩) (.inl rfl) (by simp))
  have hbd := Lib.hid (allP_bd (n := n) (k := n) hn6 (Nat.le_refl _) [])
  have hmem := Lib.hid (fun (l : List Nat) (hl : l ∈ allP n n []) => all_mem hl)
  have hsum := Lib.hid (fun (w' : World) (u : Value) (l : List Nat) (hb : Below w.heap.size w w') (hu : Reads w' u (natI l)) (hl : l ∈ allP n n []) => falling46 (hsq'.out.below hb) hg hu (hmem.out l hl).1 (hmem.out l hl).2.2)
  obtain ⟨ls, hls⟩ : ∃ ls, ls = allP n n [] := ⟨_, rfl⟩
  rw [← hls] at hall hbd hmem hsum ⊢
  have hnil := nil_eq
  have hbdd := Lib.hid hg.bd
  clear h hg hsq hls
  go_enter Try.func24, Try.ntmps24
  go_wp2_with fail
  refine (hall.out _).mono ?_
  rintro e w1 ⟨v1, rfl, hv1, hb1⟩
  have hr1 := hv1.shape
  obtain ⟨lo, lc, rfl, _⟩ := hv1.shape
  rw [List.length_map] at hr1 ⊢
  obtain ⟨N, hN⟩ : ∃ N, N = ls.length := ⟨_, rfl⟩
  rw [← hN] at hr1 ⊢
  have hN' := Lib.hid hN
  have hNb : N ≤ 46656 := by rw [hN]; exact hbd.out
  have hr1' := Lib.hid hr1
  have hb1' := Lib.hid hb1
  clear hN hv1 hr1 hb1
  go_wp2_with fail
  go_loopw [4, 5, 14] (fun bv lv iv wr => ∃ k : Nat, k ≤ N ∧ iv = .int .i64 k ∧ Hid (BestAt wr (evM cs) bv lv ((ls.take k).foldl (bestM (evM cs)) none)) ∧ Hid (Below w1.heap.size w1 wr)) (fun _ _ i _ => N - (intOf i).toNat)
  case atStart => exact ⟨0, Nat.zero_le _, rfl, Lib.hid ⟨rfl, rfl⟩, Lib.hid (Below.refl _ _)⟩
  case round =>
    obtain ⟨k, hk, rfl, hbest, hbw⟩ := hrel
    by_cases hlt : k < N
    · have hkl : k < ls.length := by rw [← hN'.out]; exact hlt
      obtain ⟨g, o, rfl, hgw, ro, rc, c1, hr⟩ := hr1'.out.at (by rw [List.length_map]; exact hN'.out.symm) hlt
      rw [show (ls.map natI).getD k [] = natI ls[k] by simp [List.getD_eq_getElem?_getD, hkl]] at c1 hr
      have hin : ls[k] ∈ ls := List.getElem_mem hkl
      have hsc := Lib.hid (foldl_take (bestM (evM cs)) none ls k hkl)
      obtain ⟨l, hl⟩ : ∃ l, l = ls[k] := ⟨_, rfl⟩
      rw [← hl] at c1 hr hin hsc
      have hm := hmem.out l hin
      rw [natI_len, hm.1] at c1 hr
      have cc := (hbw.out.cell (p := ⟨g, o + k, none⟩) hgw).trans c1
      have hrr := Lib.hid (hr.below hbw.out)
      obtain ⟨ad, l2, c2, e2⟩ := reads_addr hr (by rw [natI_len, hm.1]) hn1
      obtain ⟨rfl, rfl, rfl⟩ : ro = some ad ∧ n = l2 ∧ rc = c2 := by injection e2 with a b c; exact ⟨a, b, c⟩
      have hs := Lib.hid (hsum.out wr _ l (below_call hb1'.out hbw.out) hrr.out hin)
      have hml := Lib.hid hm.1
      have hmb := Lib.hid hm.2.2
      clear c1 hr hl hin hm e2
      obtain ⟨b, hb⟩ : ∃ b, b = (ls.take k).foldl (bestM (evM cs)) none := ⟨_, rfl⟩
      rw [← hb] at hbest hsc
      clear hb
      have hfl : (falling (costsN cs l)).length = n := by rw [(falling_perm _).length_eq]; simp [costsN, hml.out]
      obtain ⟨m, hm⟩ : ∃ m, m = evM cs l := ⟨_, rfl⟩
      have hm' := Lib.hid hm
      have hmF := Lib.hid (show m = ((falling (costsN cs l)).getD 0 0 : Int) - ((falling (costsN cs l)).getD ((falling (costsN cs l)).length - 1) 0 : Int) from hm)
      have hFb := Lib.hid (show ∀ i, (falling (costsN cs l)).getD i 0 ≤ 1000 from fall_bd hbdd.out hml.out hmb.out)
      obtain ⟨F, hF⟩ : ∃ F, F = falling (costsN cs l) := ⟨_, rfl⟩
      rw [← hF] at hs hfl hmF hFb
      rw [hfl] at hmF
      clear hm hF
      cases b with
      | none =>
        obtain ⟨rfl, rfl⟩ := hbest.out
        have hsc' := Lib.hid (show (ls.take (k + 1)).foldl (bestM (evM cs)) none = some l from hsc.out)
        go_wp2_with fail
        refine (hs.out).mono ?_
        rintro e w2 ⟨vF, rfl, hvF, hb2⟩
        obtain ⟨gF, cF, rfl, _, kF, _⟩ := int_val hvF (by intro e; rw [e] at hfl; simp at hfl; omega)
        have k0 := kF 0 (by omega)
        have k1 := kF (n - 1) (by omega)
        have hsub : (n : Int) - 1 = ((n - 1 : Nat) : Int) := by omega
        have hb0 := hFb.out 0
        have hb9 := hFb.out (n - 1)
        have hmE := hmF.out
        rw [hfl]
        obtain ⟨f0, hf0⟩ : ∃ f, f = F.getD 0 0 := ⟨_, rfl⟩
        obtain ⟨f9, hf9⟩ : ∃ f, f = F.getD (n - 1) 0 := ⟨_, rfl⟩
        obtain ⟨n1, hn1q⟩ : ∃ k, k = n - 1 := ⟨_, rfl⟩
        rw [← hf0] at k0 hb0 hmE
        rw [← hf9] at k1 hb9 hmE
        rw [← hn1q] at k1 hsub
        have hn1n : n1 < n := by omega
        have hmE2 : (f0 : Int) - (f9 : Int) = m := hmE.symm
        clear hvF kF hf0 hf9 hn1q hmE
        have hr2 := Lib.hid (hrr.out.below hb2)
        have hb2' := Lib.hid (below_call hbw.out hb2)
        clear hb2
        go_wp2_with fail
        go_quiet (fail)
        go_wp2_with fail
        go_roundw
        case rel => exact ⟨k + 1, by omega, by go_num, Lib.hid (by rw [hsc'.out]; exact ⟨⟨_, _, by rw [hml.out]⟩, hr2.out.below (below_drewN (Below.refl _ _) _), by rw [hm'.out]⟩), Lib.hid (below_drewN hb2'.out _)⟩
        case measure => simp [intOf]; omega
      | some b =>
        obtain ⟨⟨adb, cb, rfl⟩, hbr, rfl⟩ := hbest.out
        have hsc' := Lib.hid (show (ls.take (k + 1)).foldl (bestM (evM cs)) none = if m < evM cs b then some l else some b by rw [hsc.out, hm'.out]; rfl)
        obtain ⟨mb, hmb⟩ : ∃ m, m = evM cs b := ⟨_, rfl⟩
        rw [← hmb] at hsc' hbest ⊢
        have hmb' := Lib.hid hmb
        clear hmb hbr
        by_cases hlt2 : m < mb
        · have hsc2 := Lib.hid (show (ls.take (k + 1)).foldl (bestM (evM cs)) none = some l by rw [hsc'.out, if_pos hlt2])
          go_wp2_with fail
          refine (hs.out).mono ?_
          rintro e w2 ⟨vF, rfl, hvF, hb2⟩
          obtain ⟨gF, cF, rfl, _, kF, _⟩ := int_val hvF (by intro e; rw [e] at hfl; simp at hfl; omega)
          have k0 := kF 0 (by omega)
          have k1 := kF (n - 1) (by omega)
          have hsub : (n : Int) - 1 = ((n - 1 : Nat) : Int) := by omega
          have hb0 := hFb.out 0
          have hb9 := hFb.out (n - 1)
          have hmE := hmF.out
          rw [hfl]
          obtain ⟨f0, hf0⟩ : ∃ f, f = F.getD 0 0 := ⟨_, rfl⟩
          obtain ⟨f9, hf9⟩ : ∃ f, f = F.getD (n - 1) 0 := ⟨_, rfl⟩
          obtain ⟨n1, hn1q⟩ : ∃ k, k = n - 1 := ⟨_, rfl⟩
          rw [← hf0] at k0 hb0 hmE
          rw [← hf9] at k1 hb9 hmE
          rw [← hn1q] at k1 hsub
          have hn1n : n1 < n := by omega
          have hmE2 : (f0 : Int) - (f9 : Int) = m := hmE.symm
          clear hvF kF hf0 hf9 hn1q hmE
          have hr2 := Lib.hid (hrr.out.below hb2)
          have hb2' := Lib.hid (below_call hbw.out hb2)
          clear hb2
          go_wp2_with fail
          go_quiet (fail)
          go_wp2_with fail
          go_roundw
          case rel => exact ⟨k + 1, by omega, by go_num, Lib.hid (by rw [hsc2.out]; exact ⟨⟨_, _, by rw [hml.out]⟩, hr2.out.below (below_drewN (Below.refl _ _) _), by rw [hm'.out]⟩), Lib.hid (below_drewN hb2'.out _)⟩
          case measure => simp [intOf]; omega
        · have hsc2 := Lib.hid (show (ls.take (k + 1)).foldl (bestM (evM cs)) none = some b by rw [hsc'.out, if_neg hlt2])
          go_wp2_with fail
          refine (hs.out).mono ?_
          rintro e w2 ⟨vF, rfl, hvF, hb2⟩
          obtain ⟨gF, cF, rfl, _, kF, _⟩ := int_val hvF (by intro e; rw [e] at hfl; simp at hfl; omega)
          have k0 := kF 0 (by omega)
          have k1 := kF (n - 1) (by omega)
          have hsub : (n : Int) - 1 = ((n - 1 : Nat) : Int) := by omega
          have hb0 := hFb.out 0
          have hb9 := hFb.out (n - 1)
          have hmE := hmF.out
          rw [hfl]
          obtain ⟨f0, hf0⟩ : ∃ f, f = F.getD 0 0 := ⟨_, rfl⟩
          obtain ⟨f9, hf9⟩ : ∃ f, f = F.getD (n - 1) 0 := ⟨_, rfl⟩
          obtain ⟨n1, hn1q⟩ : ∃ k, k = n - 1 := ⟨_, rfl⟩
          rw [← hf0] at k0 hb0 hmE
          rw [← hf9] at k1 hb9 hmE
          rw [← hn1q] at k1 hsub
          have hn1n : n1 < n := by omega
          have hmE2 : (f0 : Int) - (f9 : Int) = m := hmE.symm
          clear hvF kF hf0 hf9 hn1q hmE
          have hk2 := Lib.hid (hbest.out.below hb2)
          have hb2' := Lib.hid (below_call hbw.out hb2)
          clear hb2
          go_wp2_with fail
          go_quiet (fail)
          go_wp2_with fail
          go_roundw
          case rel => exact ⟨k + 1, by omega, by go_num, Lib.hid (by rw [hsc2.out]; exact hk2.out.below (below_drewN (Below.refl _ _) _)), Lib.hid (below_drewN hb2'.out _)⟩
          case measure => simp [intOf]; omega
    · have hfin := Lib.hid (show (ls.take k).foldl (bestM (evM cs)) none = ls.foldl (bestM (evM cs)) none by rw [List.take_of_length_le (by rw [← hN'.out]; omega)])
      have hbest' := Lib.hid (show BestAt wr (evM cs) u4 u5 (ls.foldl (bestM (evM cs)) none) by rw [← hfin.out]; exact hbest.out)
      clear hbest
      go_wp2_with fail
      go_ret2
      exact ⟨_, _, rfl, hbest'.out, below_call hb1'.out hbw.out⟩
end Go.Proofs.Ytfobdlllghpelaa
