import Derived.Test.YtfobdlllghpelaaXs
import Derived.Test.YtfobdlllghpelaaW
namespace Go.Proofs.Ytfobdlllghpelaa
open Go.RowKit Go.Shelf Pair
attribute [local go_sem] Oper.semAt_some

def ltS (cs : List (List Int)) (a b : List Nat) : Bool := lexB (falling (costsN cs a)) (falling (costsN cs b))
theorem less_eq {x y : List Nat} (h : x.length = y.length) : decide (cmpL (natI x) (natI y) < 0) = lexB x y := by
  have h1 := lexI_nat (l := x) (m := y) [] h (by rfl)
  rw [List.append_nil, List.append_nil] at h1
  rw [← lexI_cmp (by rw [natI_len, natI_len, h]), h1]
def BestS (cs : List (List Int)) (n : Nat) (w : World) (bv lv : Value) : Option (List Nat) → Prop
  | none => bv = .slice none 0 0 ∧ lv = .slice none 0 0
  | some l => (∃ ad c, bv = .slice (some ad) l.length c) ∧ Reads w bv (natI l) ∧ Reads w lv (natI (falling (costsN cs l))) ∧ (falling (costsN cs l)).length = n
theorem BestS.below {cs : List (List Int)} {n : Nat} {w w' : World} {bv lv : Value} {o : Option (List Nat)} (h : BestS cs n w bv lv o) (hb : Below w.heap.size w w') : BestS cs n w' bv lv o := by
  cases o with
  | none => exact h
  | some l => exact ⟨h.1, h.2.1.below hb, h.2.2.1.below hb, h.2.2.2⟩
def SmEnd (cs : List (List Int)) (n : Nat) (w : World) (o : Option (List Nat)) (e : Ending) (w' : World) : Prop := ∃ bv lv, e = .returned bv ∧ BestS cs n w' bv lv o ∧ Below w.heap.size w w'

set_option maxHeartbeats 4000000 in
set_option maxRecDepth 100000 in
theorem refSmooth27 {w : World} {v : Value} {cs : List (List Int)} {n : Nat} (h : Cst w v cs) (hg : Good cs n) (hn6 : n ≤ 6) :
    Calls Try.prog 27 #[v] w (SmEnd cs n w ((allP n n []).foldl (bestL (ltS cs)) none)) := by
  have hsq := h.sq hg
  obtain ⟨ao, c, rfl⟩ := hsq.val
  have hsq' := Lib.hid hsq
  have hn1 := hg.one
  have hall := Lib.hid (fun (w : World) => all54 hn6 n [] w (.slice none 0 0) (by refine ⟨none, 0, rfl, Nat.le_refl _, fun h => absurd rfl h⟩) (.inl rfl) (by simp))
  have hbd := Lib.hid (allP_bd (n := n) (k := n) hn6 (Nat.le_refl _) [])
  have hmem := Lib.hid (fun (l : List Nat) (hl : l ∈ allP n n []) => all_mem hl)
  have hsum := Lib.hid (fun (w' : World) (u : Value) (l : List Nat) (hb : Below w.heap.size w w') (hu : Reads w' u (natI l)) (hl : l ∈ allP n n []) => falling46 (hsq'.out.below hb) hg hu (hmem.out l hl).1 (hmem.out l hl).2.2)
  have hfl := Lib.hid (fun (l : List Nat) (hl : l ∈ allP n n []) => (show (falling (costsN cs l)).length = n by rw [ffF_falling, ffF_len]; exact (hmem.out l hl).1))
  obtain ⟨ls, hls⟩ : ∃ ls, ls = allP n n [] := ⟨_, rfl⟩
  rw [← hls] at hall hbd hmem hsum hfl ⊢
  have hnil := nil_eq
  clear h hg hsq hls
  go_enter Try.func27, Try.ntmps27
  go_wp2_with fail
  refine (hall.out _).mono ?_
  rintro e w1 ⟨v1, rfl, hv1, hb1⟩
  have hr1 := hv1.shape
  obtain ⟨lo, lc, rfl, _⟩ := hv1.shape
  rw [List.length_map] at hr1 ⊢
  obtain ⟨N, hN⟩ : ∃ N, N = ls.length := ⟨_, rfl⟩
  rw [← hN] at hr1 ⊢
  have hN' := Lib.hid hN
  have hNb : N ≤ 46656 := by rw [hN]; exact hbd.out
  have hr1' := Lib.hid hr1
  have hb1' := Lib.hid hb1
  clear hN hv1 hr1 hb1
  go_wp2_with fail
  go_loopw [3, 4, 12] (fun bv lv iv wr => ∃ k : Nat, k ≤ N ∧ iv = .int .i64 k ∧ Hid (BestS cs n wr bv lv ((ls.take k).foldl (bestL (ltS cs)) none)) ∧ Hid (Below w1.heap.size w1 wr)) (fun _ _ i _ => N - (intOf i).toNat)
  case atStart => exact ⟨0, Nat.zero_le _, rfl, Lib.hid ⟨rfl, rfl⟩, Lib.hid (Below.refl _ _)⟩
  case round =>
    obtain ⟨k, hk, rfl, hbest, hbw⟩ := hrel
    by_cases hlt : k < N
    · have hkl : k < ls.length := by rw [← hN'.out]; exact hlt
      obtain ⟨g, o, rfl, hgw, ro, rc, c1, hr⟩ := hr1'.out.at (by rw [List.length_map]; exact hN'.out.symm) hlt
      rw [show (ls.map natI).getD k [] = natI ls[k] by simp [List.getD_eq_getElem?_getD, hkl]] at c1 hr
      have hin : ls[k] ∈ ls := List.getElem_mem hkl
      have hsc := Lib.hid (foldl_take (bestL (ltS cs)) none ls k hkl)
      obtain ⟨l, hl⟩ : ∃ l, l = ls[k] := ⟨_, rfl⟩
      rw [← hl] at c1 hr hin hsc
      have hin' : l ∈ ls := hin
      have hm := hmem.out l hin
      rw [natI_len, hm.1] at c1 hr
      have cc := (hbw.out.cell (p := ⟨g, o + k, none⟩) hgw).trans c1
      have hrr := Lib.hid (hr.below hbw.out)
      obtain ⟨ad, l2, c2, e2⟩ := reads_addr hr (by rw [natI_len, hm.1]) hn1
      obtain ⟨rfl, rfl, rfl⟩ : ro = some ad ∧ n = l2 ∧ rc = c2 := by injection e2 with a b c; exact ⟨a, b, c⟩
      have hs := Lib.hid (hsum.out wr _ l (below_call hb1'.out hbw.out) hrr.out hin)
      have hml := Lib.hid hm.1
      clear c1 hr hl hin hm e2
      obtain ⟨b, hb⟩ : ∃ b, b = (ls.take k).foldl (bestL (ltS cs)) none := ⟨_, rfl⟩
      rw [← hb] at hbest hsc
      clear hb
      have hfl1 := Lib.hid (hfl.out l hin')
      cases b with
      | none =>
        obtain ⟨rfl, rfl⟩ := hbest.out
        have hsc' := Lib.hid (show (ls.take (k + 1)).foldl (bestL (ltS cs)) none = some l from hsc.out)
        go_wp2_with fail
        refine (hs.out).mono ?_
        rintro e w2 ⟨v2, rfl, hi2, hb2⟩
        have hi2' := Lib.hid hi2.shape
        have hr2 := Lib.hid (hrr.out.below hb2)
        have hb2' := Lib.hid (below_call hbw.out hb2)
        clear hb2 hi2
        go_wp2_with fail
        go_roundw
        case rel => exact ⟨k + 1, by omega, by go_num, Lib.hid (by rw [hsc'.out]; exact ⟨⟨_, _, by rw [hml.out]⟩, hr2.out, hi2'.out, hfl1.out⟩), hb2'⟩
        case measure => simp [intOf]; omega
      | some b =>
        obtain ⟨⟨adb, cb, rfl⟩, hbr, hbl, hbn⟩ := hbest.out
        have hbl' := Lib.hid hbl
        have hbn' := Lib.hid hbn
        have hsc' := Lib.hid (show (ls.take (k + 1)).foldl (bestL (ltS cs)) none = if ltS cs l b then some l else some b by rw [hsc.out]; rfl)
        clear hbr hbl hbn
        go_wp2_with fail
        refine (hs.out).mono ?_
        rintro e w2 ⟨v2, rfl, hi2, hb2⟩
        have hi2' := Lib.hid hi2.shape
        have hr2 := Lib.hid (hrr.out.below hb2)
        have hk2 := Lib.hid (hbest.out.below hb2)
        have hb2' := Lib.hid (below_call hbw.out hb2)
        have hls2 := Lib.hid (less58 hi2.shape (hbl'.out.below hb2) (by rw [natI_len, hfl1.out]; omega) (by rw [natI_len, natI_len, hfl1.out, hbn'.out]))
        rw [less_eq (by rw [hfl1.out, hbn'.out])] at hls2
        clear hb2 hi2
        obtain ⟨t, ht⟩ : ∃ t, t = ltS cs l b := ⟨_, rfl⟩
        have ht' := Lib.hid ht
        rw [show lexB (falling (costsN cs l)) (falling (costsN cs b)) = t from ht.symm] at hls2
        clear ht
        cases t with
        | true =>
          have hsc2 := Lib.hid (show (ls.take (k + 1)).foldl (bestL (ltS cs)) none = some l by rw [hsc'.out, ← ht'.out]; rfl)
          go_wp2_with fail
          refine (hls2.out).mono ?_
          rintro e w3 ⟨rfl, hb3⟩
          have hr3 := Lib.hid (hr2.out.below hb3)
          have hi3 := Lib.hid (hi2'.out.below hb3)
          have hb3' := Lib.hid (below_call hb2'.out hb3)
          clear hb3
          go_wp2_with fail
          go_roundw
          case rel => exact ⟨k + 1, by omega, by go_num, Lib.hid (by rw [hsc2.out]; exact ⟨⟨_, _, by rw [hml.out]⟩, hr3.out, hi3.out, hfl1.out⟩), hb3'⟩
          case measure => simp [intOf]; omega
        | false =>
          have hsc2 := Lib.hid (show (ls.take (k + 1)).foldl (bestL (ltS cs)) none = some b by rw [hsc'.out, ← ht'.out]; rfl)
          go_wp2_with fail
          refine (hls2.out).mono ?_
          rintro e w3 ⟨rfl, hb3⟩
          have hk3 := Lib.hid (hk2.out.below hb3)
          have hb3' := Lib.hid (below_call hb2'.out hb3)
          clear hb3
          go_wp2_with fail
          go_roundw
          case rel => exact ⟨k + 1, by omega, by go_num, Lib.hid (by rw [hsc2.out]; exact hk3.out), hb3'⟩
          case measure => simp [intOf]; omega
    · have hfin := Lib.hid (show (ls.take k).foldl (bestL (ltS cs)) none = ls.foldl (bestL (ltS cs)) none by rw [List.take_of_length_le (by rw [← hN'.out]; omega)])
      have hbest' := Lib.hid (show BestS cs n wr u3 u4 (ls.foldl (bestL (ltS cs)) none) by rw [← hfin.out]; exact hbest.out)
      clear hbest
      go_wp2_with fail
      go_ret
      exact ⟨_, _, rfl, hbest'.out, below_call hb1'.out hbw.out⟩
end Go.Proofs.Ytfobdlllghpelaa
