import Derived.Test.YtfobdlllghpelaaZ
import Derived.BigQuiet
namespace Go.Proofs.Ytfobdlllghpelaa
open Go.RowKit Go.Shelf Pair
attribute [local go_sem] Oper.semAt_some

/-- The sum of the costs of the columns from row `i` on. -/
def sumM (cs : List (List Int)) : Nat → List Nat → Int := ms (· + ·) 0 (costAt cs)
theorem sumM_cons (cs : List (List Int)) (i a : Nat) (l : List Nat) : sumM cs i (a :: l) = sumM cs (i + 1) l + costAt cs i a := rfl
theorem drop_nat (l : List Nat) (k : Nat) (h : k < l.length) : l.drop k = l.getD k 0 :: l.drop (k + 1) := by
  rw [List.drop_eq_getElem_cons h]; simp [List.getD_eq_getElem?_getD, h]
theorem natI_at (l : List Nat) (k : Nat) (h : k < l.length) : (natI l).getD k 0 = ((l.getD k 0 : Nat) : Int) := by
  simp [natI, List.getD_eq_getElem?_getD, h]

set_option maxHeartbeats 2000000 in
set_option maxRecDepth 100000 in
theorem sum47 {w : World} {v u : Value} {cs : List (List Int)} {n : Nat} {l : List Nat} (hv : Sq w v cs n) (hg : Good cs n) (hu : Reads w u (natI l)) (hl : l.length = n) (hb : ∀ a ∈ l, a < n) :
    Calls Try.prog 47 #[v, u] w fun e w' => e = .returned (.int .i64 (sumM cs 0 l)) ∧ Below w.heap.size w w' := by
  obtain ⟨ao, c, rfl⟩ := hv.val
  obtain ⟨bo, d, rfl, _⟩ := hu.len
  have hll : (natI l).length = n := by rw [natI_len, hl]
  rw [hll] at hu ⊢
  have hv' := Lib.hid hv
  have hu' := Lib.hid hu
  have hn8 := hg.eight
  have hl' := Lib.hid hl
  have hll' := Lib.hid hll
  have hb' := Lib.hid hb
  have hbd := Lib.hid hg.bd
  clear hv hu hl hll hb hg
  go_enter Try.func47, Try.ntmps47
  go_wp2
  go_loopw [5, 6] (fun sv iv wr => ∃ (k : Nat) (s : Int), k ≤ n ∧ iv = .int .i64 k ∧ sv = .int .i64 s ∧ 0 ≤ s ∧ s ≤ 1000 * (k : Int) ∧ Hid (sumM cs 0 l = s + sumM cs k (l.drop k)) ∧ Below w.heap.size w wr) (fun _ i _ => n - (intOf i).toNat)
  case atStart => exact ⟨0, 0, Nat.zero_le _, rfl, rfl, by omega, by omega, Lib.hid (by simp), Below.refl _ _⟩
  case round =>
    obtain ⟨k, s, hk, rfl, rfl, hs0, hs1, hj, hbw⟩ := hrel
    by_cases hlt : k < n
    · have hkl : k < l.length := by rw [hl'.out]; exact hlt
      obtain ⟨g, o, rfl, hg, g2, o2, rc, c1, hg2, hc2⟩ := hv'.out.at hlt
      obtain ⟨f, p, rfl, hf, hc3⟩ := hu'.out.at hll'.out hlt
      have hx := hb'.out (l.getD k 0) (by rw [List.getD_eq_getElem?_getD, List.getElem?_eq_getElem hkl]; simp)
      have c3 := (hbw.cell (p := ⟨f, p + k, none⟩) hf).trans (hc3 k hlt)
      rw [natI_at l k hkl] at c3
      have hd := Lib.hid (drop_nat l k hkl)
      obtain ⟨x, hxq⟩ : ∃ x, x = l.getD k 0 := ⟨_, rfl⟩
      rw [← hxq] at hx c3 hd
      have cc1 := (hbw.cell (p := ⟨g, o + k, none⟩) hg).trans c1
      have cc2 := (hbw.cell (p := ⟨g2, o2 + x, none⟩) hg2).trans (hc2 x hx)
      obtain ⟨hy0, hy1⟩ := hbd.out k x hlt hx
      have hj2 := Lib.hid (show sumM cs 0 l = (s + costAt cs k x) + sumM cs (k + 1) (l.drop (k + 1)) by rw [hj.out, hd.out, sumM_cons]; omega)
      obtain ⟨y, hyq⟩ : ∃ y, y = costAt cs k x := ⟨_, rfl⟩
      rw [← hyq] at cc2 hy0 hy1 hj2
      clear hyq hxq hc2 hc3 c1 hd hj
      go_wp2
      go_quiet (fail)
      go_wp2
      go_roundw
      case rel => exact ⟨k + 1, s + y, by omega, by go_num, by go_num, by omega, by omega, hj2, below_drewN hbw _⟩
      case measure => simp [intOf]; omega
    · have hf := Lib.hid (show sumM cs 0 l = s by
        rw [hj.out, List.drop_eq_nil_of_le (by rw [hl'.out]; omega)]
        show s + 0 = s
        omega)
      go_wp2
      go_ret
      exact ⟨ret_i hf.out.symm, hbw⟩

/-- The first of the least, so far. -/
def bestM (m : List Nat → Int) (b : Option (List Nat)) (l : List Nat) : Option (List Nat) := match b with
  | none => some l
  | some b => if m l < m b then some l else some b
theorem best_first (m : List Nat → Int) : ∀ (ls : List (List Nat)) (b : List Nat), ls.foldl (bestM m) (some b) = some (firstLeast m ls b)
  | [], b => rfl
  | l :: ls, b => by
    rw [List.foldl_cons, firstLeast]
    show ls.foldl (bestM m) (if m l < m b then some l else some b) = _
    by_cases h : m l < m b
    · rw [if_pos h, if_pos h]; exact best_first m ls l
    · rw [if_neg h, if_neg h]; exact best_first m ls b
theorem foldl_take {α β : Type} (f : β → α → β) (b : β) (ls : List α) (k : Nat) (h : k < ls.length) : (ls.take (k + 1)).foldl f b = f ((ls.take k).foldl f b) ls[k] := by
  rw [List.take_succ_eq_append_getElem h, List.foldl_append]; rfl
/-- The best list so far, and its measure. -/
def BestAt (w : World) (m : List Nat → Int) (v mv : Value) : Option (List Nat) → Prop
  | none => v = .slice none 0 0 ∧ mv = .int .i64 0
  | some l => (∃ ad c, v = .slice (some ad) l.length c) ∧ Reads w v (natI l) ∧ mv = .int .i64 (m l)
theorem BestAt.below {w w' : World} {m : List Nat → Int} {v mv : Value} : ∀ {o : Option (List Nat)}, BestAt w m v mv o → Below w.heap.size w w' → BestAt w' m v mv o
  | none, h, _ => h
  | some _, h, hb => ⟨h.1, h.2.1.below hb, h.2.2⟩
def RefEnd (w : World) (m : List Nat → Int) (o : Option (List Nat)) (e : Ending) (w' : World) : Prop := ∃ v mv, e = .returned (.tuple #[v, mv]) ∧ BestAt w' m v mv o ∧ Below w.heap.size w w'
theorem all_mem {n : Nat} {l : List Nat} (h : l ∈ allP n n []) : l.length = n ∧ l.Nodup ∧ ∀ a ∈ l, a < n := by
  have := (mem_allP n n [] l (by simp) (by simp)).1 h
  exact ⟨by simpa using this.2.1, this.2.2.1, this.2.2.2⟩

set_option maxHeartbeats 4000000 in
set_option maxRecDepth 100000 in
theorem refCheapest29 {w : World} {v : Value} {cs : List (List Int)} {n : Nat} (h : Cst w v cs) (hg : Good cs n) (hn6 : n ≤ 6) :
    Calls Try.prog 29 #[v] w (RefEnd w (sumM cs 0) ((allP n n []).foldl (bestM (sumM cs 0)) none)) := by
  have hsq := h.sq hg
  obtain ⟨ao, c, rfl⟩ := hsq.val
  have hsq' := Lib.hid hsq
  have hn1 := hg.one
  have hall := Lib.hid (fun (w : World) => all54 hn6 n [] w (.slice none 0 0) (by refine ⟨none, 0, rfl, Nat.le_refl _, fun h => absurd rfl h⟩) (.inl rfl) (by simp))
  have hbd := Lib.hid (allP_bd (n := n) (k := n) hn6 (Nat.le_refl _) [])
  have hmem := Lib.hid (fun (l : List Nat) (hl : l ∈ allP n n []) => all_mem hl)
  have hsum := Lib.hid (fun (w' : World) (u : Value) (l : List Nat) (hb : Below w.heap.size w w') (hu : Reads w' u (natI l)) (hl : l ∈ allP n n []) => sum47 (hsq'.out.below hb) hg hu (hmem.out l hl).1 (hmem.out l hl).2.2)
  obtain ⟨ls, hls⟩ : ∃ ls, ls = allP n n [] := ⟨_, rfl⟩
  rw [← hls] at hall hbd hmem hsum ⊢
  have hnil := nil_eq
  clear h hg hsq hls
  go_enter Try.func29, Try.ntmps29
  go_wp2_with fail
  refine (hall.out _).mono ?_
  rintro e w1 ⟨v1, rfl, hv1, hb1⟩
  have hr1 := hv1.shape
  obtain ⟨lo, lc, rfl, _⟩ := hv1.shape
  rw [List.length_map] at hr1 ⊢
  obtain ⟨N, hN⟩ : ∃ N, N = ls.length := ⟨_, rfl⟩
  rw [← hN] at hr1 ⊢
  have hN' := Lib.hid hN
  have hNb : N ≤ 46656 := by rw [hN]; exact hbd.out
  have hr1' := Lib.hid hr1
  have hb1' := Lib.hid hb1
  clear hN hv1 hr1 hb1
  go_wp2_with fail
  go_loopw [4, 5, 13] (fun bv lv iv wr => ∃ k : Nat, k ≤ N ∧ iv = .int .i64 k ∧ Hid (BestAt wr (sumM cs 0) bv lv ((ls.take k).foldl (bestM (sumM cs 0)) none)) ∧ Hid (Below w1.heap.size w1 wr)) (fun _ _ i _ => N - (intOf i).toNat)
  case atStart => exact ⟨0, Nat.zero_le _, rfl, Lib.hid ⟨rfl, rfl⟩, Lib.hid (Below.refl _ _)⟩
  case round =>
    obtain ⟨k, hk, rfl, hbest, hbw⟩ := hrel
    by_cases hlt : k < N
    · have hkl : k < ls.length := by rw [← hN'.out]; exact hlt
      obtain ⟨g, o, rfl, hgw, ro, rc, c1, hr⟩ := hr1'.out.at (by rw [List.length_map]; exact hN'.out.symm) hlt
      rw [show (ls.map natI).getD k [] = natI ls[k] by simp [List.getD_eq_getElem?_getD, hkl]] at c1 hr
      have hin : ls[k] ∈ ls := List.getElem_mem hkl
      have hsc := Lib.hid (foldl_take (bestM (sumM cs 0)) none ls k hkl)
      obtain ⟨l, hl⟩ : ∃ l, l = ls[k] := ⟨_, rfl⟩
      rw [← hl] at c1 hr hin hsc
      have hm := hmem.out l hin
      rw [natI_len, hm.1] at c1 hr
      have cc := (hbw.out.cell (p := ⟨g, o + k, none⟩) hgw).trans c1
      have hrr := Lib.hid (hr.below hbw.out)
      obtain ⟨ad, l2, c2, e2⟩ := reads_addr hr (by rw [natI_len, hm.1]) hn1
      obtain ⟨rfl, rfl, rfl⟩ : ro = some ad ∧ n = l2 ∧ rc = c2 := by injection e2 with a b c; exact ⟨a, b, c⟩
      have hs := Lib.hid (hsum.out wr _ l (below_call hb1'.out hbw.out) hrr.out hin)
      have hml := Lib.hid hm.1
      clear c1 hr hl hin hm e2
      obtain ⟨b, hb⟩ : ∃ b, b = (ls.take k).foldl (bestM (sumM cs 0)) none := ⟨_, rfl⟩
      rw [← hb] at hbest hsc
      clear hb
      obtain ⟨m, hm⟩ : ∃ m, m = sumM cs 0 l := ⟨_, rfl⟩
      rw [← hm] at hs
      have hm' := Lib.hid hm
      clear hm
      cases b with
      | none =>
        obtain ⟨rfl, rfl⟩ := hbest.out
        have hsc' := Lib.hid (show (ls.take (k + 1)).foldl (bestM (sumM cs 0)) none = some l from hsc.out)
        go_wp2_with fail
        refine (hs.out).mono ?_
        rintro e w2 ⟨rfl, hb2⟩
        have hr2 := Lib.hid (hrr.out.below hb2)
        have hb2' := Lib.hid (below_call hbw.out hb2)
        clear hb2
        go_wp2_with fail
        go_roundw
        case rel => exact ⟨k + 1, by omega, by go_num, Lib.hid (by rw [hsc'.out]; exact ⟨⟨_, _, by rw [hml.out]⟩, hr2.out, by rw [hm'.out]⟩), hb2'⟩
        case measure => simp [intOf]; omega
      | some b =>
        obtain ⟨⟨adb, cb, rfl⟩, hbr, rfl⟩ := hbest.out
        have hsc' := Lib.hid (show (ls.take (k + 1)).foldl (bestM (sumM cs 0)) none = if m < sumM cs 0 b then some l else some b by rw [hsc.out, hm'.out]; rfl)
        obtain ⟨mb, hmb⟩ : ∃ m, m = sumM cs 0 b := ⟨_, rfl⟩
        rw [← hmb] at hsc' hbest ⊢
        have hmb' := Lib.hid hmb
        clear hmb hbr
        by_cases hlt2 : m < mb
        · have hsc2 := Lib.hid (show (ls.take (k + 1)).foldl (bestM (sumM cs 0)) none = some l by rw [hsc'.out, if_pos hlt2])
          go_wp2_with fail
          refine (hs.out).mono ?_
          rintro e w2 ⟨rfl, hb2⟩
          have hr2 := Lib.hid (hrr.out.below hb2)
          have hb2' := Lib.hid (below_call hbw.out hb2)
          clear hb2
          go_wp2_with fail
          go_roundw
          case rel => exact ⟨k + 1, by omega, by go_num, Lib.hid (by rw [hsc2.out]; exact ⟨⟨_, _, by rw [hml.out]⟩, hr2.out, by rw [hm'.out]⟩), hb2'⟩
          case measure => simp [intOf]; omega
        · have hsc2 := Lib.hid (show (ls.take (k + 1)).foldl (bestM (sumM cs 0)) none = some b by rw [hsc'.out, if_neg hlt2])
          go_wp2_with fail
          refine (hs.out).mono ?_
          rintro e w2 ⟨rfl, hb2⟩
          have hk2 := Lib.hid (hbest.out.below hb2)
          have hb2' := Lib.hid (below_call hbw.out hb2)
          clear hb2
          go_wp2_with fail
          go_roundw
          case rel => exact ⟨k + 1, by omega, by go_num, Lib.hid (by rw [hsc2.out]; exact hk2.out), hb2'⟩
          case measure => simp [intOf]; omega
    · have hfin := Lib.hid (show (ls.take k).foldl (bestM (sumM cs 0)) none = ls.foldl (bestM (sumM cs 0)) none by rw [List.take_of_length_le (by rw [← hN'.out]; omega)])
      have hbest' := Lib.hid (show BestAt wr (sumM cs 0) u4 u5 (ls.foldl (bestM (sumM cs 0)) none) by rw [← hfin.out]; exact hbest.out)
      clear hbest
      go_wp2_with fail
      go_ret2
      exact ⟨_, _, rfl, hbest'.out, below_call hb1'.out hbw.out⟩
end Go.Proofs.Ytfobdlllghpelaa
