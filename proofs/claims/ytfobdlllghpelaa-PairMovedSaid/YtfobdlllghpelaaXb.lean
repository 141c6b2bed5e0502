import Derived.Test.YtfobdlllghpelaaXa
import Derived.Test.YtfobdlllghpelaaZy
import Derived.Test.YtfobdlllghpelaaZb
namespace Go.Proofs.Ytfobdlllghpelaa
open Go.RowKit Go.Shelf Pair
attribute [local go_sem] Oper.semAt_some

theorem catT_mem {cs : List (List Int)} {n i j : Nat} (hl : cs.length = n) (hr : ∀ i, i < n → (cs.getD i []).length = n) (hi : i < n) (hj : j < n) : costAt cs i j ∈ catT cs n := by
  unfold catT costAt
  rw [List.take_of_length_le (by omega), List.mem_flatten]
  refine ⟨cs.getD i [], ?_, ?_⟩
  · rw [List.getD_eq_getElem?_getD, List.getElem?_eq_getElem (by omega)]; exact List.getElem_mem _
  · have hjl := hr i hi
    have hj2 : j < (cs.getD i []).length := by omega
    rw [List.getD_eq_getElem?_getD (l := cs.getD i []), List.getElem?_eq_getElem hj2]
    exact List.getElem_mem _
theorem catT_bd {cs : List (List Int)} {n : Nat} (hg : Good cs n) : ∀ x ∈ catT cs n, 0 ≤ x ∧ x ≤ 1000 := by
  intro x hx
  unfold catT at hx
  rw [List.take_of_length_le (by rw [hg.len]; omega), List.mem_flatten] at hx
  obtain ⟨r, hr, hx⟩ := hx
  obtain ⟨i, hi, rfl⟩ := List.getElem_of_mem hr
  obtain ⟨j, hj, rfl⟩ := List.getElem_of_mem hx
  have hin : i < n := by rw [← hg.len]; exact hi
  have hrow := hg.row i hin
  have e : cs.getD i [] = cs[i] := by simp [List.getD_eq_getElem?_getD, hi]
  have := hg.bd i j hin (by rw [← hrow, e]; exact hj)
  unfold costAt at this
  rw [e] at this
  simpa [List.getD_eq_getElem?_getD, hj] using this

def EvIs (w : World) (n : Nat) (v dv : Value) : Option (List Nat × Int) → Prop
  | none => v = .slice none 0 0 ∧ dv = .int .i64 0
  | some (l, d) => (∃ g, v = .slice (some ⟨g, 0, none⟩) n n) ∧ Reads w v (natI l) ∧ l.length = n ∧ dv = .int .i64 d
theorem EvIs.below {w w' : World} {n : Nat} {v dv : Value} : ∀ {o : Option (List Nat × Int)}, EvIs w n v dv o → Below w.heap.size w w' → EvIs w' n v dv o
  | none, h, _ => h
  | some _, h, hb => ⟨h.1, h.2.1.below hb, h.2.2⟩
def EvenEnd (w : World) (n : Nat) (q : List Nat) (d : Int) (e : Ending) (w' : World) : Prop := ∃ g, e = .returned (.tuple #[.slice (some ⟨g, 0, none⟩) n n, .int .i64 d, .int .i64 0]) ∧ Reads w' (.slice (some ⟨g, 0, none⟩) n n) (natI q) ∧ Below w.heap.size w w'

set_option maxHeartbeats 1000000 in
set_option maxRecDepth 100000 in
theorem even20_bad {w : World} {v : Value} {cs : List (List Int)} (h : Cst w v cs) (hb : validC cs = false) :
    Calls Try.prog 20 #[v] w fun e w' => e = .returned (.tuple #[.slice none 0 0, .int .i64 0, .int .i64 1]) ∧ w = w' := by
  have hv := Lib.hid (valid48' h)
  rw [hb] at hv
  clear h
  go_enter Try.func20, Try.ntmps20
  go_wp2_with fail
  refine (hv.out).mono ?_
  rintro e w1 ⟨rfl, rfl⟩
  go_wp2_with fail
  go_ret3
  exact ⟨rfl, rfl⟩

set_option maxHeartbeats 4000000 in
set_option maxRecDepth 100000 in
theorem even20 {w : World} {v : Value} {cs : List (List Int)} {n : Nat} (h : Cst w v cs) (hb : validC cs = true) (hg : Good cs n) :
    Calls Try.prog 20 #[v] w fun e w' => ∃ q, EvenEnd w n q (evM cs q) e w' ∧ PermL n q ∧ (allP n n []).foldl (bestM (evM cs)) none = some q := by
  have hv := Lib.hid (valid48' h)
  rw [hb] at hv
  have hsq := h.sq hg
  obtain ⟨ao, c, rfl⟩ := hsq.val
  have hn8 := hg.eight
  have hn1 := hg.one
  have hcc := Lib.hid (concat50 hsq hg.one hg.eight)
  have hab := Lib.hid (fun (w' : World) (lo : Int) (hb : Below w.heap.size w w') => above49 (hsq.below hb) hg.one hg.eight lo)
  have hlen := catT_len hg.len hg.row n (Nat.le_refl _)
  have hb64 : n * n ≤ 64 := Nat.mul_le_mul hn8 hn8
  have hxb := Lib.hid (catT_bd hg)
  have hend := Lib.hid (fun o (ho : EvOk cs n (catT cs n) o) => ev_end hg ho fun i j hi hj => catT_mem hg.len hg.row hi hj)
  have hnx := Lib.hid (fun (los : List Int) (lo : Int) (m : Nat) (o : Option (List Nat × Int)) (q : List Nat) (hlo : 0 ≤ lo ∧ lo ≤ 1000) (ho : EvOk cs n los o) (h1 : Least (fun m => decide (0 < waysM cs lo m n)) 1000 m) (h2 : (sufs (okM cs lo m) n n (2 ^ n - 1))[0]? = some q) => And.intro (ev_next hg hlo ho h1 h2) (above_fact hg h1 h2).1)
  have hsk := Lib.hid (fun (los : List Int) (lo : Int) (m : Nat) (o : Option (List Nat × Int)) (ho : EvOk cs n los o) (h1 : Least (fun m => decide (0 < waysM cs lo m n)) 1000 m) (h2 : (sufs (okM cs lo m) n n (2 ^ n - 1))[0]? = none) => ev_skip hg ho h1 h2)
  obtain ⟨L, hL⟩ : ∃ L, L = catT cs n := ⟨_, rfl⟩
  rw [← hL] at hcc hlen hxb hend
  obtain ⟨N, hN⟩ : ∃ N, N = n * n := ⟨_, rfl⟩
  rw [← hN] at hlen hb64
  have hlen' := Lib.hid hlen
  have hnil := nil_eq
  clear h hb hg hsq hL hN hlen
  go_enter Try.func20, Try.ntmps20
  go_wp2_with fail
  refine (hv.out).mono ?_
  rintro e w1 ⟨rfl, rfl⟩
  go_wp2_with fail
  refine (hcc.out).mono ?_
  rintro e w1 ⟨v1, rfl, hv1, hb1⟩
  have hr1 := hv1.shape
  obtain ⟨lo1, lc1, rfl, _⟩ := hv1.shape
  rw [hlen'.out] at hr1 ⊢
  have hr1' := Lib.hid hr1
  have hb1' := Lib.hid hb1
  clear hv1 hr1 hb1
  go_wp2_with fail
  go_loopw [5, 6, 17] (fun bv dv iv wr => ∃ (k : Nat) (o : Option (List Nat × Int)), k ≤ N ∧ iv = .int .i64 k ∧ Hid (EvIs wr n bv dv o) ∧ Hid (EvOk cs n (L.take k) o) ∧ Hid (Below w1.heap.size w1 wr)) (fun _ _ iv _ => N - (intOf iv).toNat)
  case atStart => exact ⟨0, none, Nat.zero_le _, rfl, Lib.hid ⟨rfl, rfl⟩, Lib.hid (fun lo h => by simp at h), Lib.hid (Below.refl _ _)⟩
  case round =>
    obtain ⟨k, o, hk, rfl, hbest, hok, hbw⟩ := hrel
    by_cases hkN : k < N
    · have hkl : k < L.length := by rw [hlen'.out]; exact hkN
      obtain ⟨g, of, rfl, hg1, hc1⟩ := hr1'.out.at hlen'.out hkN
      have cc := (hbw.out.cell (p := ⟨g, of + k, none⟩) hg1).trans (hc1 k hkN)
      have hx := hxb.out (L.getD k 0) (by rw [List.getD_eq_getElem?_getD, List.getElem?_eq_getElem hkl]; exact List.getElem_mem hkl)
      have htk := Lib.hid (show L.take (k + 1) = L.take k ++ [L.getD k 0] by rw [List.take_succ_eq_append_getElem hkl]; simp [List.getD_eq_getElem?_getD, hkl])
      obtain ⟨x, hxq⟩ : ∃ x, x = L.getD k 0 := ⟨_, rfl⟩
      rw [← hxq] at cc hx htk
      have hcall := Lib.hid (hab.out wr x (below_call hb1'.out hbw.out))
      clear hc1 hxq
      go_wp2_with fail
      refine (hcall.out).mono ?_
      rintro e w2 ⟨m, pv, rfl, hm, hf, hb2⟩
      have hbest2 := Lib.hid (hbest.out.below hb2)
      have hbw2 := Lib.hid (below_call hbw.out hb2)
      have hm1 := hm.1
      obtain ⟨s, hs⟩ : ∃ s, s = (sufs (okM cs x m) n n (2 ^ n - 1))[0]? := ⟨_, rfl⟩
      rw [← hs] at hf
      cases s with
      | none =>
        have hok2 := Lib.hid (show EvOk cs n (L.take (k + 1)) o by rw [htk.out]; exact hsk.out _ _ _ _ hok.out hm hs.symm)
        have e7 : pv = .slice none 0 0 := by have := hf; unfold Found at this; injection this
        subst e7
        clear hm hf hb2 hs hbest hbw cc hok hcall
        go_wp2_with fail
        go_roundw
        case rel => exact ⟨k + 1, o, by omega, by go_num, hbest2, hok2, hbw2⟩
        case measure => simp [intOf]; omega
      | some q =>
        obtain ⟨hok1, hqp⟩ := hnx.out _ _ _ _ _ hx hok.out hm hs.symm
        rw [← htk.out] at hok1
        obtain ⟨gq, rfl, hrow⟩ := found_row hf
        have hql := hqp.1
        have hnew := Lib.hid hrow.reads
        have hqn : (natI q).length = n := by rw [natI_len, hql]
        have hmx : -1000 ≤ (m : Int) - x ∧ (m : Int) - x ≤ 1000 := by omega
        have hql' := Lib.hid hql
        have hqn' := Lib.hid hqn
        have hok' := Lib.hid hok.out
        clear hm hf hb2 hs hbest hbw cc hcall hrow hqp hql hqn hok
        cases o with
        | none =>
          obtain ⟨rfl, rfl⟩ := hbest2.out
          have hok2 := Lib.hid (show EvOk cs n (L.take (k + 1)) (some (q, (m : Int) - x)) from hok1)
          clear hok1 hbest2
          go_wp2_with fail
          go_roundw
          case rel => exact ⟨k + 1, some (q, (m : Int) - x), by omega, by go_num, Lib.hid ⟨⟨_, rfl⟩, hnew.out, hql'.out, rfl⟩, hok2, hbw2⟩
          case measure => simp [intOf]; omega
        | some bd =>
          obtain ⟨b, d⟩ := bd
          obtain ⟨⟨gb, rfl⟩, hrb, hbl, rfl⟩ := hbest2.out
          have hd := hok'.out.2.2.1
          have hok2 := Lib.hid (show EvOk cs n (L.take (k + 1)) (if orI ((m : Int) - x - d) (cmpL (natI q) (natI b)) < 0 then some (q, (m : Int) - x) else some (b, d)) from hok1)
          have hcm := Lib.hid (compare52 hnew.out hrb (by rw [hqn'.out]; omega))
          obtain ⟨C, hC⟩ : ∃ C, C = cmpL (natI q) (natI b) := ⟨_, rfl⟩
          rw [← hC] at hcm hok2
          clear hC hok1 hrb hbl
          go_wp2_with fail
          refine (hcm.out).mono ?_
          rintro e w4 ⟨rfl, rfl⟩
          go_wp2_with fail
          refine (or51 (w := w2.alloc (.cells #[.int .i64 ((m : Int) - x - d), .int .i64 C] 3)) (a := (m : Int) - x - d) (b := C) (by rw [World.cell?_alloc_at (hn := rfl)]; rfl) (by rw [World.cell?_alloc_at (hn := rfl)]; rfl)).mono ?_
          rintro e w5 ⟨rfl, rfl⟩
          have hbx := below_alloc1 w2 (.cells #[.int .i64 ((m : Int) - x - d), .int .i64 C] 3)
          have hbw5 := Lib.hid (below_call hbw2.out hbx)
          have hk5 := Lib.hid (hbest2.out.below hbx)
          have hnew5 := Lib.hid (hnew.out.below hbx)
          obtain ⟨w6, hw6⟩ : ∃ w6, w6 = w2.alloc (.cells #[.int .i64 ((m : Int) - x - d), .int .i64 C] 3) := ⟨_, rfl⟩
          rw [← hw6] at hbw5 hk5 hnew5 ⊢
          clear hbx hw6 hbw2 hbest2 hnew
          obtain ⟨Z, hZ⟩ : ∃ Z, Z = orI ((m : Int) - x - d) C := ⟨_, rfl⟩
          rw [← hZ] at hok2 ⊢
          clear hZ
          by_cases hz : Z < 0
          · have hok3 := Lib.hid (show EvOk cs n (L.take (k + 1)) (some (q, (m : Int) - x)) by have := hok2.out; rwa [if_pos hz] at this)
            go_wp2_with fail
            go_roundw
            case rel => exact ⟨k + 1, some (q, (m : Int) - x), by omega, by go_num, Lib.hid ⟨⟨_, rfl⟩, hnew5.out, hql'.out, rfl⟩, hok3, hbw5⟩
            case measure => simp [intOf]; omega
          · have hok3 := Lib.hid (show EvOk cs n (L.take (k + 1)) (some (b, d)) by have := hok2.out; rwa [if_neg hz] at this)
            go_wp2_with fail
            go_roundw
            case rel => exact ⟨k + 1, _, by omega, by go_num, hk5, hok3, hbw5⟩
            case measure => simp [intOf]; omega
    · obtain ⟨q, he, hqp, hq⟩ := hend.out o (by have := hok.out; rwa [List.take_of_length_le (by rw [hlen'.out]; omega)] at this)
      rw [he] at hbest
      obtain ⟨⟨gb, rfl⟩, hrb, _, rfl⟩ := hbest.out
      have hrb' := Lib.hid hrb
      have hqp' := Lib.hid hqp
      have hq' := Lib.hid hq
      obtain ⟨d, hd⟩ : ∃ d, d = evM cs q := ⟨_, rfl⟩
      rw [← hd] at hbest ⊢
      have hd' := Lib.hid hd
      clear he hrb hqp hq hbest hok hd
      go_wp2_with fail
      go_ret3
      exact ⟨q, ⟨gb, by rw [← hd'.out]; rfl, hrb'.out, below_call hb1'.out hbw.out⟩, hqp'.out, hq'.out⟩

set_option maxHeartbeats 4000000 in
set_option maxRecDepth 100000 in
theorem walk3 {w : World} {v : Value} {xss : List (List Int)} (hg : InRows w v xss) :
    Calls Try.prog 3 #[v] w fun e w' => e = .returned (.bool true) ∧ Below w.heap.size w w' := by
  have hf := Lib.hid (few18 hg)
  have h6 := Lib.hid (few_six (gs := xss))
  obtain ⟨cs, hcs⟩ : ∃ cs, cs = fewOf xss := ⟨_, rfl⟩
  have hcst := Lib.hid (fun (w : World) (B : Nat) (v : Value) (h : OwnG w B v cs) => (show Cst w v cs by rw [hcs] at h ⊢; exact few_cst h))
  rw [← hcs] at hf h6
  obtain ⟨go, gc, rfl, _⟩ := hg
  clear hcs
  have hlv := Lib.hid (fun (w : World) => lives22 (w := w))
  obtain ⟨b, hb⟩ : ∃ b, b = validC cs := ⟨_, rfl⟩
  cases b with
  | false =>
    have hk1 := Lib.hid (fun (w : World) (v : Value) (h : Cst w v cs) => worst19_bad h hb.symm)
    have hk2 := Lib.hid (fun (w : World) (v : Value) (h : Cst w v cs) => even20_bad h hb.symm)
    have hc := Lib.hid (fun (w : World) (v : Value) (h : Cst w v cs) => costs21 h)
    rw [← hb] at hc
    clear hb h6
    go_enter Try.func3, Try.ntmps3
    go_wp2_with fail
    refine (hf.out).mono ?_
    rintro e w1 ⟨v1, rfl, hv1, hb1⟩
    have hc1 := Lib.hid (hcst.out _ _ _ hv1)
    have hb1' := Lib.hid hb1
    obtain ⟨vo, vc, rfl, _⟩ := hv1.shape
    clear hv1 hb1
    go_wp2_with fail
    refine (hk1.out _ _ hc1.out).mono ?_
    rintro e w2 ⟨rfl, rfl⟩
    go_wp2_with fail
    refine (hk2.out _ _ hc1.out).mono ?_
    rintro e w2 ⟨rfl, rfl⟩
    go_wp2_with fail
    refine (hc.out _ _ hc1.out).mono ?_
    rintro e w3 ⟨rfl, rfl⟩
    go_wp2_with fail
    refine (hlv.out _).mono ?_
    rintro e w3 ⟨rfl, hb3⟩
    have hb3' := Lib.hid (below_call hb1'.out hb3)
    clear hb3
    go_wp2_with fail
    go_ret
    exact ⟨rfl, hb3'.out⟩
  | true =>
    have hgd := good_of hb.symm
    have hn6 := h6.out hb.symm
    obtain ⟨n, hn⟩ : ∃ n, n = cs.length := ⟨_, rfl⟩
    rw [← hn] at hgd hn6
    have hk1 := Lib.hid (fun (w : World) (v : Value) (h : Cst w v cs) => worst19 h hb.symm hgd)
    have hk2 := Lib.hid (fun (w : World) (v : Value) (h : Cst w v cs) => even20 h hb.symm hgd)
    have hwe := Lib.hid (fun (m : Nat) (h : Least (fun m => decide (0 < waysM cs 0 m n)) 1000 m) => worst_end hgd h)
    have hr1 := Lib.hid (fun (w : World) (v : Value) (h : Cst w v cs) => refWorst23 h hgd hn6)
    have hr2 := Lib.hid (fun (w : World) (v : Value) (h : Cst w v cs) => refEven24 h hgd hn6)
    have hc := Lib.hid (fun (w : World) (v : Value) (h : Cst w v cs) => costs21 h)
    have hn1 := hgd.one
    rw [← hb] at hc
    clear hb hgd hn h6
    go_enter Try.func3, Try.ntmps3
    go_wp2_with fail
    refine (hf.out).mono ?_
    rintro e w1 ⟨v1, rfl, hv1, hb1⟩
    have hc1 := Lib.hid (hcst.out _ _ _ hv1)
    have hb1' := Lib.hid hb1
    obtain ⟨vo, vc, rfl, _⟩ := hv1.shape
    clear hv1 hb1
    go_wp2_with fail
    refine (hk1.out _ _ hc1.out).mono ?_
    rintro e w2 ⟨m, pv, rfl, hm, hpv, hb2⟩
    obtain ⟨q, q1, q2, q3, q4⟩ := hwe.out m hm
    rw [q1] at hpv
    obtain ⟨gp, rfl, hrow⟩ := found_row hpv
    have hp2 := Lib.hid hrow.reads
    have hc2 := Lib.hid (hc1.out.below hb2)
    have hb2' := Lib.hid (below_call hb1'.out hb2)
    have hr1' := Lib.hid (fun (w : World) (v : Value) (h : Cst w v cs) => hr1.out w v h)
    rw [q4] at hr1'
    have hql := Lib.hid (show (natI q).length = n by rw [natI_len, q2.1])
    have hq3 := Lib.hid q3
    clear hm hpv hrow hb2 hc1 hb1' q1 q2 q3 q4 hk1 hwe hr1
    go_wp2_with fail
    refine (hk2.out _ _ hc2.out).mono ?_
    rintro e w3 ⟨p, ⟨gv, rfl, hv3, hb3⟩, hpp, hpe⟩
    have hp3 := Lib.hid (hp2.out.below hb3)
    have hv3' := Lib.hid hv3
    have hc3 := Lib.hid (hc2.out.below hb3)
    have hb3' := Lib.hid (below_call hb2'.out hb3)
    have hr2' := Lib.hid (fun (w : World) (v : Value) (h : Cst w v cs) => hr2.out w v h)
    rw [hpe] at hr2'
    have hpl := Lib.hid (show (natI p).length = n by rw [natI_len, hpp.1])
    obtain ⟨d, hd⟩ : ∃ d, d = evM cs p := ⟨_, rfl⟩
    rw [← hd]
    have hd' := Lib.hid hd
    clear hv3 hb3 hc2 hb2' hp2 hpp hpe hk2 hr2 hd
    go_wp2_with fail
    refine (hc.out _ _ hc3.out).mono ?_
    rintro e w4 ⟨rfl, rfl⟩
    go_wp2_with fail
    refine (hr1'.out _ _ hc3.out).mono ?_
    rintro e w4 ⟨u4, m4, rfl, ⟨⟨ad4, c4, rfl⟩, hu4, rfl⟩, hb4⟩
    rw [hq3.out]
    have hs4 := Lib.hid hu4
    have hp4 := Lib.hid (hp3.out.below hb4)
    have hv4 := Lib.hid (hv3'.out.below hb4)
    have hc4 := Lib.hid (hc3.out.below hb4)
    have hb4' := Lib.hid (below_call hb3'.out hb4)
    clear hu4 hb4 hc3 hb3' hp3 hv3' hr1'
    go_wp2_with fail
    refine (hr2'.out _ _ hc4.out).mono ?_
    rintro e w5 ⟨u5, m5, rfl, ⟨⟨ad5, c5, rfl⟩, hu5, rfl⟩, hb5⟩
    rw [← hd'.out]
    have hs5 := Lib.hid (hs4.out.below hb5)
    have hp5 := Lib.hid (hp4.out.below hb5)
    have hv5 := Lib.hid (hv4.out.below hb5)
    have ht5 := Lib.hid hu5
    have hb5' := Lib.hid (below_call hb4'.out hb5)
    have hsm1 := Lib.hid (same25 hp5.out hs5.out (by rw [hql.out]; have := hn6; omega))
    clear hu5 hb5 hc4 hb4' hp4 hv4 hs4 hr2'
    go_wp2_with fail
    refine (hsm1.out).mono ?_
    rw [sameL_self]
    rintro e w6 ⟨rfl, hb6⟩
    have hsm2 := Lib.hid (same25 (hv5.out.below hb6) (ht5.out.below hb6) (by rw [hpl.out]; have := hn6; omega))
    have hb6' := Lib.hid (below_call hb5'.out hb6)
    clear hb6
    go_wp2_with fail
    refine (hsm2.out).mono ?_
    rw [sameL_self]
    rintro e w7 ⟨rfl, hb7⟩
    have hb7' := Lib.hid (below_call hb6'.out hb7)
    clear hb7
    go_wp2_with fail
    refine (hlv.out _).mono ?_
    rintro e w8 ⟨rfl, hb8⟩
    have hb8' := Lib.hid (below_call hb7'.out hb8)
    clear hb8
    go_wp2_with fail
    go_ret
    exact ⟨rfl, hb8'.out⟩
end Go.Proofs.Ytfobdlllghpelaa
