import Derived.Test.YtpcjigdmfchbdaaDoorYl
import Derived.BigQuiet
namespace Go.Proofs.YtpcjigdmfchbdaaDoor
open Go.RowKit Go.Shelf Cl
attribute [local go_sem] Oper.semAt_some

/-- In how many steps a claim is granted, `k` steps having been taken (0: not yet). -/
def sv (n : Nat) (L : Atts) : Nat → Nat → Nat
  | 0, _ => 0
  | k + 1, c => if (stp n L (k + 1)).testBit c = true ∧ sv n L k c = 0 then k + 1 else sv n L k c
theorem sv_found {n : Nat} {L : Atts} {c m : Nat} (h1 : (stp n L (m + 1)).testBit c = true) (h2 : ∀ j, j < m + 1 → (stp n L j).testBit c = false) : ∀ k, sv n L k c = if m < k then m + 1 else 0
  | 0 => rfl
  | k + 1 => by
    unfold sv
    rw [sv_found h1 h2 k]
    rcases Nat.lt_trichotomy m k with h | h | h
    · rw [if_pos h, if_neg (fun h3 => absurd h3.2 (by omega)), if_pos (show m < k + 1 by omega)]
    · subst h
      rw [if_neg (Nat.lt_irrefl _), if_pos ⟨h1, rfl⟩, if_pos (by omega)]
    · rw [if_neg (show ¬ m < k by omega), if_neg (fun h3 => by rw [h2 (k + 1) (by omega)] at h3; exact absurd h3.1 (by decide)), if_neg (show ¬ m < k + 1 by omega)]
theorem sv_none {n : Nat} {L : Atts} {c : Nat} (h : ∀ j, (stp n L j).testBit c = false) : ∀ k, sv n L k c = 0
  | 0 => rfl
  | k + 1 => by
    unfold sv
    rw [sv_none h k, if_neg (fun h3 => by rw [h (k + 1)] at h3; exact absurd h3.1 (by decide))]
theorem sv_lt (n : Nat) (L : Atts) (c : Nat) : ∀ k, sv n L k c ≤ k
  | 0 => Nat.le_refl _
  | k + 1 => by
    unfold sv
    split
    · exact Nat.le_refl _
    · exact Nat.le_succ_of_le (sv_lt n L c k)
/-- A row by a function. -/
def fl (n : Nat) (f : Nat → Nat) : List Int := (List.range n).map fun c => ((f c : Nat) : Int)
theorem fl_len (n : Nat) (f : Nat → Nat) : (fl n f).length = n := by simp [fl]
theorem fl_at {n : Nat} (f : Nat → Nat) {c : Nat} (h : c < n) : (fl n f).getD c 0 = ((f c : Nat) : Int) := by simp [fl, List.getD_eq_getElem?_getD, h]
theorem fl_set {n : Nat} (f : Nat → Nat) (i y : Nat) : (fl n f).set i (y : Int) = fl n (fun c => if c = i then y else f c) := by
  apply List.ext_getElem
  · simp [fl]
  · intro c h1 h2
    simp only [fl, List.getElem_map, List.getElem_range, List.getElem_set]
    by_cases e : c = i
    · subst e; simp
    · rw [if_neg e, if_neg (fun h => e h.symm)]
theorem fl_congr {n : Nat} {f g : Nat → Nat} (h : ∀ c, c < n → f c = g c) : fl n f = fl n g := by
  unfold fl
  exact List.map_congr_left fun c hc => by rw [h c (List.mem_range.1 hc)]
theorem fl_zero (n : Nat) : fl n (fun _ => 0) = List.replicate n 0 := by
  apply List.ext_getElem
  · simp [fl]
  · intro i h1 h2; simp [fl]
/-- The row while the step `k + 1` is being looked at, claims below `i` done. -/
def svm (n : Nat) (L : Atts) (k i c : Nat) : Nat := if c < i then sv n L (k + 1) c else sv n L k c
theorem svm_up {n : Nat} {L : Atts} {k i : Nat} (h : (stp n L (k + 1)).testBit i = true) (h0 : sv n L k i = 0) : fl n (fun c => if c = i then k + 1 else svm n L k i c) = fl n (svm n L k (i + 1)) := fl_congr fun c _ => by
  unfold svm
  by_cases e : c = i
  · subst e; rw [if_pos rfl, if_pos (by omega)]; unfold sv; rw [if_pos ⟨h, h0⟩]
  · rw [if_neg e]
    by_cases h2 : c < i
    · rw [if_pos h2, if_pos (by omega)]
    · rw [if_neg h2, if_neg (by omega)]
theorem svm_stay {n : Nat} {L : Atts} {k i : Nat} (h : ¬ ((stp n L (k + 1)).testBit i = true ∧ sv n L k i = 0)) : fl n (svm n L k i) = fl n (svm n L k (i + 1)) := fl_congr fun c _ => by
  unfold svm
  by_cases e : c = i
  · subst e; rw [if_neg (Nat.lt_irrefl _), if_pos (by omega)]; conv => rhs; unfold sv
    rw [if_neg h]
  · by_cases h2 : c < i
    · rw [if_pos h2, if_pos (by omega)]
    · rw [if_neg h2, if_neg (by omega)]
theorem svm_first (n : Nat) (L : Atts) (k : Nat) : fl n (svm n L k 0) = fl n (sv n L k) := fl_congr fun c _ => by unfold svm; rw [if_neg (by omega)]
theorem svm_last (n : Nat) (L : Atts) (k : Nat) : fl n (svm n L k n) = fl n (sv n L (k + 1)) := fl_congr fun c h => by unfold svm; rw [if_pos h]
def GrEnd (w : World) (n : Nat) (L : Atts) (e : Ending) (w' : World) : Prop := ∃ (K : Nat) (v : Value), e = .returned (.tuple #[.int .i64 ((grd n L : Nat) : Int), v]) ∧ Hid (stp n L K = stp n L (K + 1)) ∧ Reads w' v (fl n (sv n L (K + 1))) ∧ Below w.heap.size w w'
set_option maxRecDepth 100000 in
set_option maxHeartbeats 8000000 in
theorem granted22 {w : World} {u : Value} {n : Nat} {L : Atts} (hd : DisR w u n L) (hD : OkD n L) : Calls Tryd.prog 22 #[u] w (GrEnd w n L) := by
  have hn12 := hD.nn
  have h38 := Lib.hid (fun (W : World) (k : Nat) (h : Below w.heap.size w W) => show Calls Tryd.prog 38 #[u, .int .i64 ((stp n L k : Nat) : Int)] W (NumI W (stp n L (k + 1))) from by
    have := defends38 (hd.below h) hD (stp_lt n L k)
    rwa [stp_succ] at this)
  obtain ⟨a0, c0, b0, d0, rfl, -, -⟩ := hd
  obtain ⟨W0, hW0⟩ : ∃ W0, W0 = w.alloc (.cells #[.int .i64 (n : Int), .slice a0 n c0, .slice b0 n d0] 34) := ⟨_, rfl⟩
  obtain ⟨hbA, hsz, k0, k1, k2⟩ := dis_box hW0
  have hdA := Lib.hid (show DisAt W0 w.heap.size n a0 c0 b0 d0 from ⟨k0, k1, k2⟩)
  have hszl := Lib.hid hsz
  have hbA' := Lib.hid hbA
  have hmk := fun W => make_eq W n (by omega)
  have hfew := Lib.hid (fun (k : Nat) (h : ∀ j, j < k → stp n L j ≠ stp n L (j + 1)) => stp_few hn12 h)
  have hlt := Lib.hid (fun k => lt12 hn12 (stp_lt n L k))
  have hgr := Lib.hid (fun (k : Nat) (h : stp n L k = stp n L (k + 1)) => show stp n L k = grd n L from grd_of hn12 (h.trans (stp_succ n L k).symm))
  have hst0 := Lib.hid (stp_zero n L)
  clear hbA hsz hD
  go_enter Tryd.func22, Tryd.ntmps22
  go_upto_region 1 with fail
  rw [← hW0]
  clear hW0
  go_cut [4, 5] from 9 (fun sv' pv wx => ∃ w1 : World, w1 = wx ∧ sv' = .int .i64 0 ∧ pv = .slice (some ⟨W0.heap.size, 0, none⟩) n n ∧ Hid (Row w1 W0.heap.size W0.heap.size n (List.replicate n 0)) ∧ Hid (Below W0.heap.size W0 w1))
  case first =>
    go_region
    all_goals
      go_wp2_with fail
      go_meet
      exact ⟨_, rfl, rfl, rfl, Lib.hid (row_made (by show (W0.alloc _).heap[_]? = _; exact heap_alloc_new W0 _) (Nat.le_refl _) (by omega)), Lib.hid ((below_alloc1 W0 _).drew)⟩
  case rest =>
  obtain ⟨w1, rfl, rfl, rfl, hr1, hb1⟩ := hcut
  clear hmk k0 k1 k2
  have hrow0 := Lib.hid (show fl n (sv n L 0) = List.replicate n 0 from by rw [← fl_zero]; exact fl_congr fun _ _ => rfl)
  generalize W0.heap.size = B1 at hr1 hb1 hszl ⊢
  go_wp2_with fail
  go_loopw [4, 6] (fun sv' kv wr => ∃ k : Nat, k ≤ n ∧ kv = .int .i64 ((k : Int) + 1) ∧ sv' = .int .i64 ((stp n L k : Nat) : Int) ∧ Hid (Row wr B1 B1 n (fl n (sv n L k))) ∧ Hid (∀ j, j < k → stp n L j ≠ stp n L (j + 1)) ∧ Hid (Below B1 W0 wr)) (fun _ kv _ => n + 2 - (intOf kv).toNat)
  case atStart => exact ⟨0, Nat.zero_le _, rfl, by rw [hst0.out]; rfl, by rw [hrow0.out]; exact hr1, Lib.hid (fun j hj => absurd hj (Nat.not_lt_zero j)), hb1⟩
  case round =>
    obtain ⟨k, hk, rfl, rfl, hr, hno, hb⟩ := hrel
    obtain ⟨k0, k1, k2⟩ := hdA.out.keep hb.out hszl.out
    have hbw := Lib.hid (show Below w.heap.size w wr from hbA'.out.trans (hb.out.mono (Nat.le_of_lt hszl.out)))
    go_wp2_with (go_at_call 38; refine (h38.out _ k hbw.out).mono ?_; rintro e w2 ⟨rfl, hb2⟩; have hb2' := Lib.hid (hb.out.trans (hb2.mono (Nat.le_of_lt hr.out.lt.2))); have hr2 := Lib.hid (hr.out.below hb2); clear hb2)
    have hX4 := hlt.out (k + 1)
    have hS4 := hlt.out k
    clear k0 k1 k2
    go_loopw [8] (fun iv wr => ∃ i : Nat, i ≤ n ∧ iv = .int .i64 (i : Int) ∧ Hid (Row wr B1 B1 n (fl n (svm n L k i))) ∧ Hid (Below B1 W0 wr)) (fun iv _ => n - (intOf iv).toNat)
    case atStart => exact ⟨0, Nat.zero_le _, rfl, by rw [svm_first]; exact hr2, hb2'⟩
    case round =>
      obtain ⟨i, hi, rfl, hri, hbi⟩ := hrel
      obtain ⟨k0, k1, k2⟩ := hdA.out.keep hbi.out hszl.out
      by_cases hin : i < n
      · have hiI : (i : Int) < n := by omega
        have ci := hri.out.cell hin
        have fi := hri.out.frozen i
        rw [fl_at _ hin, show svm n L k i i = sv n L k i from by unfold svm; rw [if_neg (Nat.lt_irrefl _)]] at ci
        obtain ⟨r, r2, rb, rt⟩ := and_one64 (stp n L (k + 1)) i hX4
        have hi64 : (i : Int) < 64 := by omega
        have hsv := Lib.hid (sv_lt n L i k)
        have hup := Lib.hid (svm_up (n := n) (L := L) (k := k) (i := i))
        have hstay := Lib.hid (svm_stay (n := n) (L := L) (k := k) (i := i))
        have rt' := Lib.hid rt
        clear rt
        obtain ⟨s, hs⟩ : ∃ s, s = sv n L k i := ⟨_, rfl⟩
        rw [← hs] at ci
        have hs' := Lib.hid hs
        clear hs k1 k2
        rcases (show r = 0 ∨ r = 1 by omega) with rfl | rfl
        · have hf := Lib.hid (hstay.out (fun h => by have := rt'.out.2 h.1; omega))
          go_wp2
          go_roundw
          case rel => exact ⟨i + 1, by omega, by go_num, by rw [← hf.out]; exact hri, hbi⟩
          case measure => simp [intOf]; omega
        · by_cases hs0 : s = 0
          · have hf := Lib.hid (hup.out (rt'.out.1 rfl) (by rw [← hs'.out]; exact hs0))
            subst hs0
            have hri2 := Lib.hid (hri.out.set i (((k + 1 : Nat) : Int)))
            have hbi2 := Lib.hid (below_set hbi.out (k := i) (u := .int .i64 ((k : Int) + 1)) hri.out.lt.1)
            go_wp2
            go_roundw
            case rel => exact ⟨i + 1, by omega, by go_num, by rw [← hf.out, ← fl_set]; exact hri2, hbi2⟩
            case measure => simp [intOf]; omega
          · have hf := Lib.hid (hstay.out (fun h => hs0 (hs'.out.trans h.2)))
            have hsI : ((s : Int) == 0) = false := beq_eq_false_iff_ne.2 (by omega)
            have hsN : (s == 0) = false := beq_eq_false_iff_ne.2 hs0
            go_wp2
            go_roundw
            case rel => exact ⟨i + 1, by omega, by go_num, by rw [← hf.out]; exact hri, hbi⟩
            case measure => simp [intOf]; omega
      · obtain rfl : i = n := by omega
        rw [svm_last] at hri
        have hbw3 := Lib.hid (show Below w.heap.size w wr from hbA'.out.trans (hbi.out.mono (Nat.le_of_lt hszl.out)))
        by_cases he : stp i L k = stp i L (k + 1)
        · have hg := Lib.hid (hgr.out k he)
          have he' := Lib.hid he
          have t1 : (((stp i L (k + 1) : Nat) : Int) == ((stp i L k : Nat) : Int)) = true := by rw [he]; simp
          rw [he] at hg
          have hrr := Lib.hid hri.out.reads
          go_wp2
          refine bodyPost_ret (results_tmp2 rfl _ _ _) rfl ?_
          exact ⟨k, _, by rw [← hg.out, ← he'.out]; rfl, he', hrr.out, hbw3.out⟩
        · have hno2 := Lib.hid (show ∀ j, j < k + 1 → stp i L j ≠ stp i L (j + 1) from fun j hj => by
            rcases Nat.lt_succ_iff_lt_or_eq.1 hj with h | h
            · exact hno.out j h
            · rw [h]; exact he)
          have hk1 := hfew.out (k + 1) hno2.out
          have t1 : (((stp i L (k + 1) : Nat) : Int) == ((stp i L k : Nat) : Int)) = false := beq_eq_false_iff_ne.2 (by omega)
          go_wp2
          go_roundw
          case rel => exact ⟨k + 1, hk1, by go_num, rfl, hri, hno2, hbi⟩
          case measure => simp [intOf]; omega
/-- What Steps answers, held against the reference's row. -/
theorem steps_ref {n : Nat} {L : Atts} (hn : n ≤ 12) (hv : vldB (n : Int) (toI L) = true) {K : Nat} (hK : stp n L K = stp n L (K + 1)) {c : Int} {a r : Int} (h : StepsIs (n : Int) (toI L) c a r) :
    (¬ (0 ≤ c ∧ c < n) → a = 0 ∧ r = 1) ∧ ((hc : 0 ≤ c ∧ c < n) → (sv n L (K + 1) c.toNat = 0 → a = 0 ∧ r = 5) ∧ (sv n L (K + 1) c.toNat ≠ 0 → a = ((sv n L (K + 1) c.toNat : Nat) : Int) ∧ r = 0)) := by
  unfold StepsIs at h
  refine ⟨fun hc => ?_, fun hc => ?_⟩
  · rw [if_neg (fun h2 => hc h2.2)] at h
    exact h
  · rw [if_pos ⟨hv, hc.1, hc.2⟩, Int.toNat_natCast, natP_toI] at h
    have hg : stp n L K = grd n L := grd_of hn (hK.trans (stp_succ n L K).symm)
    by_cases hb : (grd n L).testBit c.toNat = true
    · rw [if_pos hb] at h
      obtain ⟨rfl, m, rfl, h1, h2⟩ := h
      have hm0 : m ≠ 0 := fun e => by subst e; rw [stp_zero] at h1; simp at h1
      obtain ⟨q, rfl⟩ : ∃ q, m = q + 1 := ⟨m - 1, by omega⟩
      have hsv := sv_found (n := n) (L := L) (c := c.toNat) h1 h2 (K + 1)
      have hqK : q < K + 1 := by
        rcases Nat.lt_or_ge q (K + 1) with h3 | h3
        · exact h3
        · have := h2 K (by omega)
          rw [hg, hb] at this; cases this
      rw [if_pos hqK] at hsv
      exact ⟨fun h0 => by omega, fun _ => ⟨by rw [hsv], rfl⟩⟩
    · rw [if_neg hb] at h
      have hno : ∀ j, (stp n L j).testBit c.toNat = false := fun j => by
        cases e : (stp n L j).testBit c.toNat
        · rfl
        · refine absurd ?_ hb
          rw [← hg]
          rcases Nat.le_total j K with h3 | h3
          · exact stp_mono hn h3 _ e
          · rw [← stp_stay (hK.trans (stp_succ n L K).symm) j h3]; exact e
      have hsv := sv_none hno (K + 1)
      exact ⟨fun _ => h, fun h0 => absurd hsv h0⟩
set_option maxRecDepth 100000 in
set_option maxHeartbeats 8000000 in
theorem walk3 {w : World} (hT : Tab w) {n c : Int} {v : Value} {ps : List (Int × Int)} (hp : InPs w v ps) :
    Calls Tryd.prog 3 #[.int .i64 n, v, .int .i64 c] w fun e w' => e = .returned (.bool true) ∧ Below w.heap.size w w' := by
  have hT' := Lib.hid hT
  have hfew := Lib.hid (few16 hp)
  have hlen : (ps.take 41).length ≤ 1000000 := by rw [List.length_take]; omega
  have hli := Lib.hid (fun (W : World) (h : Below w.heap.size w W) => lives20 (hT'.out.call h))
  clear hp hT
  generalize ps.take 41 = qs at hfew hlen
  have hv19 := Lib.hid (fun (W : World) (v : Value) (h : OwnP W w.heap.size v qs) => valid19 (n := n) (OwnP.reads h) hlen)
  cases hv : vldB n qs
  · rw [hv] at hv19
    have h17 := Lib.hid (fun (W : World) (v : Value) (h : Below w.heap.size w W) (hp : OwnP W w.heap.size v qs) => show Calls Tryd.prog 17 #[.int .i64 n, v] W (MadeE W [] 1) from by
      have := granted17 (hT'.out.call h) (n := n) (OwnP.reads hp) hlen
      unfold resL resE at this
      rwa [hv] at this)
    have h18 := Lib.hid (fun (W : World) (v : Value) (h : Below w.heap.size w W) (hp : OwnP W w.heap.size v qs) => show Calls Tryd.prog 18 #[.int .i64 n, v, .int .i64 c] W (fun e w' => e = .returned (.tuple #[.int .i64 0, .int .i64 1]) ∧ Below W.heap.size W w') from
      (steps18 (hT'.out.call h) (n := n) (c := c) (OwnP.reads hp) hlen).mono fun e w' ⟨k, r, he, hs, hb⟩ => by
        have h := hs.out
        unfold StepsIs at h
        rw [if_neg (fun h2 => by rw [hv] at h2; cases h2.1)] at h
        obtain ⟨rfl, rfl⟩ := h
        exact ⟨he, hb⟩)
    clear hv hlen
    go_enter Tryd.func3, Tryd.ntmps3
    go_wp2_with (first
      | (go_at_call 16; refine (hfew.out).mono ?_; rintro e w1 ⟨v1, rfl, ho, hb⟩; have ho1 := Lib.hid ho; have hb1 := Lib.hid hb; clear ho hb hfew)
      | (go_at_call 17; refine (h17.out _ _ hb1.out ho1.out).mono ?_; rintro e w2 ⟨v2, rfl, hz, hb⟩; obtain ⟨a2, c2, rfl, -⟩ := id hz.shape; have hb2 := Lib.hid (below_call hb1.out hb); have ho2 := Lib.hid (own_below ho1.out hb); clear hz hb h17)
      | (go_at_call 18; refine (h18.out _ _ hb2.out ho2.out).mono ?_; rintro e w3 ⟨rfl, hb⟩; have hb3 := Lib.hid (below_call hb2.out hb); have ho3 := Lib.hid (own_below ho2.out hb); clear hb h18)
      | (go_at_call 19; refine (hv19.out _ _ ho3.out).mono ?_; rintro e w4 ⟨rfl, hb⟩; have hb4 := Lib.hid (below_call hb3.out hb); clear hb hv19)
      | (go_at_call 20; refine (hli.out _ hb4.out).mono ?_; rintro e w5 ⟨rfl, hb⟩; have hb5 := Lib.hid (below_call hb4.out hb); clear hb hli))
    go_ret
    exact ⟨rfl, hb5.out⟩
  · obtain ⟨sz, rfl, hvI⟩ := vld_nat hv
    have hqe := toI_natP hv
    have hs12 : sz ≤ 12 := by have := (vld_ok hv).2.2.1; omega
    have hD := (vld_ok hvI).1
    rw [Int.toNat_natCast, natP_toI] at hD
    rw [hv] at hv19
    rw [← hqe] at hfew hv19 hlen
    generalize natP qs = L at hvI hD hfew hv19 hlen
    have h17 := Lib.hid (fun (W : World) (v : Value) (h : Below w.heap.size w W) (hp : OwnP W w.heap.size v (toI L)) => grantedM (hT'.out.call h) hvI hp)
    have h18 := Lib.hid (fun (W : World) (v : Value) (h : Below w.heap.size w W) (hp : OwnP W w.heap.size v (toI L)) => steps18 (hT'.out.call h) (n := (sz : Int)) (c := c) (OwnP.reads hp) hlen)
    have h21 := Lib.hid (fun (W : World) (v : Value) (hp : OwnP W w.heap.size v (toI L)) => of21 (OwnP.reads hp) hvI)
    have h22 := Lib.hid (fun (W : World) (u : Value) (h : DisR W u sz L) => granted22 h hD)
    have h24 := Lib.hid (fun (W : World) => refList24 (w := W) (lt12 hs12 (show grd sz L < 2 ^ sz from by rw [grd_eq]; exact stp_lt sz L _)))
    have h23 := Lib.hid (fun (W : World) (u v : Value) (hu : Reads W u (natI (bl (grd sz L)))) (hv : Reads W v (natI (bl (grd sz L)))) => show Calls Tryd.prog 23 #[u, v] W (BoolEnd W true) from by
      have := same23 hu hv (natI_le _)
      rwa [sameL_self] at this)
    have hsr := Lib.hid (fun (K : Nat) (hK : stp sz L K = stp sz L (K + 1)) (a r : Int) (h : StepsIs (sz : Int) (toI L) c a r) => steps_ref hs12 hvI hK h)
    clear hv hvI hD hqe hlen hT'
    go_enter Tryd.func3, Tryd.ntmps3
    go_upto_region 9 with (first
      | (go_at_call 16; refine (hfew.out).mono ?_; rintro e w1 ⟨v1, rfl, ho, hb⟩; have ho1 := Lib.hid ho; have hb1 := Lib.hid hb; clear ho hb hfew)
      | (go_at_call 17; refine (h17.out _ _ hb1.out ho1.out).mono ?_; rintro e w2 ⟨v2, rfl, hz, hb⟩; have hI2 := Lib.hid hz.shape; have hb2 := Lib.hid (below_call hb1.out hb); have ho2 := Lib.hid (own_below ho1.out hb); clear hz hb h17)
      | (go_at_call 18; refine (h18.out _ _ hb2.out ho2.out).mono ?_; rintro e w3 ⟨sa, sr, rfl, hst, hb⟩; have hb3 := Lib.hid (below_call hb2.out hb); have ho3 := Lib.hid (own_below ho2.out hb); have hI3 := Lib.hid (hI2.out.below hb); clear hb h18)
      | (go_at_call 19; refine (hv19.out _ _ ho3.out).mono ?_; rintro e w4 ⟨rfl, hb⟩; have hb4 := Lib.hid (below_call hb3.out hb); have ho4 := Lib.hid (own_below ho3.out hb); have hI4 := Lib.hid (hI3.out.below hb); clear hb hv19)
      | (go_at_call 21; refine (h21.out _ _ ho4.out).mono ?_; rintro e w5 ⟨u5, rfl, hd, hb⟩; have hd5 := Lib.hid hd; have hb5 := Lib.hid (below_call hb4.out hb); have hI5 := Lib.hid (hI4.out.below hb); clear hb hd h21)
      | (go_at_call 22; refine (h22.out _ _ hd5.out).mono ?_; rintro e w6 ⟨K, v6, rfl, hK, hr, hb⟩; obtain ⟨a6, c6, rfl, -⟩ := id hr; rw [fl_len] at hr ⊢; have hr6 := Lib.hid hr; have hb6 := Lib.hid (below_call hb5.out hb); have hI6 := Lib.hid (hI5.out.below hb); clear hb hr h22)
      | (go_at_call 24; refine (h24.out _).mono ?_; rintro e w7 ⟨v7, rfl, ho, hb⟩; have hJ7 := Lib.hid ho.shape; have hb7 := Lib.hid (below_call hb6.out hb); have hI7 := Lib.hid (hI6.out.below hb); have hr7 := Lib.hid (hr6.out.below hb); clear hb ho h24)
      | (go_at_call 23; refine (h23.out _ _ _ hI7.out hJ7.out).mono ?_; rintro e w8 ⟨rfl, hb⟩; have hb8 := Lib.hid (below_call hb7.out hb); have hr8 := Lib.hid (hr7.out.below hb); clear hb h23)
      | (go_at_call 20; refine (hli.out _ hb8.out).mono ?_; rintro e w9 ⟨rfl, hb⟩; have hb9 := Lib.hid (below_call hb8.out hb); have hr9 := Lib.hid (hr8.out.below hb); clear hb hli))
    obtain ⟨hs1, hs2⟩ := hsr.out K hK.out sa sr hst.out
    clear hsr hst
    by_cases hc : 0 ≤ c ∧ c < sz
    · obtain ⟨c, rfl⟩ : ∃ m : Nat, c = (m : Int) := ⟨c.toNat, by omega⟩
      have hcs : c < sz := by omega
      obtain ⟨g, o, rfl, hg, hcl⟩ := hr9.out.at (fl_len _ _) hcs
      have cx := hcl c hcs
      rw [fl_at _ hcs] at cx
      obtain ⟨q1, q2⟩ := hs2 hc
      rw [Int.toNat_natCast] at q1 q2
      have hsle := sv_lt sz L c (K + 1)
      generalize sv sz L (K + 1) c = s at cx q1 q2 hsle
      have hci : (c : Int) < sz := by omega
      have hc0 : ¬ (c : Int) < 0 := by omega
      have hc1 : ¬ (c : Int) ≥ sz := by omega
      clear hcl hs1 hs2 hc hsle
      by_cases h0 : s = 0
      · obtain ⟨rfl, rfl⟩ := q1 h0
        subst h0
        clear q1 q2
        go_wp2
        go_ret
        exact ⟨rfl, hb9.out⟩
      · obtain ⟨rfl, rfl⟩ := q2 h0
        have t4 : ((s : Int) == 0) = false := beq_eq_false_iff_ne.2 (by omega)
        have t5 : (s == 0) = false := beq_eq_false_iff_ne.2 h0
        clear q1 q2
        go_wp2
        go_ret
        exact ⟨rfl, hb9.out⟩
    · obtain ⟨rfl, rfl⟩ := hs1 hc
      clear hs1 hs2
      rcases (show c < 0 ∨ (¬ c < 0 ∧ c ≥ sz) by omega) with h1 | ⟨h1, h2⟩
      all_goals
        go_wp2
        go_ret
        exact ⟨rfl, hb9.out⟩
end Go.Proofs.YtpcjigdmfchbdaaDoor
