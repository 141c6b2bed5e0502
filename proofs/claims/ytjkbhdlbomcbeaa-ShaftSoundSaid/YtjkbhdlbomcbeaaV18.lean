import Derived.Test.YtjkbhdlbomcbeaaV17
import Derived.Test.YtjkbhdlbomcbeaaV5
namespace Go.Proofs.Ytjkbhdlbomcbeaa
open Go.RowKit Go.Shelf Shf

/-- The refuter: how many leaves it may still find. -/
structure RB (w : World) (rb : Nat) (L : Int) : Prop where
  lt : rb < w.heap.size
  c0 : w.cell? ⟨rb, 0, none⟩ = some (.int .i64 L)
  f0 : w.frozen? ⟨rb, 0, none⟩ = false
  c1 : w.cell? ⟨rb, 1, none⟩ = none
theorem RB.below {w w' : World} {rb : Nat} {L : Int} (h : RB w rb L) (hb : Below w.heap.size w w') : RB w' rb L :=
  ⟨Nat.lt_of_lt_of_le h.lt hb.size, (hb.cell (p := ⟨rb, 0, none⟩) h.lt).trans h.c0, (hb.frozen (p := ⟨rb, 0, none⟩) h.lt).trans h.f0, (hb.cell (p := ⟨rb, 1, none⟩) h.lt).trans h.c1⟩
theorem RB.set {w : World} {rb : Nat} {L : Int} (h : RB w rb L) (L' : Int) : RB (w.setCell ⟨rb, 0, none⟩ (.int .i64 L')) rb L' :=
  ⟨by rw [World.size_setCell]; exact h.lt, World.cell?_setCell_same' _ _ _ (by rw [h.c0]; rfl), by rw [World.frozen?_setCell]; exact h.f0, by rw [World.cell?_setCell_other _ _ _ _ (by intro e; cases congrArg Addr.off e)]; exact h.c1⟩
/-- A shaft that is read stays so where only the refuter changes. -/
theorem shv_kq {w w' : World} {rb : Nat} {v : Value} {P : Int} {js : List J} {os : List (Int × Int)} (h : ShV w v P js os) (hr : w.cell? ⟨rb, 1, none⟩ = none) (hk : Kq rb w w') : ShV w' v P js os := by
  obtain ⟨jv, ov, rfl, ⟨ja, jc, rfl, hjc, hj⟩, ⟨oa, oc, rfl, hoc, ho⟩⟩ := h
  refine ⟨_, _, rfl, ⟨ja, jc, rfl, hjc, fun hne => ?_⟩, ⟨oa, oc, rfl, hoc, fun hne => ?_⟩⟩
  · obtain ⟨g, rfl, hg, hcl⟩ := hj hne
    have hne' : g ≠ rb := fun e => by
      match js, hne with
      | a :: _, _ =>
        have := hcl 1 (.int .i64 a.t) (by simp [flat, encJ])
        rw [e, hr] at this; cases this
    exact ⟨g, rfl, Nat.lt_of_lt_of_le hg hk.size, fun j u hu => (hk.cell (k := j) hg hne').trans (hcl j u hu)⟩
  · obtain ⟨g, rfl, hg, hcl⟩ := ho hne
    have hne' : g ≠ rb := fun e => by
      match os, hne with
      | a :: _, _ =>
        have := hcl 1 (.int .i64 a.2) (by simp [flat, encO])
        rw [e, hr] at this; cases this
    exact ⟨g, rfl, Nat.lt_of_lt_of_le hg hk.size, fun j u hu => (hk.cell (k := j) hg hne').trans (hcl j u hu)⟩
/-- How far the number of leaves may fall. -/
def dp (s : Sh) : Int := sm s.n fun i => lat (s.job i) - (s.job i).f
theorem dp_nonneg {s : Sh} (h : Fit s) : 0 ≤ dp s := sm_nonneg _ fun i hi => by have := h i hi; omega
theorem dp_till {s : Sh} {i : Nat} (hi : i < s.n) {x : Int} (h1 : x < lat (s.job i)) : dp (till s i x) ≤ dp s - 1 := by
  unfold dp
  rw [till_n]
  have h := sm_up (f := fun k => lat ((till s i x).job k) - ((till s i x).job k).f) (g := fun k => lat (s.job k) - (s.job k).f) (k := i) (d := lat (s.job i) - x) s.n hi (fun k _ hne => by rw [till_job hi, if_neg hne])
    (by show lat (s.job i) - (s.job i).f = lat ((till s i x).job i) - ((till s i x).job i).f + _; rw [till_job hi, if_pos rfl, lat_till]; show _ = x - (s.job i).f + _; omega)
  omega
theorem dp_later {s : Sh} {i : Nat} (hi : i < s.n) {x : Int} (h0 : (s.job i).f ≤ x) : dp (later s i x) ≤ dp s := by
  unfold dp
  rw [later_n]
  refine sm_le _ fun k hk => ?_
  rw [later_job hi]
  split
  · rename_i e; subst e; rw [lat_after]; show lat (s.job k) - (x + 1) ≤ _; omega
  · exact Int.le_refl _
theorem dp_le {s : Sh} (hs : Loose s) : dp s ≤ 144 := by
  have h := sm_le (f := fun i => lat (s.job i) - (s.job i).f) (g := fun _ => 24) s.n (fun i hi => by have := hs.jobs i hi; unfold lat; omega)
  have h2 : ∀ n : Nat, sm n (fun _ => (24 : Int)) = 24 * n := fun n => by
    induction n with
    | zero => rfl
    | succ n ih => simp only [sm, ih]; omega
  have := hs.num
  unfold dp
  rw [h2] at h
  omega
def Lo (s : Sh) (L L' : Int) : Prop := (L ≤ 0 → L - 1 ≤ L') ∧ (1 ≤ L → -(dp s) ≤ L')
/-- What the search ends in. -/
def RfEnd (s : Sh) (rb : Nat) (L : Int) (w : World) (e : Ending) (w' : World) : Prop :=
  ∃ (o : Option Tr) (L' : Int), e = .returned (valO o) ∧ Kq rb w w' ∧ RB w' rb L' ∧ L - wt s ≤ L' ∧ L' ≤ L ∧ Lo s L L' ∧ (∀ t, o = some t → rf t s = true ∧ WfT s.n s.os.length t ∧ (t.leaves : Int) ≤ L - L') ∧ ((wt s : Int) ≤ L → o ≠ none)
def H77 : Prop := ∀ (W : World) (v : Value) (s : Sh), Loose s → Fit s → ShV W v s.P s.js (osI s) → Calls Try.prog 77 #[v] W (SpansEnd W s)
theorem nila121 (v : Value) (w : World) : (nilAhead 259 121 v "bolster/shaft.refutes").run Try.prog w = .ok (some false) w := by kernel_rfl
theorem nila124 (v : Value) (w : World) : (nilAhead 259 124 v "bolster/shaft.refutes").run Try.prog w = .ok (some false) w := by kernel_rfl
theorem nila126 (v : Value) (w : World) : (nilAhead 259 126 v "bolster/shaft.refutes").run Try.prog w = .ok (some false) w := by kernel_rfl
theorem nilaT (t : Tr) (w : World) : (nilAhead 259 (tyT t) t.arg "bolster/shaft.refutes").run Try.prog w = .ok (some false) w := by
  cases t with
  | split j a l r => exact nila121 _ w
  | energy a b => exact nila124 _ w
  | late k => exact nila126 _ w
/-- What is told of a tree to a walk. -/
theorem tree_pack (t : Tr) : ∃ ty ar fn, valO (some t) = .iface ty ar ∧ (∀ w, (method 259 ty ar "bolster/shaft.refutes").run Try.prog w = .ok (fn, ar) w) ∧ (∀ xs W, (callFunc fn xs).run Try.prog W = .ok (.enter fn xs) W) ∧ (∀ w, (nilAhead 259 ty ar "bolster/shaft.refutes").run Try.prog w = .ok (some false) w) ∧
    ∀ s : Sh, Loose s → WfT s.n s.os.length t → ∀ w v, ShV w v s.P s.js (osI s) → Calls Try.prog fn #[ar, v] w (RefEnd (rf t s) w) :=
  ⟨tyT t, t.arg, fnT t, val_is t, methT t, callT t, nilaT t, fun _ hs hw w v hv => refT t hs hw w v hv⟩
theorem iface_of (t : Tr) : ∃ ty ar, t.val = .iface ty ar ∧ (∀ w, (method 259 ty ar "bolster/shaft.refutes").run Try.prog w = .ok (fnT t, ar) w) ∧ ar = t.arg := ⟨tyT t, t.arg, val_is t, methT t, rfl⟩
set_option maxHeartbeats 8000000 in
set_option maxRecDepth 100000 in
theorem refute50 (h77 : H77) : ∀ (k : Nat) (w : World) (v : Value) (s : Sh) (rb : Nat) (L : Int), wt s ≤ k → Loose s → Fit s → (¬ ∃ S, Sched s S) → ShV w v s.P s.js (osI s) → RB w rb L → (wt s : Int) - 1000000000 ≤ L → L ≤ 1000000 →
    Calls Try.prog 50 #[.pointer (some ⟨rb, 0, none⟩), v] w (RfEnd s rb L w) := by
  intro k
  induction k with
  | zero => intro w v s rb L hk _ hf; have := wt_pos hf; omega
  | succ k ih =>
    intro w v s rb L hk hs hft hno hv hR hL0 hL1
    have ih' := Lib.hid ih
    have h77' := Lib.hid h77
    have hlf := Lib.hid (fun (W : World) (hb : Below w.heap.size w W) => leaf67 (w := W) hs (hv.below hb))
    have hsh := Lib.hid (fun (W : World) (hk : Kq rb w W) => shv_kq hv hR.c1 hk)
    have hs' := Lib.hid hs
    have hft' := Lib.hid hft
    have hno' := Lib.hid hno
    have hk' := Lib.hid hk
    have hR' := Lib.hid hR
    have hL0' := Lib.hid hL0
    have hwp := Lib.hid (wt_pos hft)
    have hdp := Lib.hid (dp_nonneg hft)
    obtain ⟨jv, ov, rfl, rj, ro⟩ := hv
    obtain ⟨ja, jc, rfl, hjc, -⟩ := rj.at
    obtain ⟨oa, oc, rfl, hoc, -⟩ := ro.at
    obtain ⟨n, hn⟩ : ∃ n, n = s.js.length := ⟨_, rfl⟩
    obtain ⟨m, hm⟩ : ∃ m, m = (osI s).length := ⟨_, rfl⟩
    rw [← hn, ← hm] at hlf hsh
    rw [← hn, ← hm]
    have hb0 := Lib.hid (below_alloc1 w (.cells #[.int .i64 s.P, .slice ja n jc, .slice oa m oc] 81))
    have ht0 := Lib.hid (Three.new w (.int .i64 s.P) (.slice ja n jc) (.slice oa m oc) 81)
    have hsz := Lib.hid (show (w.alloc (.cells #[.int .i64 s.P, .slice ja n jc, .slice oa m oc] 81)).heap.size = w.heap.size + 1 by simp)
    have hn' := Lib.hid hn
    have hlt := Lib.hid hR.lt
    clear ih h77 hs hft hno hk rj ro hn hm hjc hoc hL0
    go_enter Try.func50, Try.ntmps50
    go_upto_region 1 with fail
    obtain ⟨W0, hW0⟩ : ∃ W0, W0 = w.alloc (.cells #[.int .i64 s.P, .slice ja n jc, .slice oa m oc] 81) := ⟨_, rfl⟩
    rw [← hW0] at hb0 ht0 hsz ⊢
    clear hW0
    have hl0 := Lib.hid (hlf.out _ hb0.out)
    obtain ⟨⟨z0, z1, z2⟩, -⟩ := ht0.out
    go_upto_region 2 with (go_at_call 67; refine (hl0.out).mono ?_; clear hl0; rintro e W ⟨o, rfl, hlo, hb1⟩; have hb1' := Lib.hid hb1; have hlo' := Lib.hid hlo; clear hb1 hlo)
    have hbw := Lib.hid (below_call hb0.out hb1'.out)
    have hRW := Lib.hid (hR'.out.below hbw.out)
    have hTW := Lib.hid (ht0.out.keep hb1'.out (by have := hsz.out; omega))
    clear z0 z1 z2 hlf
    rcases hlo'.out with ⟨t, rfl, hrf, hwf, hle⟩ | ⟨rfl, hn1, hn2⟩
    · have hfin := Lib.hid (And.intro hrf (And.intro hwf hle))
      obtain ⟨ty, ar, hval, -, -⟩ := iface_of t
      have hval' := Lib.hid hval
      have hvo : valO (some t) = .iface ty ar := hval
      rw [hvo]
      have hvo' := Lib.hid hvo
      clear hrf hwf hle hval hvo hlo'
      have c0 := hRW.out.c0
      have f0 := hRW.out.f0
      have s1 : IntKind.i64.wrap (L - 1) = L - 1 := IntWalk.i64_in _ (by have := hL0'.out; omega)
      go_wp2_with fail
      go_ret
      refine ⟨some t, L - 1, by rw [hvo'.out]; rfl, (Kq.of_below hbw.out).trans (Kq.set rb 0 W _), hRW.out.set _, by have := hwp.out; omega, by omega, ⟨fun _ => Int.le_refl _, fun _ => by have := hdp.out; omega⟩, fun u hu => ?_, fun _ => by simp⟩
      cases hu
      exact ⟨hfin.out.1, hfin.out.2.1, by have := hfin.out.2.2; omega⟩
    · have hl2 := Lib.hid (And.intro hn1 hn2)
      rw [show valO none = .nilIface from rfl]
      clear hn1 hn2 hlo'
      have c0 := hRW.out.c0
      have f0 := hRW.out.f0
      by_cases hLp : L ≤ 0
      · have d1 : decide (L ≤ 0) = true := by simpa using hLp
        go_wp2_with fail
        go_ret
        exact ⟨none, L, rfl, Kq.of_below hbw.out, hRW.out, by have := hwp.out; omega, Int.le_refl _, ⟨fun _ => by omega, fun _ => by omega⟩, fun _ h => (by cases h), fun h => by have := hwp.out; omega⟩
      · have d1 : decide (L ≤ 0) = false := by simpa using hLp
        go_upto_region 7 with fail
        have h68 := Lib.hid (cut68 hs'.out hft'.out (hsh.out W (Kq.of_below hbw.out)) (fun W' hb' => h77'.out W' _ s hs'.out hft'.out (hsh.out W' (Kq.of_below (below_call hbw.out hb')))))
        obtain ⟨⟨z0, z1, z2⟩, -⟩ := hTW.out
        clear d1 c0 f0
        go_upto_region 8 with (go_at_call 68; refine (h68.out).mono ?_; clear h68; rintro e W3 ⟨J, x, ok, rfl, hcu, hb3⟩; have hb3' := Lib.hid hb3; have hcu' := Lib.hid hcu; clear hb3 hcu)
        have hbw3 := Lib.hid (below_call hbw.out hb3'.out)
        have hTW3 := Lib.hid (hTW.out.keep hb3'.out (by have := hb1'.out.size; have := hsz.out; omega))
        clear z0 z1 z2
        have hex : ∃ k, k < s.n ∧ (s.job k).f < lat (s.job k) := by
          by_cases q : ∃ k, k < s.n ∧ (s.job k).f < lat (s.job k)
          · exact q
          · refine absurd (fixed_sched hs'.out (fun i hi => ?_) hl2.out.1 hl2.out.2) hno'.out
            have := hft'.out i hi
            by_cases q2 : (s.job i).f < lat (s.job i)
            · exact absurd ⟨i, hi, q2⟩ q
            · omega
        have h69 := Lib.hid (halve69 (w := W3) hs'.out (hsh.out W3 (Kq.of_below hbw3.out)) hex)
        have hsz3 := Lib.hid (show w.heap.size < W3.heap.size by have := hb3'.out.size; have := hb1'.out.size; have := hsz.out; omega)
        clear hex hb3' hTW hl2 hb1'
        obtain ⟨⟨z0, z1, z2⟩, -⟩ := hTW3.out
        cases ok with
        | false =>
          go_upto_region 10 with (go_at_call 69; refine (h69.out).mono ?_; clear h69 z0 z1 z2; rintro e W4 ⟨J, x, rfl, hc4, hb4⟩; have hcut4 := Lib.hid hc4; have hb4 := Lib.hid hb4; clear hc4)
          have hbw4 := Lib.hid (below_call hbw3.out hb4.out)
          have hR4 := Lib.hid (hR'.out.below hbw4.out)
          have hbx4 := Lib.hid (fun (V : World) (hk : Kq rb W4 V) => (show V.cell? ⟨w.heap.size, 0, none⟩ = some (.int .i64 s.P) ∧ V.cell? ⟨w.heap.size, 1, none⟩ = some (.slice ja n jc) ∧ V.cell? ⟨w.heap.size, 2, none⟩ = some (.slice oa m oc) from by
            have hT := hTW3.out.keep hb4.out hsz3.out
            have h1 : w.heap.size < W4.heap.size := Nat.lt_of_lt_of_le hsz3.out hb4.out.size
            have h2 : w.heap.size ≠ rb := by have := hlt.out; omega
            exact ⟨(hk.cell (k := 0) h1 h2).trans hT.1.1, (hk.cell (k := 1) h1 h2).trans hT.1.2.1, (hk.cell (k := 2) h1 h2).trans hT.1.2.2⟩))
          have hsh4 := Lib.hid (fun (V : World) (hk : Kq rb W4 V) => hsh.out V ((Kq.of_below hbw4.out).trans hk))
          have hjb := Lib.hid (hs'.out.jobs J hcut4.out.1)
          have hxb : 0 ≤ x ∧ x ≤ 24 := by have := hjb.out; have := hcut4.out; unfold Cutting lat at this; omega
          have hJlt := Lib.hid (show J < s.js.length from hcut4.out.1)
          have hlb := Lib.hid (show -1000 ≤ (s.js.getD J J0).l ∧ (s.js.getD J J0).l ≤ 1000 by have := hjb.out; unfold Sh.job at this; omega)
          have h61 := Lib.hid (until61 (hsh4.out W4 (Kq.refl _ _)) (seven hs'.out) hJlt.out (x := x) (by omega) hlb.out)
          have hspl := Lib.hid (wt_split hcut4.out.1 hcut4.out.2.1 hcut4.out.2.2)
          have hdt := Lib.hid (dp_till (s := s) hcut4.out.1 hcut4.out.2.2)
          have hw1 := Lib.hid (wt_pos (fit_till hft'.out hcut4.out.1 hcut4.out.2.1))
          have hw2 := Lib.hid (wt_pos (fit_later hft'.out hcut4.out.1 hcut4.out.2.2))
          have h50 := Lib.hid (fun (V : World) (u : Value) (hb : Below W4.heap.size W4 V) (hu : ShV V u s.P (s.js.set J (tillJ (s.js.getD J J0) x)) (osI s)) => ih'.out V u (till s J x) rb L (by have := hspl.out; have := hw2.out; have := hk'.out; omega)
            (loose_till hs'.out hcut4.out.1 hcut4.out.2.1 (Int.le_of_lt hcut4.out.2.2)) (fit_till hft'.out hcut4.out.1 hcut4.out.2.1)
            (fun ⟨S, hS⟩ => hno'.out ⟨S, ((sched_till hcut4.out.1 (Int.le_of_lt hcut4.out.2.2) S).1 hS).1⟩) hu (hR4.out.below hb) (by have := hspl.out; have := hL0'.out; omega) hL1)
          obtain ⟨z0, z1, z2⟩ := hbx4.out W4 (Kq.refl _ _)
          clear hTW3 hb4 hsz3 hbw3 hxb
          go_upto_region 11 with (first
            | (go_at_call 61; refine (h61.out).mono ?_; clear h61; rintro e W5 ⟨v1, rfl, hv1, hb5⟩; have h50' := Lib.hid (h50.out W5 v1 hb5 hv1); have hb5' := Lib.hid hb5; clear hv1 hb5)
            | (go_at_call 50; refine (h50'.out).mono ?_; clear h50'; rintro e W6 ⟨o1, L1, rfl, hk6, hr6, b1, b2, blo, ht1, hn1⟩; have hlo1 := Lib.hid blo; have hk6' := Lib.hid ((Kq.of_below hb5'.out).trans hk6); have hr6' := Lib.hid hr6; have hB6 := Lib.hid (And.intro b1 b2); have ht1' := Lib.hid ht1; have hn1' := Lib.hid hn1; clear hk6 hr6 b1 b2 blo ht1 hn1))
          clear z0 z1 z2 h50 hb5'
          rw [till_n] at ht1'
          cases o1 with
          | none =>
            rw [show valO none = .nilIface from rfl]
            go_wp2_with fail
            go_ret
            exact ⟨none, L1, rfl, (Kq.of_below hbw4.out).trans hk6'.out, hr6'.out, by have := hB6.out; have := hspl.out; omega, by have := hB6.out; omega, ⟨fun h => absurd hLp (by omega), fun h => by have := hlo1.out.2 h; have := hdt.out; omega⟩, fun _ h => (by cases h), fun h => absurd rfl (hn1'.out (by have := hspl.out; omega))⟩
          | some t1 =>
            obtain ⟨hrf1, hwf1, hle1⟩ := ht1'.out t1 rfl
            obtain ⟨ty1, ar1, fn1, hvo1, hme1, hca1, hna1, hrt1⟩ := tree_pack t1
            have hrf1' := Lib.hid hrf1
            have hwf1' := Lib.hid hwf1
            have hle1' := Lib.hid hle1
            have hvo1' := Lib.hid hvo1
            have hrt1' := Lib.hid hrt1
            rw [hvo1]
            clear hrf1 hwf1 hle1 hvo1 hrt1 ht1' hn1'
            obtain ⟨z0, z1, z2⟩ := hbx4.out W6 hk6'.out
            have hl6 := Lib.hid (hrt1'.out s hs'.out hwf1'.out W6 _ (hsh4.out W6 hk6'.out))
            cases hd6 : rf t1 s with
            | true =>
              rw [hd6] at hl6
              have hd6' := Lib.hid hd6
              clear hd6
              go_wp2_with (refine (hl6.out).mono ?_; clear hl6; rintro e W7 ⟨rfl, hb7⟩; have hb7' := Lib.hid hb7; clear hb7)
              go_ret
              refine ⟨some t1, L1, by rw [hvo1'.out]; rfl, ((Kq.of_below hbw4.out).trans hk6'.out).trans (Kq.of_below hb7'.out), hr6'.out.below hb7'.out, by have := hB6.out; have := hspl.out; omega, by have := hB6.out; omega, ⟨fun h => absurd hLp (by omega), fun h => by have := hlo1.out.2 h; have := hdt.out; omega⟩, fun u hu => ?_, fun _ => by simp⟩
              cases hu
              exact ⟨hd6'.out, hwf1'.out, hle1'.out⟩
            | false =>
              rw [hd6] at hl6
              have hd6' := Lib.hid hd6
              clear hd6
              go_wp2_with (refine (hl6.out).mono ?_; clear hl6; rintro e W7 ⟨rfl, hb7⟩; have hb7' := Lib.hid hb7; clear hb7)
              have hK7 := Lib.hid (hk6'.out.trans (Kq.of_below hb7'.out))
              have hR7 := Lib.hid (hr6'.out.below hb7'.out)
              have hmf : ∀ (fn : Fn) (first cap : Array Value) (w : World), (Instr.makeFunc fn first cap).run Try.prog w = .ok (.func fn first cap) w := fun _ _ _ _ => rfl
              clear z0 z1 z2
              go_loopw [7] (fun av wr => ∃ y : Int, av = .int .i64 y ∧ x ≤ y ∧ Hid (Cutting s J y ∧ rf t1 (till s J y) = true) ∧ Hid (Below W7.heap.size W7 wr)) (fun av _ => (lat (s.job J) - intOf av).toNat)
              case atStart => exact ⟨x, rfl, Int.le_refl _, Lib.hid ⟨hcut4.out, hrf1'.out⟩, Lib.hid (Below.refl _ _)⟩
              case round =>
                obtain ⟨y, rfl, hxy, hy, hb⟩ := hrel
                obtain ⟨wo, rfl⟩ : ∃ wo : World, wo = wr := ⟨_, rfl⟩
                have hKo := Lib.hid (hK7.out.trans (Kq.of_below hb.out))
                obtain ⟨z0, z1, z2⟩ := hbx4.out wo hKo.out
                have hyb : 0 ≤ y ∧ y ≤ 23 := by have := hjb.out; have := hy.out.1; unfold Cutting lat at this; omega
                have s1 : IntKind.i64.wrap (y + 1) = y + 1 := IntWalk.i64_in _ (by omega)
                obtain ⟨d, hd⟩ : ∃ d, d = rf t1 (till s J (y + 1)) := ⟨_, rfl⟩
                have h61 := Lib.hid (fun (V : World) (hV : Below wo.heap.size wo V) => until61 (hsh4.out V (hKo.out.trans (Kq.of_below hV))) (seven hs'.out) hJlt.out (x := y + 1) (by omega) hlb.out)
                have hinv := Lib.hid (fun (V : World) (u : Value) (hu : ShV V u s.P (s.js.set J (tillJ (s.js.getD J J0) (y + 1))) (osI s)) => (show Calls Try.prog fn1 #[ar1, u] V (RefEnd d V) from by rw [hd]; exact hrt1'.out (till s J (y + 1)) (loose_till hs'.out hy.out.1.1 (by have := hy.out.1.2.1; omega) (by have := hy.out.1.2.2; omega)) (by rw [till_n]; exact hwf1'.out) V u hu))
                have hszo := Lib.hid (show w.heap.size < wo.heap.size by have := hlt.out; exact cell_in z0)
                have hd' := Lib.hid hd
                clear hd
                cases d with
                | true =>
                  go_upto_region 13 with fail
                  refine wp_region_noPanic ?_
                  refine wp_region_any (by kernel_rfl) (wpAny_of_held (S := fun w' => Below wo.heap.size wo w') _ _ _ _ ?_)
                  have hHeld : Below wo.heap.size wo wo.drew := (Below.refl _ _).drew
                  change wpAnyH _ _ _ _ _ _ _ _ wo.drew
                  simp only [List.size_toArray, List.length_cons, List.length_nil, Nat.reduceAdd, Array.replicate_succ, Array.replicate_zero, List.push_toArray, List.nil_append, List.cons_append]
                  refine wpAnyH_take (i := 0) (v := .iface ty1 ar1) rfl (by as_aux_lemma => kernel_rfl) (by as_aux_lemma => kernel_rfl) (by as_aux_lemma => kernel_rfl) (fun _ _ _ h => h) (Or.inl ⟨by rfl, ?_⟩) hHeld ?_
                  · intro w' hSw; go_simp
                  simp only [Act.put, List.setIfInBounds_toArray, List.set_cons_zero, List.set_cons_succ, List.getElem_toArray, List.getElem_cons_zero]
                  refine wpAnyH_take (i := 1) (v := .agg #[.int .i64 s.P, .slice ja n jc, .slice oa m oc]) rfl (by as_aux_lemma => kernel_rfl) (by as_aux_lemma => kernel_rfl) (by as_aux_lemma => kernel_rfl) (fun _ _ _ h => h) (Or.inl ⟨by rfl, ?_⟩) hHeld ?_
                  · intro w' hSw; have c0 := (hSw.cell (p := ⟨w.heap.size, 0, none⟩) hszo.out).trans z0; have c1 := (hSw.cell (p := ⟨w.heap.size, 1, none⟩) hszo.out).trans z1; have c2 := (hSw.cell (p := ⟨w.heap.size, 2, none⟩) hszo.out).trans z2; go_simp
                  simp only [Act.put, List.setIfInBounds_toArray, List.set_cons_zero, List.set_cons_succ, List.getElem_toArray, List.getElem_cons_succ, List.getElem_cons_zero]
                  refine wpAnyH_take (i := 2) (v := .int .i64 J) rfl (by as_aux_lemma => kernel_rfl) (by as_aux_lemma => kernel_rfl) (by as_aux_lemma => kernel_rfl) (fun _ _ _ h => h) (Or.inl ⟨by rfl, ?_⟩) hHeld ?_
                  · intro w' hSw; go_simp
                  simp only [Act.put, List.setIfInBounds_toArray, List.set_cons_zero, List.set_cons_succ, List.getElem_toArray, List.getElem_cons_succ, List.getElem_cons_zero]
                  refine wpAnyH_take (i := 3) (v := .int .i64 y) rfl (by as_aux_lemma => kernel_rfl) (by as_aux_lemma => kernel_rfl) (by as_aux_lemma => kernel_rfl) (fun _ _ _ h => h) (Or.inl ⟨by rfl, ?_⟩) hHeld ?_
                  · intro w' hSw; go_simp
                  simp only [Act.put, List.setIfInBounds_toArray, List.set_cons_zero, List.set_cons_succ, List.getElem_toArray, List.getElem_cons_succ, List.getElem_cons_zero]
                  refine wpAnyH_take (i := 4) (v := .int .i64 (y + 1)) rfl (by as_aux_lemma => kernel_rfl) (by as_aux_lemma => kernel_rfl) (by as_aux_lemma => kernel_rfl) (fun _ _ _ h => h) (Or.inl ⟨by rfl, ?_⟩) hHeld ?_
                  · intro w' hSw; go_simp
                  simp only [Act.put, List.setIfInBounds_toArray, List.set_cons_zero, List.set_cons_succ, List.getElem_toArray, List.getElem_cons_succ, List.getElem_cons_zero]
                  refine wpAnyH_take (i := 6) (v := .func (Fn.method "bolster/shaft.refutes") #[.iface ty1 ar1] #[]) rfl (by as_aux_lemma => kernel_rfl) (by as_aux_lemma => kernel_rfl) (by as_aux_lemma => kernel_rfl) (fun _ _ _ h => h) (Or.inl ⟨by rfl, ?_⟩) hHeld ?_
                  · intro w' hSw; go_simp
                  simp only [Act.put, List.setIfInBounds_toArray, List.set_cons_zero, List.set_cons_succ, List.getElem_toArray, List.getElem_cons_succ, List.getElem_cons_zero]
                  refine wpAnyH_take (i := 7) (v := .func (Fn.method "bolster/shaft.refutes") #[.iface ty1 ar1] #[]) rfl (by as_aux_lemma => kernel_rfl) (by as_aux_lemma => kernel_rfl) (by as_aux_lemma => kernel_rfl) (fun _ _ _ h => h) (Or.inl ⟨by rfl, ?_⟩) hHeld ?_
                  · intro w' hSw; go_simp
                  simp only [Act.put, List.setIfInBounds_toArray, List.set_cons_zero, List.set_cons_succ, List.getElem_toArray, List.getElem_cons_succ, List.getElem_cons_zero]
                  refine wpAnyH_take (i := 8) (v := .iface ty1 ar1) rfl (by as_aux_lemma => kernel_rfl) (by as_aux_lemma => kernel_rfl) (by as_aux_lemma => kernel_rfl) (fun _ _ _ h => h) (Or.inl ⟨by rfl, ?_⟩) hHeld ?_
                  · intro w' hSw; go_simp
                  simp only [Act.put, List.setIfInBounds_toArray, List.set_cons_zero, List.set_cons_succ, List.getElem_toArray, List.getElem_cons_succ, List.getElem_cons_zero]
                  refine wpAnyH_ready (rs := [5]) (by as_aux_lemma => kernel_rfl) (by simp) ?_
                  refine AllReadyH.cons rfl (fun K hK => ?_) AllReadyH.nil
                  have hV := Lib.hid (h61.out wo.drew (Below.refl _ _).drew)
                  go_simp
                  refine hV.out.mono ?_
                  rintro e wa ⟨u, rfl, hu, hba⟩
                  have hcu2 := Lib.hid (hinv.out wa u hu)
                  have hba' : Below wo.heap.size wo wa := (Below.refl wo.heap.size wo).drew.trans hba
                  refine hK.out _ _ hba' (fun hHeld => ?_)
                  clear hK K hV hba hu
                  simp only [List.setIfInBounds_toArray, List.set_cons_zero, List.set_cons_succ]
                  refine wpAnyH_ready (rs := [9]) (by as_aux_lemma => kernel_rfl) (by simp) ?_
                  refine AllReadyH.cons rfl (fun K hK => ?_) AllReadyH.nil
                  go_simp
                  refine hcu2.out.mono ?_
                  rintro e wk ⟨rfl, hbk⟩
                  have hbk' : Below wo.heap.size wo wk := hba'.trans (hbk.mono hba'.size)
                  refine hK.out _ _ hbk' (fun hHeld => ?_)
                  have hbk2 := Lib.hid hbk'
                  clear hK K hcu2 hbk hba' hbk' hHeld z0 z1 z2
                  simp only [List.setIfInBounds_toArray, List.set_cons_zero, List.set_cons_succ]
                  refine wpAnyH_done (by kernel_rfl) ?_ _
                  refine NoPanic.normal ?_
                  have hb7k := Lib.hid (hb.out.trans (hbk2.out.mono hb.out.size))
                  have hcy := Lib.hid (show Cutting s J (y + 1) from ⟨hy.out.1.1, by have := hy.out.1.2.1; omega, by
                    have h1 := hy.out.1.2.2
                    by_cases q : y + 1 < lat (s.job J)
                    · exact q
                    · have e : y + 1 = lat (s.job J) := by omega
                      have h2 := hd'.out
                      rw [e, till_lat hy.out.1.1, hd6'.out] at h2
                      cases h2⟩)
                  have hml := Lib.hid hy.out.1.2.2
                  go_wp2_with fail
                  go_roundw
                  case rel => exact ⟨y + 1, by go_num, by omega, Lib.hid ⟨hcy.out, hd'.out.symm⟩, hb7k⟩
                  case measure => simp [intOf]; have := hml.out; omega
                | false =>
                  go_upto_region 13 with fail
                  refine wp_region_noPanic ?_
                  refine wp_region_any (by kernel_rfl) (wpAny_of_held (S := fun w' => Below wo.heap.size wo w') _ _ _ _ ?_)
                  have hHeld : Below wo.heap.size wo wo.drew := (Below.refl _ _).drew
                  change wpAnyH _ _ _ _ _ _ _ _ wo.drew
                  simp only [List.size_toArray, List.length_cons, List.length_nil, Nat.reduceAdd, Array.replicate_succ, Array.replicate_zero, List.push_toArray, List.nil_append, List.cons_append]
                  refine wpAnyH_take (i := 0) (v := .iface ty1 ar1) rfl (by as_aux_lemma => kernel_rfl) (by as_aux_lemma => kernel_rfl) (by as_aux_lemma => kernel_rfl) (fun _ _ _ h => h) (Or.inl ⟨by rfl, ?_⟩) hHeld ?_
                  · intro w' hSw; go_simp
                  simp only [Act.put, List.setIfInBounds_toArray, List.set_cons_zero, List.set_cons_succ, List.getElem_toArray, List.getElem_cons_zero]
                  refine wpAnyH_take (i := 1) (v := .agg #[.int .i64 s.P, .slice ja n jc, .slice oa m oc]) rfl (by as_aux_lemma => kernel_rfl) (by as_aux_lemma => kernel_rfl) (by as_aux_lemma => kernel_rfl) (fun _ _ _ h => h) (Or.inl ⟨by rfl, ?_⟩) hHeld ?_
                  · intro w' hSw; have c0 := (hSw.cell (p := ⟨w.heap.size, 0, none⟩) hszo.out).trans z0; have c1 := (hSw.cell (p := ⟨w.heap.size, 1, none⟩) hszo.out).trans z1; have c2 := (hSw.cell (p := ⟨w.heap.size, 2, none⟩) hszo.out).trans z2; go_simp
                  simp only [Act.put, List.setIfInBounds_toArray, List.set_cons_zero, List.set_cons_succ, List.getElem_toArray, List.getElem_cons_succ, List.getElem_cons_zero]
                  refine wpAnyH_take (i := 2) (v := .int .i64 J) rfl (by as_aux_lemma => kernel_rfl) (by as_aux_lemma => kernel_rfl) (by as_aux_lemma => kernel_rfl) (fun _ _ _ h => h) (Or.inl ⟨by rfl, ?_⟩) hHeld ?_
                  · intro w' hSw; go_simp
                  simp only [Act.put, List.setIfInBounds_toArray, List.set_cons_zero, List.set_cons_succ, List.getElem_toArray, List.getElem_cons_succ, List.getElem_cons_zero]
                  refine wpAnyH_take (i := 3) (v := .int .i64 y) rfl (by as_aux_lemma => kernel_rfl) (by as_aux_lemma => kernel_rfl) (by as_aux_lemma => kernel_rfl) (fun _ _ _ h => h) (Or.inl ⟨by rfl, ?_⟩) hHeld ?_
                  · intro w' hSw; go_simp
                  simp only [Act.put, List.setIfInBounds_toArray, List.set_cons_zero, List.set_cons_succ, List.getElem_toArray, List.getElem_cons_succ, List.getElem_cons_zero]
                  refine wpAnyH_take (i := 4) (v := .int .i64 (y + 1)) rfl (by as_aux_lemma => kernel_rfl) (by as_aux_lemma => kernel_rfl) (by as_aux_lemma => kernel_rfl) (fun _ _ _ h => h) (Or.inl ⟨by rfl, ?_⟩) hHeld ?_
                  · intro w' hSw; go_simp
                  simp only [Act.put, List.setIfInBounds_toArray, List.set_cons_zero, List.set_cons_succ, List.getElem_toArray, List.getElem_cons_succ, List.getElem_cons_zero]
                  refine wpAnyH_take (i := 6) (v := .func (Fn.method "bolster/shaft.refutes") #[.iface ty1 ar1] #[]) rfl (by as_aux_lemma => kernel_rfl) (by as_aux_lemma => kernel_rfl) (by as_aux_lemma => kernel_rfl) (fun _ _ _ h => h) (Or.inl ⟨by rfl, ?_⟩) hHeld ?_
                  · intro w' hSw; go_simp
                  simp only [Act.put, List.setIfInBounds_toArray, List.set_cons_zero, List.set_cons_succ, List.getElem_toArray, List.getElem_cons_succ, List.getElem_cons_zero]
                  refine wpAnyH_take (i := 7) (v := .func (Fn.method "bolster/shaft.refutes") #[.iface ty1 ar1] #[]) rfl (by as_aux_lemma => kernel_rfl) (by as_aux_lemma => kernel_rfl) (by as_aux_lemma => kernel_rfl) (fun _ _ _ h => h) (Or.inl ⟨by rfl, ?_⟩) hHeld ?_
                  · intro w' hSw; go_simp
                  simp only [Act.put, List.setIfInBounds_toArray, List.set_cons_zero, List.set_cons_succ, List.getElem_toArray, List.getElem_cons_succ, List.getElem_cons_zero]
                  refine wpAnyH_take (i := 8) (v := .iface ty1 ar1) rfl (by as_aux_lemma => kernel_rfl) (by as_aux_lemma => kernel_rfl) (by as_aux_lemma => kernel_rfl) (fun _ _ _ h => h) (Or.inl ⟨by rfl, ?_⟩) hHeld ?_
                  · intro w' hSw; go_simp
                  simp only [Act.put, List.setIfInBounds_toArray, List.set_cons_zero, List.set_cons_succ, List.getElem_toArray, List.getElem_cons_succ, List.getElem_cons_zero]
                  refine wpAnyH_ready (rs := [5]) (by as_aux_lemma => kernel_rfl) (by simp) ?_
                  refine AllReadyH.cons rfl (fun K hK => ?_) AllReadyH.nil
                  have hV := Lib.hid (h61.out wo.drew (Below.refl _ _).drew)
                  go_simp
                  refine hV.out.mono ?_
                  rintro e wa ⟨u, rfl, hu, hba⟩
                  have hcu2 := Lib.hid (hinv.out wa u hu)
                  have hba' : Below wo.heap.size wo wa := (Below.refl wo.heap.size wo).drew.trans hba
                  refine hK.out _ _ hba' (fun hHeld => ?_)
                  clear hK K hV hba hu
                  simp only [List.setIfInBounds_toArray, List.set_cons_zero, List.set_cons_succ]
                  refine wpAnyH_ready (rs := [9]) (by as_aux_lemma => kernel_rfl) (by simp) ?_
                  refine AllReadyH.cons rfl (fun K hK => ?_) AllReadyH.nil
                  go_simp
                  refine hcu2.out.mono ?_
                  rintro e wk ⟨rfl, hbk⟩
                  have hbk' : Below wo.heap.size wo wk := hba'.trans (hbk.mono hba'.size)
                  refine hK.out _ _ hbk' (fun hHeld => ?_)
                  have hbk2 := Lib.hid hbk'
                  clear hK K hcu2 hbk hba' hbk' hHeld z0 z1 z2
                  simp only [List.setIfInBounds_toArray, List.set_cons_zero, List.set_cons_succ]
                  refine wpAnyH_done (by kernel_rfl) ?_ _
                  refine NoPanic.normal ?_
                  have hb7k := Lib.hid (hb.out.trans (hbk2.out.mono hb.out.size))
                  have hK8 := Lib.hid (hK7.out.trans (Kq.of_below hb7k.out))
                  have hR8 := Lib.hid (hR7.out.below hb7k.out)
                  have h70 := Lib.hid (after70 (hsh4.out wk hK8.out) (seven hs'.out) hJlt.out (x := y) (by omega))
                  have hcy := Lib.hid hy.out.1
                  have hrfy := Lib.hid hy.out.2
                  have hspy := Lib.hid (wt_split hcy.out.1 hcy.out.2.1 hcy.out.2.2)
                  have hdl := Lib.hid (dp_later (s := s) hcy.out.1 hcy.out.2.1)
                  have hwy1 := Lib.hid (wt_pos (fit_till hft'.out hcy.out.1 hcy.out.2.1))
                  have hwy2 := Lib.hid (wt_later_le (s := s) hcy.out.1 hxy)
                  have h50 := Lib.hid (fun (V : World) (u : Value) (hb : Below wk.heap.size wk V) (hu : ShV V u s.P (s.js.set J (afterJ (s.js.getD J J0) y)) (osI s)) => ih'.out V u (later s J y) rb L1 (by have := hspy.out; have := hwy1.out; have := hk'.out; omega)
                    (loose_later hs'.out hcy.out.1 hcy.out.2.1 hcy.out.2.2) (fit_later hft'.out hcy.out.1 hcy.out.2.2)
                    (fun ⟨S, hS⟩ => hno'.out ⟨S, ((sched_later hcy.out.1 (by have := hcy.out.2.1; omega) S).1 hS).1⟩) hu (hR8.out.below hb) (by have := hspl.out; have := hL0'.out; have := hB6.out; have := hwy2.out; omega) (by have := hB6.out; omega))
                  obtain ⟨z0, z1, z2⟩ := hbx4.out wk hK8.out
                  clear h61 hinv hyb s1 hmf hme1 hca1 hna1 hd' hszo hxy hy
                  go_upto_region 16 with (first
                    | (go_at_call 70; refine (h70.out).mono ?_; clear h70; rintro e W9 ⟨v2, rfl, hv2, hb9⟩; have h50' := Lib.hid (h50.out W9 v2 hb9 hv2); have hb9' := Lib.hid hb9; clear hv2 hb9)
                    | (go_at_call 50; refine (h50'.out).mono ?_; clear h50'; rintro e Wa ⟨o2, L2, rfl, hka, hra, b1, b2, blo, ht2, hn2⟩; have hlo2 := Lib.hid blo; have hka' := Lib.hid (hK8.out.trans ((Kq.of_below hb9'.out).trans hka)); have hra' := Lib.hid hra; have hBa := Lib.hid (And.intro b1 b2); have ht2' := Lib.hid ht2; have hn2' := Lib.hid hn2; clear hka hra b1 b2 blo ht2 hn2))
                  clear z0 z1 z2 h50 hb9'
                  rw [later_n] at ht2'
                  cases o2 with
                  | none =>
                    rw [show valO none = .nilIface from rfl]
                    go_wp2_with fail
                    go_ret
                    exact ⟨none, L2, rfl, (Kq.of_below hbw4.out).trans hka'.out, hra'.out, by have := hB6.out; have := hBa.out; have := hspl.out; have := hwy2.out; omega, by have := hB6.out; have := hBa.out; omega, ⟨fun h => absurd hLp (by omega), fun h => by
                      have h1 := hlo1.out.2 h; have h2 := hdt.out; have h3 := hdl.out; have h4 := hlo2.out
                      by_cases q : L1 ≤ 0
                      · have := h4.1 q; omega
                      · have := h4.2 (by omega); omega⟩, fun _ h => (by cases h), fun h => absurd rfl (hn2'.out (by have := hspl.out; have := hB6.out; have := hwy2.out; omega))⟩
                  | some t2 =>
                    obtain ⟨hrf2, hwf2, hle2⟩ := ht2'.out t2 rfl
                    obtain ⟨ty2, ar2, fn2, hvo2, hme2, hca2, hna2, hrt2⟩ := tree_pack t2
                    have hrf2' := Lib.hid hrf2
                    have hwf2' := Lib.hid hwf2
                    have hle2' := Lib.hid hle2
                    have hvo2' := Lib.hid hvo2
                    have hrt2' := Lib.hid hrt2
                    rw [hvo2]
                    clear hrf2 hwf2 hle2 hvo2 hrt2 ht2' hn2'
                    obtain ⟨z0, z1, z2⟩ := hbx4.out Wa hka'.out
                    have hla := Lib.hid (hrt2'.out s hs'.out hwf2'.out Wa _ (hsh4.out Wa hka'.out))
                    cases hda : rf t2 s
                    · rw [hda] at hla
                      have hda' := Lib.hid hda
                      clear hda
                      go_wp2_with (refine (hla.out).mono ?_; clear hla; rintro e Wb ⟨rfl, hbb⟩; have hbb' := Lib.hid hbb; clear hbb)
                      go_ret
                      refine ⟨some (.split J y t1 t2), L2, ?_, ((Kq.of_below hbw4.out).trans hka'.out).trans (Kq.of_below hbb'.out), hra'.out.below hbb'.out, by have := hB6.out; have := hBa.out; have := hspl.out; have := hwy2.out; omega, by have := hB6.out; have := hBa.out; omega, ⟨fun h => absurd hLp (by omega), fun h => by
                        have h1 := hlo1.out.2 h; have h2 := hdt.out; have h3 := hdl.out; have h4 := hlo2.out
                        by_cases q : L1 ≤ 0
                        · have := h4.1 q; omega
                        · have := h4.2 (by omega); omega⟩, fun u hu => ?_, fun _ => by simp⟩
                      · have e1 : t1.val = .iface ty1 ar1 := hvo1'.out
                        have e2 : t2.val = .iface ty2 ar2 := hvo2'.out
                        show _ = Ending.returned (Tr.val _)
                        rw [Tr.val, e1, e2]; rfl
                      · cases hu
                        refine ⟨?_, ⟨by omega, by have := hcy.out.1; omega, hwf1'.out, hwf2'.out⟩, ?_⟩
                        · simp only [rf, Int.toNat_natCast, Bool.and_eq_true, decide_eq_true_eq]
                          exact ⟨hcy.out.2.1, hcy.out.2.2, hrfy.out, hrf2'.out⟩
                        · simp only [Tr.leaves]; have := hle1'.out; have := hle2'.out; omega
                    · rw [hda] at hla
                      have hda' := Lib.hid hda
                      clear hda
                      go_wp2_with (refine (hla.out).mono ?_; clear hla; rintro e Wb ⟨rfl, hbb⟩; have hbb' := Lib.hid hbb; clear hbb)
                      go_ret
                      refine ⟨some t2, L2, by rw [hvo2'.out]; rfl, ((Kq.of_below hbw4.out).trans hka'.out).trans (Kq.of_below hbb'.out), hra'.out.below hbb'.out, by have := hB6.out; have := hBa.out; have := hspl.out; have := hwy2.out; omega, by have := hB6.out; have := hBa.out; omega, ⟨fun h => absurd hLp (by omega), fun h => by
                        have h1 := hlo1.out.2 h; have h2 := hdt.out; have h3 := hdl.out; have h4 := hlo2.out
                        by_cases q : L1 ≤ 0
                        · have := h4.1 q; omega
                        · have := h4.2 (by omega); omega⟩, fun u hu => ?_, fun _ => by simp⟩
                      cases hu
                      exact ⟨hda'.out, hwf2'.out, by have := hle2'.out; have := hB6.out; omega⟩
        | true =>
          go_upto_region 10 with fail
          have hcut4 := Lib.hid (hcu'.out rfl)
          obtain ⟨W4, hW4⟩ : ∃ W4, W4 = W3 := ⟨_, rfl⟩
          have hb4 := Lib.hid (show Below W3.heap.size W3 W4 by rw [hW4]; exact Below.refl _ _)
          rw [← hW4]
          clear hcu' h69 z0 z1 z2 hW4
          have hbw4 := Lib.hid (below_call hbw3.out hb4.out)
          have hR4 := Lib.hid (hR'.out.below hbw4.out)
          have hbx4 := Lib.hid (fun (V : World) (hk : Kq rb W4 V) => (show V.cell? ⟨w.heap.size, 0, none⟩ = some (.int .i64 s.P) ∧ V.cell? ⟨w.heap.size, 1, none⟩ = some (.slice ja n jc) ∧ V.cell? ⟨w.heap.size, 2, none⟩ = some (.slice oa m oc) from by
            have hT := hTW3.out.keep hb4.out hsz3.out
            have h1 : w.heap.size < W4.heap.size := Nat.lt_of_lt_of_le hsz3.out hb4.out.size
            have h2 : w.heap.size ≠ rb := by have := hlt.out; omega
            exact ⟨(hk.cell (k := 0) h1 h2).trans hT.1.1, (hk.cell (k := 1) h1 h2).trans hT.1.2.1, (hk.cell (k := 2) h1 h2).trans hT.1.2.2⟩))
          have hsh4 := Lib.hid (fun (V : World) (hk : Kq rb W4 V) => hsh.out V ((Kq.of_below hbw4.out).trans hk))
          have hjb := Lib.hid (hs'.out.jobs J hcut4.out.1)
          have hxb : 0 ≤ x ∧ x ≤ 24 := by have := hjb.out; have := hcut4.out; unfold Cutting lat at this; omega
          have hJlt := Lib.hid (show J < s.js.length from hcut4.out.1)
          have hlb := Lib.hid (show -1000 ≤ (s.js.getD J J0).l ∧ (s.js.getD J J0).l ≤ 1000 by have := hjb.out; unfold Sh.job at this; omega)
          have h61 := Lib.hid (until61 (hsh4.out W4 (Kq.refl _ _)) (seven hs'.out) hJlt.out (x := x) (by omega) hlb.out)
          have hspl := Lib.hid (wt_split hcut4.out.1 hcut4.out.2.1 hcut4.out.2.2)
          have hdt := Lib.hid (dp_till (s := s) hcut4.out.1 hcut4.out.2.2)
          have hw1 := Lib.hid (wt_pos (fit_till hft'.out hcut4.out.1 hcut4.out.2.1))
          have hw2 := Lib.hid (wt_pos (fit_later hft'.out hcut4.out.1 hcut4.out.2.2))
          have h50 := Lib.hid (fun (V : World) (u : Value) (hb : Below W4.heap.size W4 V) (hu : ShV V u s.P (s.js.set J (tillJ (s.js.getD J J0) x)) (osI s)) => ih'.out V u (till s J x) rb L (by have := hspl.out; have := hw2.out; have := hk'.out; omega)
            (loose_till hs'.out hcut4.out.1 hcut4.out.2.1 (Int.le_of_lt hcut4.out.2.2)) (fit_till hft'.out hcut4.out.1 hcut4.out.2.1)
            (fun ⟨S, hS⟩ => hno'.out ⟨S, ((sched_till hcut4.out.1 (Int.le_of_lt hcut4.out.2.2) S).1 hS).1⟩) hu (hR4.out.below hb) (by have := hspl.out; have := hL0'.out; omega) hL1)
          obtain ⟨z0, z1, z2⟩ := hbx4.out W4 (Kq.refl _ _)
          clear hTW3 hb4 hsz3 hbw3 hxb
          go_upto_region 11 with (first
            | (go_at_call 61; refine (h61.out).mono ?_; clear h61; rintro e W5 ⟨v1, rfl, hv1, hb5⟩; have h50' := Lib.hid (h50.out W5 v1 hb5 hv1); have hb5' := Lib.hid hb5; clear hv1 hb5)
            | (go_at_call 50; refine (h50'.out).mono ?_; clear h50'; rintro e W6 ⟨o1, L1, rfl, hk6, hr6, b1, b2, blo, ht1, hn1⟩; have hlo1 := Lib.hid blo; have hk6' := Lib.hid ((Kq.of_below hb5'.out).trans hk6); have hr6' := Lib.hid hr6; have hB6 := Lib.hid (And.intro b1 b2); have ht1' := Lib.hid ht1; have hn1' := Lib.hid hn1; clear hk6 hr6 b1 b2 blo ht1 hn1))
          clear z0 z1 z2 h50 hb5'
          rw [till_n] at ht1'
          cases o1 with
          | none =>
            rw [show valO none = .nilIface from rfl]
            go_wp2_with fail
            go_ret
            exact ⟨none, L1, rfl, (Kq.of_below hbw4.out).trans hk6'.out, hr6'.out, by have := hB6.out; have := hspl.out; omega, by have := hB6.out; omega, ⟨fun h => absurd hLp (by omega), fun h => by have := hlo1.out.2 h; have := hdt.out; omega⟩, fun _ h => (by cases h), fun h => absurd rfl (hn1'.out (by have := hspl.out; omega))⟩
          | some t1 =>
            obtain ⟨hrf1, hwf1, hle1⟩ := ht1'.out t1 rfl
            obtain ⟨ty1, ar1, fn1, hvo1, hme1, hca1, hna1, hrt1⟩ := tree_pack t1
            have hrf1' := Lib.hid hrf1
            have hwf1' := Lib.hid hwf1
            have hle1' := Lib.hid hle1
            have hvo1' := Lib.hid hvo1
            have hrt1' := Lib.hid hrt1
            rw [hvo1]
            clear hrf1 hwf1 hle1 hvo1 hrt1 ht1' hn1'
            obtain ⟨z0, z1, z2⟩ := hbx4.out W6 hk6'.out
            have hl6 := Lib.hid (hrt1'.out s hs'.out hwf1'.out W6 _ (hsh4.out W6 hk6'.out))
            cases hd6 : rf t1 s with
            | true =>
              rw [hd6] at hl6
              have hd6' := Lib.hid hd6
              clear hd6
              go_wp2_with (refine (hl6.out).mono ?_; clear hl6; rintro e W7 ⟨rfl, hb7⟩; have hb7' := Lib.hid hb7; clear hb7)
              go_ret
              refine ⟨some t1, L1, by rw [hvo1'.out]; rfl, ((Kq.of_below hbw4.out).trans hk6'.out).trans (Kq.of_below hb7'.out), hr6'.out.below hb7'.out, by have := hB6.out; have := hspl.out; omega, by have := hB6.out; omega, ⟨fun h => absurd hLp (by omega), fun h => by have := hlo1.out.2 h; have := hdt.out; omega⟩, fun u hu => ?_, fun _ => by simp⟩
              cases hu
              exact ⟨hd6'.out, hwf1'.out, hle1'.out⟩
            | false =>
              rw [hd6] at hl6
              have hd6' := Lib.hid hd6
              clear hd6
              go_wp2_with (refine (hl6.out).mono ?_; clear hl6; rintro e W7 ⟨rfl, hb7⟩; have hb7' := Lib.hid hb7; clear hb7)
              have hK7 := Lib.hid (hk6'.out.trans (Kq.of_below hb7'.out))
              have hR7 := Lib.hid (hr6'.out.below hb7'.out)
              have hmf : ∀ (fn : Fn) (first cap : Array Value) (w : World), (Instr.makeFunc fn first cap).run Try.prog w = .ok (.func fn first cap) w := fun _ _ _ _ => rfl
              clear z0 z1 z2
              go_loopw [7] (fun av wr => ∃ y : Int, av = .int .i64 y ∧ x ≤ y ∧ Hid (Cutting s J y ∧ rf t1 (till s J y) = true) ∧ Hid (Below W7.heap.size W7 wr)) (fun av _ => (lat (s.job J) - intOf av).toNat)
              case atStart => exact ⟨x, rfl, Int.le_refl _, Lib.hid ⟨hcut4.out, hrf1'.out⟩, Lib.hid (Below.refl _ _)⟩
              case round =>
                obtain ⟨y, rfl, hxy, hy, hb⟩ := hrel
                obtain ⟨wo, rfl⟩ : ∃ wo : World, wo = wr := ⟨_, rfl⟩
                have hKo := Lib.hid (hK7.out.trans (Kq.of_below hb.out))
                obtain ⟨z0, z1, z2⟩ := hbx4.out wo hKo.out
                have hyb : 0 ≤ y ∧ y ≤ 23 := by have := hjb.out; have := hy.out.1; unfold Cutting lat at this; omega
                have s1 : IntKind.i64.wrap (y + 1) = y + 1 := IntWalk.i64_in _ (by omega)
                obtain ⟨d, hd⟩ : ∃ d, d = rf t1 (till s J (y + 1)) := ⟨_, rfl⟩
                have h61 := Lib.hid (fun (V : World) (hV : Below wo.heap.size wo V) => until61 (hsh4.out V (hKo.out.trans (Kq.of_below hV))) (seven hs'.out) hJlt.out (x := y + 1) (by omega) hlb.out)
                have hinv := Lib.hid (fun (V : World) (u : Value) (hu : ShV V u s.P (s.js.set J (tillJ (s.js.getD J J0) (y + 1))) (osI s)) => (show Calls Try.prog fn1 #[ar1, u] V (RefEnd d V) from by rw [hd]; exact hrt1'.out (till s J (y + 1)) (loose_till hs'.out hy.out.1.1 (by have := hy.out.1.2.1; omega) (by have := hy.out.1.2.2; omega)) (by rw [till_n]; exact hwf1'.out) V u hu))
                have hszo := Lib.hid (show w.heap.size < wo.heap.size by have := hlt.out; exact cell_in z0)
                have hd' := Lib.hid hd
                clear hd
                cases d with
                | true =>
                  go_upto_region 13 with fail
                  refine wp_region_noPanic ?_
                  refine wp_region_any (by kernel_rfl) (wpAny_of_held (S := fun w' => Below wo.heap.size wo w') _ _ _ _ ?_)
                  have hHeld : Below wo.heap.size wo wo.drew := (Below.refl _ _).drew
                  change wpAnyH _ _ _ _ _ _ _ _ wo.drew
                  simp only [List.size_toArray, List.length_cons, List.length_nil, Nat.reduceAdd, Array.replicate_succ, Array.replicate_zero, List.push_toArray, List.nil_append, List.cons_append]
                  refine wpAnyH_take (i := 0) (v := .iface ty1 ar1) rfl (by as_aux_lemma => kernel_rfl) (by as_aux_lemma => kernel_rfl) (by as_aux_lemma => kernel_rfl) (fun _ _ _ h => h) (Or.inl ⟨by rfl, ?_⟩) hHeld ?_
                  · intro w' hSw; go_simp
                  simp only [Act.put, List.setIfInBounds_toArray, List.set_cons_zero, List.set_cons_succ, List.getElem_toArray, List.getElem_cons_zero]
                  refine wpAnyH_take (i := 1) (v := .agg #[.int .i64 s.P, .slice ja n jc, .slice oa m oc]) rfl (by as_aux_lemma => kernel_rfl) (by as_aux_lemma => kernel_rfl) (by as_aux_lemma => kernel_rfl) (fun _ _ _ h => h) (Or.inl ⟨by rfl, ?_⟩) hHeld ?_
                  · intro w' hSw; have c0 := (hSw.cell (p := ⟨w.heap.size, 0, none⟩) hszo.out).trans z0; have c1 := (hSw.cell (p := ⟨w.heap.size, 1, none⟩) hszo.out).trans z1; have c2 := (hSw.cell (p := ⟨w.heap.size, 2, none⟩) hszo.out).trans z2; go_simp
                  simp only [Act.put, List.setIfInBounds_toArray, List.set_cons_zero, List.set_cons_succ, List.getElem_toArray, List.getElem_cons_succ, List.getElem_cons_zero]
                  refine wpAnyH_take (i := 2) (v := .int .i64 J) rfl (by as_aux_lemma => kernel_rfl) (by as_aux_lemma => kernel_rfl) (by as_aux_lemma => kernel_rfl) (fun _ _ _ h => h) (Or.inl ⟨by rfl, ?_⟩) hHeld ?_
                  · intro w' hSw; go_simp
                  simp only [Act.put, List.setIfInBounds_toArray, List.set_cons_zero, List.set_cons_succ, List.getElem_toArray, List.getElem_cons_succ, List.getElem_cons_zero]
                  refine wpAnyH_take (i := 3) (v := .int .i64 y) rfl (by as_aux_lemma => kernel_rfl) (by as_aux_lemma => kernel_rfl) (by as_aux_lemma => kernel_rfl) (fun _ _ _ h => h) (Or.inl ⟨by rfl, ?_⟩) hHeld ?_
                  · intro w' hSw; go_simp
                  simp only [Act.put, List.setIfInBounds_toArray, List.set_cons_zero, List.set_cons_succ, List.getElem_toArray, List.getElem_cons_succ, List.getElem_cons_zero]
                  refine wpAnyH_take (i := 4) (v := .int .i64 (y + 1)) rfl (by as_aux_lemma => kernel_rfl) (by as_aux_lemma => kernel_rfl) (by as_aux_lemma => kernel_rfl) (fun _ _ _ h => h) (Or.inl ⟨by rfl, ?_⟩) hHeld ?_
                  · intro w' hSw; go_simp
                  simp only [Act.put, List.setIfInBounds_toArray, List.set_cons_zero, List.set_cons_succ, List.getElem_toArray, List.getElem_cons_succ, List.getElem_cons_zero]
                  refine wpAnyH_take (i := 6) (v := .func (Fn.method "bolster/shaft.refutes") #[.iface ty1 ar1] #[]) rfl (by as_aux_lemma => kernel_rfl) (by as_aux_lemma => kernel_rfl) (by as_aux_lemma => kernel_rfl) (fun _ _ _ h => h) (Or.inl ⟨by rfl, ?_⟩) hHeld ?_
                  · intro w' hSw; go_simp
                  simp only [Act.put, List.setIfInBounds_toArray, List.set_cons_zero, List.set_cons_succ, List.getElem_toArray, List.getElem_cons_succ, List.getElem_cons_zero]
                  refine wpAnyH_take (i := 7) (v := .func (Fn.method "bolster/shaft.refutes") #[.iface ty1 ar1] #[]) rfl (by as_aux_lemma => kernel_rfl) (by as_aux_lemma => kernel_rfl) (by as_aux_lemma => kernel_rfl) (fun _ _ _ h => h) (Or.inl ⟨by rfl, ?_⟩) hHeld ?_
                  · intro w' hSw; go_simp
                  simp only [Act.put, List.setIfInBounds_toArray, List.set_cons_zero, List.set_cons_succ, List.getElem_toArray, List.getElem_cons_succ, List.getElem_cons_zero]
                  refine wpAnyH_take (i := 8) (v := .iface ty1 ar1) rfl (by as_aux_lemma => kernel_rfl) (by as_aux_lemma => kernel_rfl) (by as_aux_lemma => kernel_rfl) (fun _ _ _ h => h) (Or.inl ⟨by rfl, ?_⟩) hHeld ?_
                  · intro w' hSw; go_simp
                  simp only [Act.put, List.setIfInBounds_toArray, List.set_cons_zero, List.set_cons_succ, List.getElem_toArray, List.getElem_cons_succ, List.getElem_cons_zero]
                  refine wpAnyH_ready (rs := [5]) (by as_aux_lemma => kernel_rfl) (by simp) ?_
                  refine AllReadyH.cons rfl (fun K hK => ?_) AllReadyH.nil
                  have hV := Lib.hid (h61.out wo.drew (Below.refl _ _).drew)
                  go_simp
                  refine hV.out.mono ?_
                  rintro e wa ⟨u, rfl, hu, hba⟩
                  have hcu2 := Lib.hid (hinv.out wa u hu)
                  have hba' : Below wo.heap.size wo wa := (Below.refl wo.heap.size wo).drew.trans hba
                  refine hK.out _ _ hba' (fun hHeld => ?_)
                  clear hK K hV hba hu
                  simp only [List.setIfInBounds_toArray, List.set_cons_zero, List.set_cons_succ]
                  refine wpAnyH_ready (rs := [9]) (by as_aux_lemma => kernel_rfl) (by simp) ?_
                  refine AllReadyH.cons rfl (fun K hK => ?_) AllReadyH.nil
                  go_simp
                  refine hcu2.out.mono ?_
                  rintro e wk ⟨rfl, hbk⟩
                  have hbk' : Below wo.heap.size wo wk := hba'.trans (hbk.mono hba'.size)
                  refine hK.out _ _ hbk' (fun hHeld => ?_)
                  have hbk2 := Lib.hid hbk'
                  clear hK K hcu2 hbk hba' hbk' hHeld z0 z1 z2
                  simp only [List.setIfInBounds_toArray, List.set_cons_zero, List.set_cons_succ]
                  refine wpAnyH_done (by kernel_rfl) ?_ _
                  refine NoPanic.normal ?_
                  have hb7k := Lib.hid (hb.out.trans (hbk2.out.mono hb.out.size))
                  have hcy := Lib.hid (show Cutting s J (y + 1) from ⟨hy.out.1.1, by have := hy.out.1.2.1; omega, by
                    have h1 := hy.out.1.2.2
                    by_cases q : y + 1 < lat (s.job J)
                    · exact q
                    · have e : y + 1 = lat (s.job J) := by omega
                      have h2 := hd'.out
                      rw [e, till_lat hy.out.1.1, hd6'.out] at h2
                      cases h2⟩)
                  have hml := Lib.hid hy.out.1.2.2
                  go_wp2_with fail
                  go_roundw
                  case rel => exact ⟨y + 1, by go_num, by omega, Lib.hid ⟨hcy.out, hd'.out.symm⟩, hb7k⟩
                  case measure => simp [intOf]; have := hml.out; omega
                | false =>
                  go_upto_region 13 with fail
                  refine wp_region_noPanic ?_
                  refine wp_region_any (by kernel_rfl) (wpAny_of_held (S := fun w' => Below wo.heap.size wo w') _ _ _ _ ?_)
                  have hHeld : Below wo.heap.size wo wo.drew := (Below.refl _ _).drew
                  change wpAnyH _ _ _ _ _ _ _ _ wo.drew
                  simp only [List.size_toArray, List.length_cons, List.length_nil, Nat.reduceAdd, Array.replicate_succ, Array.replicate_zero, List.push_toArray, List.nil_append, List.cons_append]
                  refine wpAnyH_take (i := 0) (v := .iface ty1 ar1) rfl (by as_aux_lemma => kernel_rfl) (by as_aux_lemma => kernel_rfl) (by as_aux_lemma => kernel_rfl) (fun _ _ _ h => h) (Or.inl ⟨by rfl, ?_⟩) hHeld ?_
                  · intro w' hSw; go_simp
                  simp only [Act.put, List.setIfInBounds_toArray, List.set_cons_zero, List.set_cons_succ, List.getElem_toArray, List.getElem_cons_zero]
                  refine wpAnyH_take (i := 1) (v := .agg #[.int .i64 s.P, .slice ja n jc, .slice oa m oc]) rfl (by as_aux_lemma => kernel_rfl) (by as_aux_lemma => kernel_rfl) (by as_aux_lemma => kernel_rfl) (fun _ _ _ h => h) (Or.inl ⟨by rfl, ?_⟩) hHeld ?_
                  · intro w' hSw; have c0 := (hSw.cell (p := ⟨w.heap.size, 0, none⟩) hszo.out).trans z0; have c1 := (hSw.cell (p := ⟨w.heap.size, 1, none⟩) hszo.out).trans z1; have c2 := (hSw.cell (p := ⟨w.heap.size, 2, none⟩) hszo.out).trans z2; go_simp
                  simp only [Act.put, List.setIfInBounds_toArray, List.set_cons_zero, List.set_cons_succ, List.getElem_toArray, List.getElem_cons_succ, List.getElem_cons_zero]
                  refine wpAnyH_take (i := 2) (v := .int .i64 J) rfl (by as_aux_lemma => kernel_rfl) (by as_aux_lemma => kernel_rfl) (by as_aux_lemma => kernel_rfl) (fun _ _ _ h => h) (Or.inl ⟨by rfl, ?_⟩) hHeld ?_
                  · intro w' hSw; go_simp
                  simp only [Act.put, List.setIfInBounds_toArray, List.set_cons_zero, List.set_cons_succ, List.getElem_toArray, List.getElem_cons_succ, List.getElem_cons_zero]
                  refine wpAnyH_take (i := 3) (v := .int .i64 y) rfl (by as_aux_lemma => kernel_rfl) (by as_aux_lemma => kernel_rfl) (by as_aux_lemma => kernel_rfl) (fun _ _ _ h => h) (Or.inl ⟨by rfl, ?_⟩) hHeld ?_
                  · intro w' hSw; go_simp
                  simp only [Act.put, List.setIfInBounds_toArray, List.set_cons_zero, List.set_cons_succ, List.getElem_toArray, List.getElem_cons_succ, List.getElem_cons_zero]
                  refine wpAnyH_take (i := 4) (v := .int .i64 (y + 1)) rfl (by as_aux_lemma => kernel_rfl) (by as_aux_lemma => kernel_rfl) (by as_aux_lemma => kernel_rfl) (fun _ _ _ h => h) (Or.inl ⟨by rfl, ?_⟩) hHeld ?_
                  · intro w' hSw; go_simp
                  simp only [Act.put, List.setIfInBounds_toArray, List.set_cons_zero, List.set_cons_succ, List.getElem_toArray, List.getElem_cons_succ, List.getElem_cons_zero]
                  refine wpAnyH_take (i := 6) (v := .func (Fn.method "bolster/shaft.refutes") #[.iface ty1 ar1] #[]) rfl (by as_aux_lemma => kernel_rfl) (by as_aux_lemma => kernel_rfl) (by as_aux_lemma => kernel_rfl) (fun _ _ _ h => h) (Or.inl ⟨by rfl, ?_⟩) hHeld ?_
                  · intro w' hSw; go_simp
                  simp only [Act.put, List.setIfInBounds_toArray, List.set_cons_zero, List.set_cons_succ, List.getElem_toArray, List.getElem_cons_succ, List.getElem_cons_zero]
                  refine wpAnyH_take (i := 7) (v := .func (Fn.method "bolster/shaft.refutes") #[.iface ty1 ar1] #[]) rfl (by as_aux_lemma => kernel_rfl) (by as_aux_lemma => kernel_rfl) (by as_aux_lemma => kernel_rfl) (fun _ _ _ h => h) (Or.inl ⟨by rfl, ?_⟩) hHeld ?_
                  · intro w' hSw; go_simp
                  simp only [Act.put, List.setIfInBounds_toArray, List.set_cons_zero, List.set_cons_succ, List.getElem_toArray, List.getElem_cons_succ, List.getElem_cons_zero]
                  refine wpAnyH_take (i := 8) (v := .iface ty1 ar1) rfl (by as_aux_lemma => kernel_rfl) (by as_aux_lemma => kernel_rfl) (by as_aux_lemma => kernel_rfl) (fun _ _ _ h => h) (Or.inl ⟨by rfl, ?_⟩) hHeld ?_
                  · intro w' hSw; go_simp
                  simp only [Act.put, List.setIfInBounds_toArray, List.set_cons_zero, List.set_cons_succ, List.getElem_toArray, List.getElem_cons_succ, List.getElem_cons_zero]
                  refine wpAnyH_ready (rs := [5]) (by as_aux_lemma => kernel_rfl) (by simp) ?_
                  refine AllReadyH.cons rfl (fun K hK => ?_) AllReadyH.nil
                  have hV := Lib.hid (h61.out wo.drew (Below.refl _ _).drew)
                  go_simp
                  refine hV.out.mono ?_
                  rintro e wa ⟨u, rfl, hu, hba⟩
                  have hcu2 := Lib.hid (hinv.out wa u hu)
                  have hba' : Below wo.heap.size wo wa := (Below.refl wo.heap.size wo).drew.trans hba
                  refine hK.out _ _ hba' (fun hHeld => ?_)
                  clear hK K hV hba hu
                  simp only [List.setIfInBounds_toArray, List.set_cons_zero, List.set_cons_succ]
                  refine wpAnyH_ready (rs := [9]) (by as_aux_lemma => kernel_rfl) (by simp) ?_
                  refine AllReadyH.cons rfl (fun K hK => ?_) AllReadyH.nil
                  go_simp
                  refine hcu2.out.mono ?_
                  rintro e wk ⟨rfl, hbk⟩
                  have hbk' : Below wo.heap.size wo wk := hba'.trans (hbk.mono hba'.size)
                  refine hK.out _ _ hbk' (fun hHeld => ?_)
                  have hbk2 := Lib.hid hbk'
                  clear hK K hcu2 hbk hba' hbk' hHeld z0 z1 z2
                  simp only [List.setIfInBounds_toArray, List.set_cons_zero, List.set_cons_succ]
                  refine wpAnyH_done (by kernel_rfl) ?_ _
                  refine NoPanic.normal ?_
                  have hb7k := Lib.hid (hb.out.trans (hbk2.out.mono hb.out.size))
                  have hK8 := Lib.hid (hK7.out.trans (Kq.of_below hb7k.out))
                  have hR8 := Lib.hid (hR7.out.below hb7k.out)
                  have h70 := Lib.hid (after70 (hsh4.out wk hK8.out) (seven hs'.out) hJlt.out (x := y) (by omega))
                  have hcy := Lib.hid hy.out.1
                  have hrfy := Lib.hid hy.out.2
                  have hspy := Lib.hid (wt_split hcy.out.1 hcy.out.2.1 hcy.out.2.2)
                  have hdl := Lib.hid (dp_later (s := s) hcy.out.1 hcy.out.2.1)
                  have hwy1 := Lib.hid (wt_pos (fit_till hft'.out hcy.out.1 hcy.out.2.1))
                  have hwy2 := Lib.hid (wt_later_le (s := s) hcy.out.1 hxy)
                  have h50 := Lib.hid (fun (V : World) (u : Value) (hb : Below wk.heap.size wk V) (hu : ShV V u s.P (s.js.set J (afterJ (s.js.getD J J0) y)) (osI s)) => ih'.out V u (later s J y) rb L1 (by have := hspy.out; have := hwy1.out; have := hk'.out; omega)
                    (loose_later hs'.out hcy.out.1 hcy.out.2.1 hcy.out.2.2) (fit_later hft'.out hcy.out.1 hcy.out.2.2)
                    (fun ⟨S, hS⟩ => hno'.out ⟨S, ((sched_later hcy.out.1 (by have := hcy.out.2.1; omega) S).1 hS).1⟩) hu (hR8.out.below hb) (by have := hspl.out; have := hL0'.out; have := hB6.out; have := hwy2.out; omega) (by have := hB6.out; omega))
                  obtain ⟨z0, z1, z2⟩ := hbx4.out wk hK8.out
                  clear h61 hinv hyb s1 hmf hme1 hca1 hna1 hd' hszo hxy hy
                  go_upto_region 16 with (first
                    | (go_at_call 70; refine (h70.out).mono ?_; clear h70; rintro e W9 ⟨v2, rfl, hv2, hb9⟩; have h50' := Lib.hid (h50.out W9 v2 hb9 hv2); have hb9' := Lib.hid hb9; clear hv2 hb9)
                    | (go_at_call 50; refine (h50'.out).mono ?_; clear h50'; rintro e Wa ⟨o2, L2, rfl, hka, hra, b1, b2, blo, ht2, hn2⟩; have hlo2 := Lib.hid blo; have hka' := Lib.hid (hK8.out.trans ((Kq.of_below hb9'.out).trans hka)); have hra' := Lib.hid hra; have hBa := Lib.hid (And.intro b1 b2); have ht2' := Lib.hid ht2; have hn2' := Lib.hid hn2; clear hka hra b1 b2 blo ht2 hn2))
                  clear z0 z1 z2 h50 hb9'
                  rw [later_n] at ht2'
                  cases o2 with
                  | none =>
                    rw [show valO none = .nilIface from rfl]
                    go_wp2_with fail
                    go_ret
                    exact ⟨none, L2, rfl, (Kq.of_below hbw4.out).trans hka'.out, hra'.out, by have := hB6.out; have := hBa.out; have := hspl.out; have := hwy2.out; omega, by have := hB6.out; have := hBa.out; omega, ⟨fun h => absurd hLp (by omega), fun h => by
                      have h1 := hlo1.out.2 h; have h2 := hdt.out; have h3 := hdl.out; have h4 := hlo2.out
                      by_cases q : L1 ≤ 0
                      · have := h4.1 q; omega
                      · have := h4.2 (by omega); omega⟩, fun _ h => (by cases h), fun h => absurd rfl (hn2'.out (by have := hspl.out; have := hB6.out; have := hwy2.out; omega))⟩
                  | some t2 =>
                    obtain ⟨hrf2, hwf2, hle2⟩ := ht2'.out t2 rfl
                    obtain ⟨ty2, ar2, fn2, hvo2, hme2, hca2, hna2, hrt2⟩ := tree_pack t2
                    have hrf2' := Lib.hid hrf2
                    have hwf2' := Lib.hid hwf2
                    have hle2' := Lib.hid hle2
                    have hvo2' := Lib.hid hvo2
                    have hrt2' := Lib.hid hrt2
                    rw [hvo2]
                    clear hrf2 hwf2 hle2 hvo2 hrt2 ht2' hn2'
                    obtain ⟨z0, z1, z2⟩ := hbx4.out Wa hka'.out
                    have hla := Lib.hid (hrt2'.out s hs'.out hwf2'.out Wa _ (hsh4.out Wa hka'.out))
                    cases hda : rf t2 s
                    · rw [hda] at hla
                      have hda' := Lib.hid hda
                      clear hda
                      go_wp2_with (refine (hla.out).mono ?_; clear hla; rintro e Wb ⟨rfl, hbb⟩; have hbb' := Lib.hid hbb; clear hbb)
                      go_ret
                      refine ⟨some (.split J y t1 t2), L2, ?_, ((Kq.of_below hbw4.out).trans hka'.out).trans (Kq.of_below hbb'.out), hra'.out.below hbb'.out, by have := hB6.out; have := hBa.out; have := hspl.out; have := hwy2.out; omega, by have := hB6.out; have := hBa.out; omega, ⟨fun h => absurd hLp (by omega), fun h => by
                        have h1 := hlo1.out.2 h; have h2 := hdt.out; have h3 := hdl.out; have h4 := hlo2.out
                        by_cases q : L1 ≤ 0
                        · have := h4.1 q; omega
                        · have := h4.2 (by omega); omega⟩, fun u hu => ?_, fun _ => by simp⟩
                      · have e1 : t1.val = .iface ty1 ar1 := hvo1'.out
                        have e2 : t2.val = .iface ty2 ar2 := hvo2'.out
                        show _ = Ending.returned (Tr.val _)
                        rw [Tr.val, e1, e2]; rfl
                      · cases hu
                        refine ⟨?_, ⟨by omega, by have := hcy.out.1; omega, hwf1'.out, hwf2'.out⟩, ?_⟩
                        · simp only [rf, Int.toNat_natCast, Bool.and_eq_true, decide_eq_true_eq]
                          exact ⟨hcy.out.2.1, hcy.out.2.2, hrfy.out, hrf2'.out⟩
                        · simp only [Tr.leaves]; have := hle1'.out; have := hle2'.out; omega
                    · rw [hda] at hla
                      have hda' := Lib.hid hda
                      clear hda
                      go_wp2_with (refine (hla.out).mono ?_; clear hla; rintro e Wb ⟨rfl, hbb⟩; have hbb' := Lib.hid hbb; clear hbb)
                      go_ret
                      refine ⟨some t2, L2, by rw [hvo2'.out]; rfl, ((Kq.of_below hbw4.out).trans hka'.out).trans (Kq.of_below hbb'.out), hra'.out.below hbb'.out, by have := hB6.out; have := hBa.out; have := hspl.out; have := hwy2.out; omega, by have := hB6.out; have := hBa.out; omega, ⟨fun h => absurd hLp (by omega), fun h => by
                        have h1 := hlo1.out.2 h; have h2 := hdt.out; have h3 := hdl.out; have h4 := hlo2.out
                        by_cases q : L1 ≤ 0
                        · have := h4.1 q; omega
                        · have := h4.2 (by omega); omega⟩, fun u hu => ?_, fun _ => by simp⟩
                      cases hu
                      exact ⟨hda'.out, hwf2'.out, by have := hle2'.out; have := hB6.out; omega⟩
end Go.Proofs.Ytjkbhdlbomcbeaa
