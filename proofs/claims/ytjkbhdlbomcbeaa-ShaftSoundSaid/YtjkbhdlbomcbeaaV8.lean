import Derived.Test.YtjkbhdlbomcbeaaV7
import Derived.Deep.RegionHeld3
import Derived.Deep.Cut
import Derived.Deep.CutRange
import Derived.Shelf.Abstract
namespace Go.Proofs.Ytjkbhdlbomcbeaa
open Go.RowKit Go.Shelf Shf

/-- The least schedule, as a slice. -/
def First43 (w : World) (s : Sh) (e : Ending) (w' : World) : Prop := ∃ v xs, e = .returned v ∧ Ints w' w.heap.size v xs ∧ xs.length = s.n ∧ First s (fun i => xs.getD i 0) ∧ Below w.heap.size w w'
theorem cbd_mono {c : Sh} (hs : Loose c) {k : Nat} (hk : k < c.n) {x y : Int} (h0 : (c.job k).f ≤ x) (hxy : x ≤ y) (hy : y ≤ lat (c.job k)) (h : cbd (till c k x) = true) : cbd (till c k y) = true := by
  obtain ⟨S, hS⟩ := (cbd_iff (loose_till hs hk h0 (by omega))).1 h
  have h2 := (sched_till hk (x := x) (by omega) S).1 hS
  exact (cbd_iff (loose_till hs hk (by omega) hy)).2 ⟨S, (sched_till hk hy S).2 ⟨h2.1, by omega⟩⟩
/-- What the search for a start brings. -/
theorem first_found {s c : Sh} {L : Nat → Int} {k N m : Nat} (h : Firsts s k L c) (hk : k < s.n) (hN : (c.job k).f + N = lat (c.job k)) (hm0 : Least (fun h => cbd (till c k ((c.job k).f + ((min h N : Nat) : Int)))) N m) (hL : L k = (c.job k).f + m) : Firsts s (k + 1) L (till c k ((c.job k).f + m)) := by
  have hk' : k < c.n := by rw [h.n]; exact hk
  have hm : Least (fun h => cbd (till c k ((c.job k).f + (h : Nat)))) N m := ⟨hm0.1, fun i hi => by have := hm0.2.1 i hi; dsimp only at this ⊢; rw [Nat.min_eq_left (by have := hm0.1; omega)] at this; exact this, fun hi => by have := hm0.2.2 hi; dsimp only at this ⊢; rw [Nat.min_eq_left (by omega)] at this; exact this⟩
  obtain ⟨h1, h2, h3⟩ := hm
  refine firsts_step h hk (by omega) (by omega) ?_ (fun y hy1 hy2 => ?_) hL
  · by_cases e : m < N
    · exact (cbd_iff (loose_till h.loose hk' (by omega) (by omega))).1 (h3 e)
    · obtain ⟨S, hS⟩ := h.some
      exact ⟨S, (sched_till hk' (by omega) S).2 ⟨hS, by have := (hS.range k hk').2; omega⟩⟩
  · rintro hS
    have := h2 (y - (c.job k).f).toNat (by omega)
    dsimp only at this
    rw [show (c.job k).f + ((y - (c.job k).f).toNat : Nat) = y by omega, Bool.eq_false_iff] at this
    exact this ((cbd_iff (loose_till h.loose hk' hy1 (by omega))).2 hS)
theorem sched_same {s : Sh} (ho : ∀ o ∈ s.os, o.1 < s.n ∧ o.2 < s.n ∧ o.1 ≠ o.2) {S T : Nat → Int} (h : Sched s S) (e : ∀ i, i < s.n → T i = S i) : Sched s T where
  range := fun i hi => by rw [e i hi]; exact h.range i hi
  load := fun t h1 h2 => by
    have : loadAt s T t = loadAt s S t := sm_congr _ fun i hi => by rw [e i hi]
    rw [this]; exact h.load t h1 h2
  order := fun o hm => by rw [e _ (ho o hm).1, e _ (ho o hm).2.1]; exact h.order o hm
theorem first_same {s : Sh} (ho : ∀ o ∈ s.os, o.1 < s.n ∧ o.2 < s.n ∧ o.1 ≠ o.2) {S T : Nat → Int} (h : First s S) (e : ∀ i, i < s.n → T i = S i) : First s T where
  is := sched_same ho h.is e
  least := fun U hU => by
    rcases h.least U hU with h1 | ⟨i, hi, h1, h2⟩
    · exact .inl fun i hi => by rw [e i hi]; exact h1 i hi
    · exact .inr ⟨i, hi, fun j hj => by rw [e j (by omega)]; exact h1 j hj, by rw [e i hi]; exact h2⟩
theorem firsts_same {s c : Sh} {k : Nat} {L L' : Nat → Int} (h : Firsts s k L c) (e : ∀ i, i < k → L' i = L i) : Firsts s k L' c where
  loose := h.loose
  n := h.n
  os := h.os
  P := h.P
  l := h.l
  rest := h.rest
  iff := fun S => by
    rw [h.iff S]
    exact ⟨fun ⟨a, b⟩ => ⟨a, fun i hi => by rw [e i hi]; exact b i hi⟩, fun ⟨a, b⟩ => ⟨a, fun i hi => by rw [← e i hi]; exact b i hi⟩⟩
  some := h.some
  least := fun S hS => by
    rcases h.least S hS with h1 | ⟨i, hi, h1, h2⟩
    · exact .inl fun i hi => by rw [e i hi]; exact h1 i hi
    · exact .inr ⟨i, hi, fun j hj => by rw [e j (by omega)]; exact h1 j hj, by rw [e i hi]; exact h2⟩
def CutF (W2 : World) (f : Int) (p : Nat → Bool) (N : Nat) (xv : Value) (wx : World) : Prop := ∃ (m : Nat) (w4 : World), m ≤ N ∧ w4 = wx ∧ xv = .int .i64 (f + m) ∧ Hid (Least p N m) ∧ Hid (Below W2.heap.size W2 w4)
structure First43Rel (w wr : World) (s : Sh) (oa : Option Addr) (m oc : Nat) (i : Nat) (sv : Value) (xs : List Int) (c : Sh) (ja : Option Addr) (jn jc : Nat) : Prop where
  ints : Ints wr (w.heap.size + 1) sv xs
  len : xs.length = i
  firsts : Firsts s i (fun i => xs.getD i 0) c
  three : Three wr w.heap.size (.int .i64 s.P) (.slice ja jn jc) (.slice oa m oc)
  rj : ReadsJ wr (.slice ja jn jc) c.js
  below : Below w.heap.size w wr
  size : w.heap.size + 1 ≤ wr.heap.size
  apart : ∀ g, ja = some ⟨g, 0, none⟩ → sv.ownBlock ≠ some g
theorem set_ne {js : List J} {i : Nat} {x : J} (h : i < js.length) : js.set i x ≠ [] := by
  intro e; have := congrArg List.length e; rw [List.length_set, List.length_nil] at this; omega
theorem readsJ_far {w w' : World} {ja : Option Addr} {n c : Nat} {js : List J} {v : Value} (h : ReadsJ w (.slice ja n c) js) (hk : ∀ g, g < w.heap.size → v.ownBlock ≠ some g → w'.heap[g]? = w.heap[g]?) (hs : w.heap.size ≤ w'.heap.size) (hap : ∀ g, ja = some ⟨g, 0, none⟩ → v.ownBlock ≠ some g) : ReadsJ w' (.slice ja n c) js := by
  obtain ⟨ao, c', e, hc, h⟩ := h
  obtain ⟨rfl, rfl, rfl⟩ : ja = ao ∧ n = js.length ∧ c = c' := by injection e with a b d; exact ⟨a, b, d⟩
  refine ⟨ja, c, rfl, hc, fun hne => ?_⟩
  obtain ⟨g, e2, hg, hcl⟩ := h hne
  exact ⟨g, e2, Nat.lt_of_lt_of_le hg hs, fun j u hj => (World.cell?_of_block (hk g hg (hap g e2))).trans (hcl j u hj)⟩
theorem first43_end {w w5 w6 : World} {s c' : Sh} {oa : Option Addr} {m oc i g6 n6 c6 : Nat} {v5 : Value} {ys : List Int} (hI : Ints w5 (w.heap.size + 1) v5 ys) (hl : ys.length = i) (hF : Firsts s i (fun i => ys.getD i 0) c') {x1 x2 : Value} (hT : Three w5 w.heap.size (.int .i64 s.P) x1 x2)
    (hO : OwnJ w6 w5.heap.size (.slice (some ⟨g6, 0, none⟩) n6 c6) c'.js) (hb : Below w5.heap.size w5 w6) (hB : Below w.heap.size w w5) (hs : w.heap.size + 1 ≤ w5.heap.size) (hg : w5.heap.size ≤ g6) :
    First43Rel w (((w6.setCell ⟨w.heap.size, 0, none⟩ (.int .i64 s.P)).setCell ⟨w.heap.size, 1, none⟩ (.slice (some ⟨g6, 0, none⟩) n6 c6)).setCell ⟨w.heap.size, 2, none⟩ (.slice oa m oc)) s oa m oc i v5 ys c' (some ⟨g6, 0, none⟩) n6 c6 := by
  have hb' := hb.size
  refine ⟨?_, hl, hF, (hT.keep hb (by omega)).stored, ?_, below_set (below_set (below_set (hB.trans (hb.mono hB.size)) (Nat.le_refl _)) (Nat.le_refl _)) (Nat.le_refl _), by simp; omega, fun g e h => ?_⟩
  · have h6 := hI.below hb
    exact ownsRow_setCell_below (ownsRow_setCell_below (ownsRow_setCell_below h6 (by show w.heap.size < _; omega) _) (by show w.heap.size < _; omega) _) (by show w.heap.size < _; omega) _
  · exact OwnJ.reads (B := w5.heap.size) (ownsRow_setCell_below (ownsRow_setCell_below (ownsRow_setCell_below hO (by show w.heap.size < _; omega) _) (by show w.heap.size < _; omega) _) (by show w.heap.size < _; omega) _)
  · obtain rfl : g6 = g := by injection e with e; injection e
    have := (World.ownsRow.lt hI g6 h).2
    omega
set_option maxHeartbeats 4000000 in
set_option maxRecDepth 100000 in
theorem first43 {w : World} {v : Value} {s : Sh} (hs : Loose s) (h : ShV w v s.P s.js (osI s)) (hsome : ∃ S, Sched s S) : Calls Try.prog 43 #[v] w (First43 w s) := by
  obtain ⟨jv, ov, rfl, rj, ro⟩ := h
  obtain ⟨ja, jc, rfl, hjc, hjat⟩ := rj.at
  obtain ⟨oa, oc, rfl, -, -⟩ := ro.at
  obtain ⟨m, hm⟩ : ∃ m, m = (osI s).length := ⟨_, rfl⟩
  rw [← hm] at ro ⊢
  have h6 := hs.num
  rw [show s.js.length = s.n from rfl] at hjat hjc rj ⊢
  obtain ⟨n, hn⟩ : ∃ n, n = s.n := ⟨_, rfl⟩
  rw [← hn] at hjat hjc h6 rj ⊢
  have hn' := Lib.hid hn
  have hjat' := Lib.hid hjat
  have ro' := Lib.hid ro
  have hs' := Lib.hid hs
  have hb0 := Lib.hid (below_alloc1 w (.cells #[.int .i64 s.P, .slice ja n jc, .slice oa m oc] 81))
  have ht0 := Lib.hid (Three.new w (.int .i64 s.P) (.slice ja n jc) (.slice oa m oc) 81)
  have hrel0 := Lib.hid (show First43Rel w (w.alloc (.cells #[.int .i64 s.P, .slice ja n jc, .slice oa m oc] 81)) s oa m oc 0 (.slice none 0 0) [] s ja n jc from
    ⟨Ints.nil _ _, rfl, firsts_zero hs hsome _, ht0.out, rj.below hb0.out, hb0.out, by simp, fun g _ => by simp [Value.ownBlock]⟩)
  clear hm hn hjat hs hsome rj ro
  go_enter Try.func43, Try.ntmps43
  go_wp2_with fail
  go_loopw [3, 10] (fun sv iv wr => ∃ i : Nat, ∃ xs c ja' jn' jc', i ≤ n ∧ iv = .int .i64 i ∧ Hid (First43Rel w wr s oa m oc i sv xs c ja' jn' jc')) (fun _ iv _ => n - (intOf iv).toNat)
  case atStart => exact ⟨0, [], s, ja, n, jc, Nat.zero_le _, rfl, hrel0⟩
  case round =>
    clear ht0 hb0 hrel0
    obtain ⟨i, xs, c, ja', jn', jc', hi, rfl, hR⟩ := hrel
    obtain ⟨sa, sc, rfl, -⟩ := hR.out.ints.shape
    obtain ⟨xn, hxn⟩ : ∃ xn, xn = xs.length := ⟨_, rfl⟩
    rw [← hxn] at hR ⊢
    have hxn' := Lib.hid hxn
    clear hxn
    by_cases hin : i < n
    · obtain ⟨g, rfl, hg, k0, k1, k2, k3⟩ := hjat'.out i hin
      have d0 := (hR.out.below.cell (p := ⟨g, i * 4, none⟩) hg).trans k0
      have d1 := (hR.out.below.cell (p := ⟨g, i * 4 + 1, none⟩) hg).trans k1
      have d2 := (hR.out.below.cell (p := ⟨g, i * 4 + 2, none⟩) hg).trans k2
      have d3 := (hR.out.below.cell (p := ⟨g, i * 4 + 3, none⟩) hg).trans k3
      have hjb := hs'.out.jobs i (by rw [← hn'.out]; exact hin)
      obtain ⟨⟨f, t, l, p⟩, hjq⟩ : ∃ j, j = s.js.getD i J0 := ⟨_, rfl⟩
      rw [show s.job i = s.js.getD i J0 from rfl] at hjb
      rw [← hjq] at d0 d1 d2 d3 hjb
      simp only at d0 d1 d2 d3 hjb
      have hjq' := Lib.hid (show c.job i = ⟨f, t, l, p⟩ by rw [hR.out.firsts.rest i (Nat.le_refl _)]; exact hjq.symm)
      have hin' : (i : Int) < (n : Int) := by omega
      clear k0 k1 k2 k3 hjq
      go_upto_region 5 with fail
      have hlat0 : lat ⟨f, t, l, p⟩ = t - l := rfl
      have hfl : f ≤ t - l := by
        obtain ⟨S, hS⟩ := hR.out.firsts.some
        have := hS.range i (by rw [hR.out.firsts.n, ← hn'.out]; exact hin)
        rw [hjq'.out, hlat0] at this
        simp only at this
        omega
      obtain ⟨N, hN⟩ : ∃ N : Nat, t - l - f = (N : Int) := ⟨(t - l - f).toNat, by omega⟩
      have hN30 : N ≤ 24 := by omega
      have e38 := Lib.hid (show ∀ W, Calls Try.prog 38 #[.agg #[.int .i64 f, .int .i64 t, .int .i64 l, .int .i64 p]] W fun e w' => e = .returned (.int .i64 (t - l)) ∧ Below W.heap.size W w' from fun W => latest38 ⟨f, t, l, p⟩ (by simp only; omega))
      obtain ⟨W2, hW2⟩ : ∃ W2, W2 = (wr.alloc (.cells #[.int .i64 i] 3)).alloc (.cells #[.int .i64 f, .int .i64 t, .int .i64 l, .int .i64 p] 56) := ⟨_, rfl⟩
      have hW2b := Lib.hid (show Below wr.heap.size wr W2 by rw [hW2]; exact (below_alloc1 _ _).alloc (by simp) _)
      have hW2s := Lib.hid (show W2.heap.size = wr.heap.size + 2 by rw [hW2]; simp)
      have q0 : W2.cell? ⟨wr.heap.size + 1, 0, none⟩ = some (.int .i64 f) := by rw [hW2]; simp
      have q1 : W2.cell? ⟨wr.heap.size + 1, 1, none⟩ = some (.int .i64 t) := by rw [hW2]; simp
      have q2 : W2.cell? ⟨wr.heap.size + 1, 2, none⟩ = some (.int .i64 l) := by rw [hW2]; simp
      have q3 : W2.cell? ⟨wr.heap.size + 1, 3, none⟩ = some (.int .i64 p) := by rw [hW2]; simp
      have q4 : W2.cell? ⟨wr.heap.size, 0, none⟩ = some (.int .i64 i) := by rw [hW2, (below_alloc1 _ _).cell (p := ⟨wr.heap.size, 0, none⟩) (by simp)]; simp
      rw [← hW2]
      clear hW2
      have hkc := Lib.hid (show i < c.n by rw [hR.out.firsts.n, ← hn'.out]; exact hin)
      have hmono := Lib.hid (show ∀ a b : Nat, a ≤ b → cbd (till c i ((c.job i).f + ((min a N : Nat) : Int))) = true → cbd (till c i ((c.job i).f + ((min b N : Nat) : Int))) = true from fun a b hab h =>
        cbd_mono hR.out.firsts.loose hkc.out (by omega) (by omega) (by rw [hjq'.out]; show f + _ ≤ t - l; omega) h)
      have hP0 := Lib.hid hR.out.firsts.P
      have hpre := Lib.hid (fun (W' : World) (hb : Below W2.heap.size W2 W') => (show W'.cell? ⟨w.heap.size, 0, none⟩ = some (.int .i64 s.P) ∧ W'.cell? ⟨w.heap.size, 1, none⟩ = some (.slice ja' jn' jc') ∧ W'.cell? ⟨w.heap.size, 2, none⟩ = some (.slice oa m oc) ∧ ReadsJ W' (.slice ja' jn' jc') c.js ∧ ReadsO W' (.slice oa m oc) (osI c) ∧
          W'.cell? ⟨wr.heap.size, 0, none⟩ = some (.int .i64 i) ∧ W'.cell? ⟨wr.heap.size + 1, 0, none⟩ = some (.int .i64 f) from by
        have hbr : Below wr.heap.size wr W' := hW2b.out.trans (hb.mono hW2b.out.size)
        have hT := hR.out.three.keep hbr (show w.heap.size < wr.heap.size by have := hR.out.size; omega)
        have hww : Below w.heap.size w W' := hR.out.below.trans (hbr.mono hR.out.below.size)
        have hos : osI c = osI s := by unfold osI; rw [hR.out.firsts.os]
        exact ⟨hT.1.1, hT.1.2.1, hT.1.2.2, hR.out.rj.below hbr, by rw [hos]; exact ro'.out.below hww,
          (hb.cell (p := ⟨wr.heap.size, 0, none⟩) (show wr.heap.size < W2.heap.size by rw [hW2s.out]; omega)).trans q4, (hb.cell (p := ⟨wr.heap.size + 1, 0, none⟩) (show wr.heap.size + 1 < W2.heap.size by rw [hW2s.out]; omega)).trans q0⟩))
      have hsr := Lib.hid (fun (W : World) (hb : Below W2.heap.size W2 W) => search59 (w := W) (N := N) (by omega) 60 #[.pointer (some ⟨w.heap.size, 0, none⟩), .pointer (some ⟨wr.heap.size, 0, none⟩), .pointer (some ⟨wr.heap.size + 1, 0, none⟩)] (enters_of Try.func60 (by kernel_rfl) rfl) (fun h => cbd (till c i ((c.job i).f + ((min h N : Nat) : Int))))
        hmono.out
        (fun W' h hb' hh => by
          have hp := hpre.out _ (hb.trans (hb'.mono hb.size))
          have := first60 (w := W') (i := h) (f := f) (jv := .slice ja' jn' jc') (ov := .slice oa m oc) hR.out.firsts.loose hkc.out (by rw [hP0.out]; exact hp.1) hp.2.1 hp.2.2.1 hp.2.2.2.1 hp.2.2.2.2.1 hp.2.2.2.2.2.1 hp.2.2.2.2.2.2 (by rw [hjq'.out]) (by rw [hjq'.out]; show f + _ ≤ t - l; omega)
          rw [Nat.min_eq_left (by omega), hjq'.out]
          exact this))
      have hgs : wr.heap.size + 1 < W2.heap.size := by rw [hW2s.out]; omega
      have hem := Lib.hid (fun (m : Nat) (h : m ≤ N) => (show IntKind.i64.wrap (f + (m : Int)) = f + m from IntWalk.i64_in _ (by omega)))
      have ew : IntKind.i64.wrap (t - l - f) = (N : Int) := by rw [hN]; exact IntWalk.i64_in _ (by omega)
      have hN' := Lib.hid hN
      have hlat' := Lib.hid hlat0
      clear hN hlat0 hfl
      go_cut [6] from 15 to 24 (fun xv wx => CutF W2 f (fun h => cbd (till c i ((c.job i).f + ((min h N : Nat) : Int)))) N xv wx)
      case first =>
       refine wp_region_noPanic ?_
       go_region_held3 (fun w' => w'.cell? ⟨wr.heap.size + 1, 0, none⟩ = some (.int .i64 f) ∧ w'.cell? ⟨wr.heap.size + 1, 1, none⟩ = some (.int .i64 t) ∧ w'.cell? ⟨wr.heap.size + 1, 2, none⟩ = some (.int .i64 l) ∧ w'.cell? ⟨wr.heap.size + 1, 3, none⟩ = some (.int .i64 p))
         (first
           | exact ⟨q0, q1, q2, q3⟩
           | exact ⟨r0, r1, r2, r3⟩
           | exact ⟨s0, s1, s2, s3⟩)
         (first
           | (go_at_call 38; refine (e38.out _).mono ?_; rintro e w3 ⟨rfl, hb3⟩
              have hb3' := (show Below W2.heap.size W2 W2.drew from (Below.refl _ _).drew).trans hb3
              have r0 := (hb3'.cell (p := ⟨wr.heap.size + 1, 0, none⟩) hgs).trans q0
              have r1 := (hb3'.cell (p := ⟨wr.heap.size + 1, 1, none⟩) hgs).trans q1
              have r2 := (hb3'.cell (p := ⟨wr.heap.size + 1, 2, none⟩) hgs).trans q2
              have r3 := (hb3'.cell (p := ⟨wr.heap.size + 1, 3, none⟩) hgs).trans q3
              have hc59 := Lib.hid (hsr.out _ hb3'))
           | (go_at_call 59; refine (hc59.out).mono ?_; rintro e w4 ⟨m', rfl, hm', hb4⟩
              have hb4' := hb3'.trans (hb4.mono hb3'.size)
              have s0 := (hb4'.cell (p := ⟨wr.heap.size + 1, 0, none⟩) hgs).trans q0
              have s1 := (hb4'.cell (p := ⟨wr.heap.size + 1, 1, none⟩) hgs).trans q1
              have s2 := (hb4'.cell (p := ⟨wr.heap.size + 1, 2, none⟩) hgs).trans q2
              have s3 := (hb4'.cell (p := ⟨wr.heap.size + 1, 3, none⟩) hgs).trans q3
              have hml := hm'.1
              have em := hem.out m' hml
              have hmo := Lib.hid hm'
              clear hm'))
       all_goals refine NoPanic.normal ?_
       all_goals go_wp2_with fail
       all_goals go_meet
       all_goals exact ⟨m', _, hml, rfl, rfl, hmo, Lib.hid hb4'⟩
      case' rest => obtain ⟨m', w4, hml, rfl, rfl, hmo, hb4h⟩ := hcut
      have hb4' := hb4h.out
      have hI4 := Lib.hid (show Ints w4 (w.heap.size + 1) (.slice sa xn sc) xs from hR.out.ints.below (hW2b.out.trans (hb4'.mono hW2b.out.size)))
      have hT4 := Lib.hid (hR.out.three.keep (hW2b.out.trans (hb4'.mono hW2b.out.size)) (show w.heap.size < wr.heap.size by have := hR.out.size; omega))
      have hB4 := Lib.hid (show Below w.heap.size w w4 from hR.out.below.trans ((hW2b.out.trans (hb4'.mono hW2b.out.size)).mono (by have := hR.out.size; omega)))
      have hJ4 := Lib.hid (hR.out.rj.below (hW2b.out.trans (hb4'.mono hW2b.out.size)))
      have hs4 := Lib.hid (show w.heap.size + 1 ≤ w4.heap.size from by have := hb4'.size; have := hW2b.out.size; have := hR.out.size; omega)
      have hn4 := Lib.hid (show wr.heap.size + 2 ≤ w4.heap.size from by have := hb4'.size; have := hW2s.out; omega)
      have hq4 := Lib.hid ((hb4'.cell (p := ⟨wr.heap.size, 0, none⟩) (show wr.heap.size < W2.heap.size by rw [hW2s.out]; omega)).trans q4)
      have hno := Lib.hid (show (Value.slice sa xn sc).ownBlock ≠ some wr.heap.size from fun e => absurd (World.ownsRow.lt hR.out.ints _ e).2 (Nat.lt_irrefl _))
      have hwr4 : wr.heap.size < w4.heap.size := by have := hn4.out; omega
      have hxs6 : xs.length ≤ 1000000 := by have := hR.out.len; omega
      clear q0 q1 q2 q3 q4 hb4' ew
      have hAp := Lib.hid hR.out.apart
      have hx0 : 0 ≤ f + (m' : Int) ∧ f + (m' : Int) ≤ 24 := by have := hN'.out; omega
      have hcl := Lib.hid (show c.js.length ≤ 7 ∧ i < c.js.length ∧ c.js.getD i J0 = ⟨f, t, l, p⟩ from ⟨by have := hR.out.firsts.loose.num; show c.n ≤ 7; omega, hkc.out, hjq'.out⟩)
      have hP := Lib.hid hR.out.firsts.P
      have hFi := Lib.hid (hR.out.firsts)
      have hlb : 1 ≤ l ∧ l ≤ 24 := by omega
      have hroW := Lib.hid (fun (W : World) (h : Below w.heap.size w W) => ro'.out.below h)
      go_wp2_with (
        first
        | (at_builtin; refine app_int_at hI4.out hxs6 hs4.out rfl _ _ rfl rfl rfl ?_; intro v5 w5 hI5 hb5 hk5 ho5
           have hI5' := Lib.hid hI5
           have hB5 := Lib.hid (hB4.out.trans (hb5.mono (Nat.le_succ _)))
           have hT5 := Lib.hid (hT4.out.keep hb5 (Nat.lt_succ_self _))
           have hs5 := Lib.hid (Nat.le_trans hs4.out hb5.size)
           have hJ5 := Lib.hid (readsJ_far hJ4.out hk5 hb5.size hAp.out)
           have hO5 := Lib.hid (hroW.out _ hB5.out)
           have q5 := (World.cell?_of_block (a := ⟨wr.heap.size, 0, none⟩) (hk5 wr.heap.size hwr4 hno.out)).trans hq4.out
           obtain ⟨⟨z0, z1, z2⟩, -⟩ := hT5.out
           have hu := Lib.hid (until61o (w := w5) (v := .agg #[.int .i64 s.P, .slice ja' jn' jc', .slice oa m oc]) (i := i) (x := f + (m' : Int)) ⟨_, rfl, hJ5.out, hO5.out⟩ hcl.out.1 hcl.out.2.1 (by omega) (by rw [hcl.out.2.2]; show -1000 ≤ l ∧ l ≤ 1000; omega))
           clear hI5 hb5 hk5 ho5)
        | (go_at_call 61; refine (hu.out).mono ?_; rintro e w6 ⟨jv6, rfl, hO6, hb6⟩
           obtain ⟨g6, c6, rfl, hc6, hB6, -⟩ := hO6.parts (set_ne hcl.out.2.1)
           rw [List.length_set] at hO6 ⊢
           have hO6' := Lib.hid hO6
           have hT6 := Lib.hid (hT5.out.keep hb6 (Nat.lt_of_lt_of_le (Nat.lt_succ_self _) hs5.out))
           obtain ⟨⟨y0, y1, y2⟩, yf⟩ := hT6.out
           have f0 := yf 0
           have f1 := yf 1
           have f2 := yf 2
           have hb6' := Lib.hid hb6
           have hB6' := Lib.hid hB6
           clear yf hO6 hb6 hc6 hB6))
      have hFe := Lib.hid (first_found (L := fun j => (xs ++ [f + (m' : Int)]).getD j 0) (N := N) (m := m') (firsts_same hFi.out (fun j hj => by
          have := hxn'.out; have h3 := hR.out.len
          rw [List.getD_eq_getElem?_getD, List.getD_eq_getElem?_getD, List.getElem?_append_left (by omega)])) (by rw [← hn'.out]; exact hin) (by rw [hjq'.out]; show f + (N : Int) = t - l; have := hN'.out; omega) hmo.out (by
          have h3 := hR.out.len
          rw [List.getD_eq_getElem?_getD, List.getElem?_append_right (by omega), show i - xs.length = 0 by omega, hjq'.out]; rfl))
      have hch : till c i ((c.job i).f + (m' : Int)) = till c i (f + (m' : Int)) := by rw [hjq'.out]
      rw [hch] at hFe
      have hfin := Lib.hid (first43_end (oa := oa) (m := m) (oc := oc) hI5'.out (show (xs ++ [f + (m' : Int)]).length = i + 1 by rw [List.length_append, hR.out.len]; rfl) hFe.out hT5.out (show OwnJ w6 w5.heap.size _ (till c i (f + (m' : Int))).js from hO6'.out) hb6'.out hB5.out hs5.out hB6'.out)
      clear hch
      go_roundw
      case rel => exact ⟨i + 1, _, _, _, _, _, by omega, by go_num, hfin⟩
      case measure => simp [intOf]; omega
    · obtain rfl : i = n := by omega
      go_wp2_with fail
      go_ret
      obtain ⟨S, hS, hSL⟩ := firsts_all (by rw [← hn'.out]; exact hR.out.firsts)
      refine ⟨_, xs, rfl, ?_, by rw [hR.out.len, hn'.out], ?_, hR.out.below⟩
      · have h := hR.out.ints.base (Nat.le_succ _)
        exact h
      · exact first_same hs'.out.orders hS (fun i hi => (hSL i hi).symm)
end Go.Proofs.Ytjkbhdlbomcbeaa

namespace Go.Proofs.Ytjkbhdlbomcbeaa
open Go.RowKit Go.Shelf Shf

/-- The least end, found. -/
def LeastEnd (s : Sh) (m : Nat) : Prop := m ≤ 24 ∧ (∃ S, Sched (ending s m) S) ∧ ∀ y : Nat, y < m → ¬ ∃ S, Sched (ending s y) S
def LeastEnd44 (w : World) (s : Sh) (e : Ending) (w' : World) : Prop := ∃ m : Nat, e = .returned (.int .i64 m) ∧ LeastEnd s m ∧ Below w.heap.size w w'
theorem cbd_end {s : Sh} (hs : Loose s) (m : Nat) : cbd (ending s m) = true ↔ ∃ S, Sched (ending s m) S := cbd_iff (loose_ending hs (by omega))
theorem end_mono {s : Sh} (hs : Loose s) {a b : Nat} (hab : a ≤ b) (h : cbd (ending s a) = true) : cbd (ending s b) = true := by
  obtain ⟨S, hS⟩ := (cbd_end hs a).1 h
  obtain ⟨h1, h2⟩ := (sched_ending hs.orders S).1 hS
  exact (cbd_end hs b).2 ⟨S, (sched_ending hs.orders S).2 ⟨h1, fun i hi => by have := h2 i hi; omega⟩⟩
theorem end_found {s : Sh} (hs : Loose s) (hsome : ∃ S, Sched s S) {m : Nat} (h : Least (fun e => cbd (ending s (e : Nat))) 24 m) : LeastEnd s m := by
  obtain ⟨h1, h2, h3⟩ := h
  refine ⟨h1, ?_, fun y hy he => ?_⟩
  · by_cases e : m < 24
    · exact (cbd_end hs m).1 (h3 e)
    · obtain ⟨S, hS⟩ := hsome
      refine ⟨S, (sched_ending hs.orders S).2 ⟨hS, fun i hi => ?_⟩⟩
      have a := hS.range i hi
      have b := hs.jobs i hi
      unfold lat at a
      omega
  · have := h2 y hy
    dsimp only at this
    rw [(cbd_end hs y).2 he] at this
    cases this
set_option maxHeartbeats 4000000 in
set_option maxRecDepth 100000 in
theorem leastEnd44 {w : World} {v : Value} {s : Sh} (hs : Loose s) (h : ShV w v s.P s.js (osI s)) (hsome : ∃ S, Sched s S) : Calls Try.prog 44 #[v] w (LeastEnd44 w s) := by
  obtain ⟨jv, ov, rfl, rj, ro⟩ := h
  obtain ⟨ja, n, jc, rfl⟩ : ∃ a n c, jv = .slice a n c := by obtain ⟨a, c, e, _⟩ := rj; exact ⟨_, _, _, e⟩
  obtain ⟨oa, m, oc, rfl⟩ : ∃ a n c, ov = .slice a n c := by obtain ⟨a, c, e, _⟩ := ro; exact ⟨_, _, _, e⟩
  have hb0 := Lib.hid (below_alloc1 w (.cells #[.int .i64 s.P, .slice ja n jc, .slice oa m oc] 81))
  have ht0 := Lib.hid (Three.new w (.int .i64 s.P) (.slice ja n jc) (.slice oa m oc) 81)
  obtain ⟨W, hW⟩ : ∃ W, W = w.alloc (.cells #[.int .i64 s.P, .slice ja n jc, .slice oa m oc] 81) := ⟨_, rfl⟩
  have hws : w.heap.size < W.heap.size := by rw [hW]; simp
  have hsr := Lib.hid (show Calls Try.prog 59 #[.int .i64 24, .func (.func 62) #[] #[.pointer (some ⟨w.heap.size, 0, none⟩)]] W (Srchd (fun e => cbd (ending s (e : Nat))) 24 W) from
    search59 (w := W) (N := 24) (by omega) 62 #[.pointer (some ⟨w.heap.size, 0, none⟩)] (enters_of Try.func62 (by kernel_rfl) rfl) (fun e => cbd (ending s (e : Nat))) (fun a b hab h => end_mono hs hab h)
      (fun W' h hb' hh => by
        have hT := ht0.out
        rw [← hW] at hT
        have hT' := hT.keep hb' hws
        have hbb := hb0.out
        rw [← hW] at hbb
        exact leastEnd62 (w := W') (i := h) hs hT'.1.1 hT'.1.2.1 hT'.1.2.2 ((rj.below hbb).below hb') ((ro.below hbb).below hb') (by omega)))
  have hef := Lib.hid (fun (m : Nat) (h : Least (fun e => cbd (ending s (e : Nat))) 24 m) => end_found hs hsome h)
  have hb1 := Lib.hid (show Below w.heap.size w W by rw [hW]; exact hb0.out)
  have hW' := Lib.hid hW
  clear hW hws ht0 hb0 rj ro hs hsome
  go_enter Try.func44, Try.ntmps44
  go_wp2_with fail
  rw [← hW'.out]
  refine hsr.out.mono ?_
  rintro e w1 ⟨k, rfl, hk, hb⟩
  have hk' := Lib.hid hk
  have hb' := Lib.hid (below_call hb1.out hb)
  clear hk hb
  go_wp2_with fail
  go_ret
  exact ⟨k, rfl, hef.out k hk'.out, hb'.out⟩
end Go.Proofs.Ytjkbhdlbomcbeaa

namespace Go.Proofs.Ytjkbhdlbomcbeaa
open Go.RowKit Go.Shelf Shf

/-- What First answers. -/
def FirstAns (P : Int) (js : List J) (os : List (Int × Int)) (xs : List Int) (err : Int) : Prop :=
  (validB P js os = false ∧ xs = [] ∧ err = 1) ∨ (validB P js os = true ∧ (((¬ ∃ S, Sched (shOf P js os) S) ∧ xs = [] ∧ err = 5) ∨ (xs.length = (shOf P js os).n ∧ First (shOf P js os) (fun i => xs.getD i 0) ∧ err = 0)))
def First21 (w : World) (P : Int) (js : List J) (os : List (Int × Int)) (e : Ending) (w' : World) : Prop := ∃ u xs err, e = .returned (.tuple #[u, .int .i64 err]) ∧ Ints w' w.heap.size u xs ∧ Below w.heap.size w w' ∧ FirstAns P js os xs err
theorem cbd_some {s : Sh} (hs : Loose s) {d : Bool} (h : cbd s = d) : (d = true → ∃ S, Sched s S) ∧ (d = false → ¬ ∃ S, Sched s S) :=
  ⟨fun e => (cbd_iff hs).1 (h.trans e), fun e he => by rw [(cbd_iff hs).2 he] at h; rw [← h] at e; cases e⟩
theorem new37' {w : World} {jv ov : Value} {P : Int} {js : List J} {os : List (Int × Int)} (hj : ReadsJ w jv js) (ho : ReadsO w ov os) (hj7 : js.length ≤ 7) (ho21 : os.length ≤ 21) {d : Bool} (hd : validB P js os = d) :
    Calls Try.prog 37 #[.agg #[.int .i64 P, jv, ov]] w fun e w' => e = .returned (.tuple #[.agg #[.int .i64 (if d then P else 0), if d then jv else .slice none 0 0, if d then ov else .slice none 0 0], .int .i64 (if d then 0 else 1)]) ∧ Below w.heap.size w w' := by
  subst hd; exact new37 hj ho hj7 ho21
set_option maxHeartbeats 4000000 in
set_option maxRecDepth 100000 in
theorem first21 {w : World} {v : Value} {P : Int} {js : List J} {os : List (Int × Int)} (h : ShV w v P js os) (h7 : js.length ≤ 7) (h21 : os.length ≤ 21) : Calls Try.prog 21 #[v] w (First21 w P js os) := by
  obtain ⟨jv, ov, rfl, rj, ro⟩ := h
  obtain ⟨ja, n, jc, rfl⟩ : ∃ a n c, jv = .slice a n c := by obtain ⟨a, c, e, _⟩ := rj; exact ⟨_, _, _, e⟩
  obtain ⟨oa, m, oc, rfl⟩ : ∃ a n c, ov = .slice a n c := by obtain ⟨a, c, e, _⟩ := ro; exact ⟨_, _, _, e⟩
  have hb0 := Lib.hid (below_alloc1 w (.cells #[.int .i64 P, .slice ja n jc, .slice oa m oc] 25))
  have hsh := Lib.hid (fun (W : World) (hb : Below w.heap.size w W) => (show ShV W (.agg #[.int .i64 P, .slice ja n jc, .slice oa m oc]) P js os from ⟨_, _, rfl, rj.below hb, ro.below hb⟩))
  have hnw := fun (d : Bool) (hd : validB P js os = d) => new37' (rj.below hb0.out) (ro.below hb0.out) h7 h21 hd
  cases hv : validB P js os with
  | false =>
    have hn := Lib.hid (hnw false hv)
    have hans := Lib.hid (show FirstAns P js os [] 1 from .inl ⟨hv, rfl, rfl⟩)
    clear hnw hv rj ro h7 h21
    go_enter Try.func21, Try.ntmps21
    go_wp2_with (go_at_call 37; refine (hn.out).mono ?_; rintro e w1 ⟨rfl, hb1⟩; have hb1' := Lib.hid (below_call hb0.out hb1); clear hb1)
    go_ret2
    exact ⟨_, [], 1, rfl, Ints.nil _ _, below_call hb1'.out (below_alloc1 _ _), hans.out⟩
  | true =>
    have hn := Lib.hid (hnw true hv)
    obtain ⟨hV, hos⟩ := valid_sh hv
    have hV' := Lib.hid hV
    have hos' := Lib.hid hos
    have hv' := Lib.hid hv
    obtain ⟨d, hd⟩ : ∃ d, cbd (shOf P js os) = d := ⟨_, rfl⟩
    have hcb := Lib.hid (cbd_some hV.loose hd)
    have hc := Lib.hid (fun (W : World) (hb : Below w.heap.size w W) => canBeDone42' (w := W) (s := shOf P js os) hV.loose (by rw [hos]; exact hsh.out W hb) hd)
    clear hnw hv rj ro h7 h21 hV hos hd
    cases d with
    | false =>
      have hans := Lib.hid (show FirstAns P js os [] 5 from .inr ⟨hv'.out, .inl ⟨hcb.out.2 rfl, rfl, rfl⟩⟩)
      go_enter Try.func21, Try.ntmps21
      go_wp2_with (
        first
        | (go_at_call 37; refine (hn.out).mono ?_; rintro e w1 ⟨rfl, hb1⟩
           have hb1' := Lib.hid (below_call (below_call hb0.out hb1) (below_alloc1 _ (.cells #[.int .i64 P, .slice ja n jc, .slice oa m oc] 81)))
           have hc1 := Lib.hid (hc.out _ hb1'.out)
           clear hb1)
        | (go_at_call 42; refine (hc1.out).mono ?_; rintro e w2 ⟨rfl, hb2⟩; have hb2' := Lib.hid (below_call hb1'.out hb2); clear hb2))
      go_ret2
      exact ⟨_, [], 5, rfl, Ints.nil _ _, hb2'.out, hans.out⟩
    | true =>
      have hsome := Lib.hid (hcb.out.1 rfl)
      have hf := Lib.hid (fun (W : World) (hb : Below w.heap.size w W) => first43 (w := W) (s := shOf P js os) hV'.out.loose (by rw [hos'.out]; exact hsh.out W hb) hsome.out)
      go_enter Try.func21, Try.ntmps21
      go_wp2_with (
        first
        | (go_at_call 37; refine (hn.out).mono ?_; rintro e w1 ⟨rfl, hb1⟩
           have hT1 := Lib.hid (Three.new w1 (.int .i64 P) (.slice ja n jc) (.slice oa m oc) 81)
           have hs1 := Lib.hid (show w1.heap.size < (w1.alloc (.cells #[.int .i64 P, .slice ja n jc, .slice oa m oc] 81)).heap.size by simp)
           have hb1' := Lib.hid (below_call (below_call hb0.out hb1) (below_alloc1 _ (.cells #[.int .i64 P, .slice ja n jc, .slice oa m oc] 81)))
           have hc1 := Lib.hid (hc.out _ hb1'.out)
           clear hb1)
        | (go_at_call 42; refine (hc1.out).mono ?_; rintro e w2 ⟨rfl, hb2⟩
           have hb2' := Lib.hid (below_call hb1'.out hb2)
           obtain ⟨⟨z0, z1, z2⟩, -⟩ := hT1.out.keep hb2 hs1.out
           have hf2 := Lib.hid (hf.out _ hb2'.out)
           clear hb2)
        | (go_at_call 43; refine (hf2.out).mono ?_; rintro e w3 ⟨u, xs, rfl, hI, hl, hF, hb3⟩
           have hb3' := Lib.hid (below_call hb2'.out hb3)
           have hI' := Lib.hid (hI.base hb2'.out.size)
           have hl' := Lib.hid hl
           have hF' := Lib.hid hF
           clear hI hl hF hb3))
      go_ret2
      exact ⟨_, xs, 0, rfl, hI'.out, hb3'.out, .inr ⟨hv'.out, .inr ⟨hl'.out, hF'.out, rfl⟩⟩⟩
end Go.Proofs.Ytjkbhdlbomcbeaa

namespace Go.Proofs.Ytjkbhdlbomcbeaa
open Go.RowKit Go.Shelf Shf

/-- What Short answers. -/
def ShortAns (P : Int) (js : List J) (os : List (Int × Int)) (xs : List Int) (en err : Int) : Prop :=
  (validB P js os = false ∧ xs = [] ∧ en = 0 ∧ err = 1) ∨ (validB P js os = true ∧ (((¬ ∃ S, Sched (shOf P js os) S) ∧ xs = [] ∧ en = 0 ∧ err = 5) ∨ (∃ m : Nat, LeastEnd (shOf P js os) m ∧ en = m ∧ xs.length = (shOf P js os).n ∧ First (ending (shOf P js os) m) (fun i => xs.getD i 0) ∧ err = 0)))
def Short22 (w : World) (P : Int) (js : List J) (os : List (Int × Int)) (e : Ending) (w' : World) : Prop := ∃ u xs en err, e = .returned (.tuple #[u, .int .i64 en, .int .i64 err]) ∧ Ints w' w.heap.size u xs ∧ Below w.heap.size w w' ∧ ShortAns P js os xs en err
set_option maxHeartbeats 4000000 in
set_option maxRecDepth 100000 in
theorem short22 {w : World} {v : Value} {P : Int} {js : List J} {os : List (Int × Int)} (h : ShV w v P js os) (h7 : js.length ≤ 7) (h21 : os.length ≤ 21) : Calls Try.prog 22 #[v] w (Short22 w P js os) := by
  obtain ⟨jv, ov, rfl, rj, ro⟩ := h
  obtain ⟨ja, n, jc, rfl⟩ : ∃ a n c, jv = .slice a n c := by obtain ⟨a, c, e, _⟩ := rj; exact ⟨_, _, _, e⟩
  obtain ⟨oa, m, oc, rfl⟩ : ∃ a n c, ov = .slice a n c := by obtain ⟨a, c, e, _⟩ := ro; exact ⟨_, _, _, e⟩
  have hb0 := Lib.hid (below_alloc1 w (.cells #[.int .i64 P, .slice ja n jc, .slice oa m oc] 25))
  have hsh := Lib.hid (fun (W : World) (hb : Below w.heap.size w W) => (show ShV W (.agg #[.int .i64 P, .slice ja n jc, .slice oa m oc]) P js os from ⟨_, _, rfl, rj.below hb, ro.below hb⟩))
  have hnw := fun (d : Bool) (hd : validB P js os = d) => new37' (rj.below hb0.out) (ro.below hb0.out) h7 h21 hd
  cases hv : validB P js os with
  | false =>
    have hn := Lib.hid (hnw false hv)
    have hans := Lib.hid (show ShortAns P js os [] 0 1 from .inl ⟨hv, rfl, rfl, rfl⟩)
    clear hnw hv rj ro h7 h21
    go_enter Try.func22, Try.ntmps22
    go_wp2_with (go_at_call 37; refine (hn.out).mono ?_; rintro e w1 ⟨rfl, hb1⟩; have hb1' := Lib.hid (below_call hb0.out hb1); clear hb1)
    go_ret3
    exact ⟨_, [], 0, 1, rfl, Ints.nil _ _, below_call hb1'.out (below_alloc1 _ _), hans.out⟩
  | true =>
    have hn := Lib.hid (hnw true hv)
    obtain ⟨hV, hos⟩ := valid_sh hv
    have hV' := Lib.hid hV
    have hos' := Lib.hid hos
    have hv' := Lib.hid hv
    have h7' := Lib.hid h7
    obtain ⟨d, hd⟩ : ∃ d, cbd (shOf P js os) = d := ⟨_, rfl⟩
    have hcb := Lib.hid (cbd_some hV.loose hd)
    have hc := Lib.hid (fun (W : World) (hb : Below w.heap.size w W) => canBeDone42' (w := W) (s := shOf P js os) hV.loose (by rw [hos]; exact hsh.out W hb) hd)
    clear hnw hv rj ro h7 h21 hV hos hd
    cases d with
    | false =>
      have hans := Lib.hid (show ShortAns P js os [] 0 5 from .inr ⟨hv'.out, .inl ⟨hcb.out.2 rfl, rfl, rfl, rfl⟩⟩)
      go_enter Try.func22, Try.ntmps22
      go_wp2_with (
        first
        | (go_at_call 37; refine (hn.out).mono ?_; rintro e w1 ⟨rfl, hb1⟩
           have hb1' := Lib.hid (below_call (below_call hb0.out hb1) (below_alloc1 _ (.cells #[.int .i64 P, .slice ja n jc, .slice oa m oc] 81)))
           have hc1 := Lib.hid (hc.out _ hb1'.out)
           clear hb1)
        | (go_at_call 42; refine (hc1.out).mono ?_; rintro e w2 ⟨rfl, hb2⟩; have hb2' := Lib.hid (below_call hb1'.out hb2); clear hb2))
      go_ret3
      exact ⟨_, [], 0, 5, rfl, Ints.nil _ _, hb2'.out, hans.out⟩
    | true =>
      have hsome := Lib.hid (hcb.out.1 rfl)
      have hl := Lib.hid (fun (W : World) (hb : Below w.heap.size w W) => leastEnd44 (w := W) (s := shOf P js os) hV'.out.loose (by rw [hos'.out]; exact hsh.out W hb) hsome.out)
      have hne := Lib.hid (show js ≠ [] from fun e => by have := hV'.out.loose.num.1; rw [show (shOf P js os).n = js.length from rfl, e] at this; simp at this)
      have he := Lib.hid (fun (W : World) (hb : Below w.heap.size w W) (x : Int) => ending45 (w := W) (hsh.out W hb) h7'.out hne.out x)
      have hf := Lib.hid (fun (W : World) (v : Value) (k : Nat) (hk : LeastEnd (shOf P js os) k) (hs : ShV W v P (js.map (capJ (k : Int))) os) => first43 (w := W) (v := v) (s := ending (shOf P js os) k) (loose_ending hV'.out.loose (by omega)) (by
        have : osI (ending (shOf P js os) k) = os := hos'.out
        rw [this]; exact hs) hk.2.1)
      go_enter Try.func22, Try.ntmps22
      go_wp2_with (
        first
        | (go_at_call 37; refine (hn.out).mono ?_; rintro e w1 ⟨rfl, hb1⟩
           have hT1 := Lib.hid (Three.new w1 (.int .i64 P) (.slice ja n jc) (.slice oa m oc) 81)
           have hs1 := Lib.hid (show w1.heap.size < (w1.alloc (.cells #[.int .i64 P, .slice ja n jc, .slice oa m oc] 81)).heap.size by simp)
           have hb1' := Lib.hid (below_call (below_call hb0.out hb1) (below_alloc1 _ (.cells #[.int .i64 P, .slice ja n jc, .slice oa m oc] 81)))
           have hc1 := Lib.hid (hc.out _ hb1'.out)
           clear hb1)
        | (go_at_call 42; refine (hc1.out).mono ?_; rintro e w2 ⟨rfl, hb2⟩
           have hb2' := Lib.hid (below_call hb1'.out hb2)
           have hT2 := Lib.hid (hT1.out.keep hb2 hs1.out)
           have hs2 := Lib.hid (Nat.lt_of_lt_of_le hs1.out hb2.size)
           obtain ⟨⟨z0, z1, z2⟩, -⟩ := hT2.out
           have hl2 := Lib.hid (hl.out _ hb2'.out)
           clear hb2)
        | (go_at_call 44; refine (hl2.out).mono ?_; rintro e w3 ⟨k, rfl, hk, hb3⟩
           have hb3' := Lib.hid (below_call hb2'.out hb3)
           obtain ⟨⟨y0, y1, y2⟩, -⟩ := hT2.out.keep hb3 hs2.out
           have hk' := Lib.hid hk
           have he3 := Lib.hid (he.out _ hb3'.out (k : Int))
           clear hk hb3)
        | (go_at_call 45; refine (he3.out).mono ?_; rintro e w4 ⟨v4, rfl, hv4, hb4⟩
           have hb4' := Lib.hid (below_call hb3'.out hb4)
           have hf4 := Lib.hid (hf.out _ _ k hk'.out hv4)
           clear hv4 hb4)
        | (go_at_call 43; refine (hf4.out).mono ?_; rintro e w5 ⟨u, xs, rfl, hI, hl, hF, hb5⟩
           have hb5' := Lib.hid (below_call hb4'.out hb5)
           have hI' := Lib.hid (hI.base hb4'.out.size)
           have hl' := Lib.hid hl
           have hF' := Lib.hid hF
           clear hI hl hF hb5))
      go_ret3
      exact ⟨_, xs, k, 0, rfl, hI'.out, hb5'.out, .inr ⟨hv'.out, .inr ⟨k, hk'.out, rfl, by rw [hl'.out, ending_n], hF'.out, rfl⟩⟩⟩
end Go.Proofs.Ytjkbhdlbomcbeaa
