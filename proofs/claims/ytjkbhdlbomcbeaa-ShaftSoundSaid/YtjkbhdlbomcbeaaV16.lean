import Derived.Test.YtjkbhdlbomcbeaaV14
import Derived.Test.YtjkbhdlbomcbeaaV9
import Derived.Test.YtjkbhdlbomcbeaaV13
import Derived.Deep.RegionHeld3
namespace Go.Proofs.Ytjkbhdlbomcbeaa
open Go.RowKit Go.Shelf Shf

/-- What a search for a leaf ends in. -/
def LeafIs (s : Sh) (o : Option Tr) : Prop :=
  (∃ t, o = some t ∧ rf t s = true ∧ WfT s.n s.os.length t ∧ t.leaves = 1) ∨ (o = none ∧ (∀ k, k < s.os.length → lateO s k = false) ∧ NoneB s.P s.js 24 0)
set_option maxHeartbeats 4000000 in
set_option maxRecDepth 100000 in
theorem leafNone67 {w : World} {v : Value} {s : Sh} (hs : Loose s) (h : ShV w v s.P s.js (osI s)) (hno : ∀ j, j < s.os.length → lateO s j = false) {f t : Int} {ok : Bool} (hov : OverIs s.P s.js f t ok) :
    Calls Try.prog 67 #[v] w fun e w' => e = .returned (if ok then .iface 124 (.agg #[.int .i64 f, .int .i64 t]) else .nilIface) ∧ Below w.heap.size w w' := by
  have hover := Lib.hid (fun (W : World) (hb : Below w.heap.size w W) => (overfull46 (w := W) (h.below hb) (seven hs) hs.power (job_in hs)).mono (R' := fun e w' => e = .returned (.tuple #[.int .i64 f, .int .i64 t, .bool ok]) ∧ Below W.heap.size W w') (by
    rintro e w' ⟨f', t', ok', rfl, h2, hb⟩
    obtain ⟨rfl, rfl, rfl⟩ := over_only h2 hov
    exact ⟨rfl, hb⟩))
  obtain ⟨jv, ov, rfl, rj, ro⟩ := h
  obtain ⟨ja, n, jc, rfl⟩ : ∃ a n c, jv = .slice a n c := by obtain ⟨a, c, e, _⟩ := rj; exact ⟨_, _, _, e⟩
  obtain ⟨oa, oc, rfl, hoc, hoat⟩ := ro.at
  obtain ⟨m, hm⟩ : ∃ m, m = (osI s).length := ⟨_, rfl⟩
  have hol : (osI s).length = s.os.length := by simp [osI]
  rw [← hm] at ro hoc hover ⊢
  have hm20 : m ≤ 20 := by have := hs.few; omega
  have hb0 := Lib.hid (below_alloc1 w (.cells #[.int .i64 s.P, .slice ja n jc, .slice oa m oc] 81))
  have ht0 := Lib.hid (Three.new w (.int .i64 s.P) (.slice ja n jc) (.slice oa m oc) 81)
  have hsz := Lib.hid (show (w.alloc (.cells #[.int .i64 s.P, .slice ja n jc, .slice oa m oc] 81)).heap.size = w.heap.size + 1 by simp)
  have hlate := Lib.hid (fun (W : World) (hb : Below w.heap.size w W) (j : Nat) (hj : j < s.os.length) (d : Bool) (hd : lateO s j = d) => late76 (w := W) (s := s) hs ⟨_, _, rfl, rj.below hb, ro.below hb⟩ hj hd)
  have hm' := Lib.hid hm
  have hol' := Lib.hid hol
  have hno' := Lib.hid hno
  clear hs rj ro hoat hm hol hno hov
  go_enter Try.func67, Try.ntmps67
  go_wp2_with fail
  obtain ⟨W1, hW1⟩ : ∃ W1, W1 = w.alloc (.cells #[.int .i64 s.P, .slice ja n jc, .slice oa m oc] 81) := ⟨_, rfl⟩
  rw [← hW1] at hb0 ht0 hsz ⊢
  clear hW1
  go_loopw [11] (fun iv wr => ∃ i : Nat, i ≤ m ∧ iv = .int .i64 i ∧ Hid (Below (w.heap.size + 1) W1 wr)) (fun iv _ => m - (intOf iv).toNat)
  case atStart => exact ⟨0, Nat.zero_le _, rfl, Lib.hid (Below.refl _ _)⟩
  case round =>
    obtain ⟨i, hi, rfl, hb⟩ := hrel
    obtain ⟨wo, rfl⟩ : ∃ wo : World, wo = wr := ⟨_, rfl⟩
    have hT := Lib.hid (ht0.out.keep hb.out (Nat.lt_succ_self _))
    obtain ⟨⟨z0, z1, z2⟩, -⟩ := hT.out
    by_cases him0 : i < m
    · have him : (i : Int) < (m : Int) := by omega
      have hsl := hb.out.size
      rw [hsz.out] at hsl
      have hW := Lib.hid (hb.out.alloc (by exact hsl) (.cells #[.int .i64 i] 126))
      have hWb := Lib.hid (hb0.out.trans (hW.out.mono (Nat.le_succ _)))
      have hc := Lib.hid (fun d hd => hlate.out _ hWb.out i (by have := hm'.out; have := hol'.out; omega) d hd)
      have hws := Lib.hid (show wo.heap.size < (wo.alloc (.cells #[.int .i64 i] 126)).heap.size by simp)
      have hc2 := Lib.hid (hc.out false (hno'.out i (by have := hm'.out; have := hol'.out; omega)))
      have hi' := Lib.hid him0
      clear him0 hi
      obtain ⟨⟨y0, y1, y2⟩, -⟩ := (hT.out.keep (below_alloc1 wo (.cells #[.int .i64 i] 126)) (by omega))
      go_wp2_with (
        go_at_call 76; refine (hc2.out).mono ?_; rintro e w2 ⟨rfl, hb2⟩
        have hb2' := Lib.hid (hW.out.trans (hb2.mono (by have := hW.out.size; rw [hsz.out] at this; exact this)))
        clear hb2)
      go_roundw
      case rel => exact ⟨i + 1, by have := hi'.out; omega, by go_num, hb2'⟩
      case measure => simp [intOf]; omega
    · have him : ¬ ((i : Int) < (m : Int)) := by omega
      have hbw := Lib.hid (hb0.out.trans (hb.out.mono (Nat.le_succ _)))
      have hoc := Lib.hid (hover.out wo hbw.out)
      clear him0
      cases ok
      all_goals
        go_wp2_with (
          go_at_call 46; refine (hoc.out).mono ?_; rintro e w2 ⟨rfl, hb2⟩
          have hb2' := Lib.hid (below_call hbw.out hb2)
          clear hb2)
        go_ret
        exact ⟨rfl, hb2'.out⟩
theorem leaf67 {w : World} {v : Value} {s : Sh} (hs : Loose s) (h : ShV w v s.P s.js (osI s)) : Calls Try.prog 67 #[v] w fun e w' => ∃ o, e = .returned (valO o) ∧ LeafIs s o ∧ Below w.heap.size w w' := by
  by_cases hl : ∃ k, k < s.os.length ∧ lateO s k = true
  · obtain ⟨k, hk, hd, hno⟩ : ∃ k, k < s.os.length ∧ lateO s k = true ∧ ∀ j, j < k → lateO s j = false := by
      obtain ⟨k, h1, h2⟩ := hl
      induction k using Nat.strongRecOn with
      | ind k ih =>
        by_cases hq : ∃ j, j < k ∧ lateO s j = true
        · obtain ⟨j, hj, hd⟩ := hq
          exact ih j hj (by omega) hd
        · exact ⟨k, h1, h2, fun j hj => by
            cases hd : lateO s j with
            | false => rfl
            | true => exact absurd ⟨j, hj, hd⟩ hq⟩
    refine (leafLate67 hs h hk hd hno).mono ?_
    rintro e w' ⟨rfl, hb⟩
    exact ⟨some (.late k), rfl, .inl ⟨_, rfl, by simp only [rf, Int.toNat_natCast]; exact hd, ⟨by omega, by omega⟩, rfl⟩, hb⟩
  · have hno : ∀ j, j < s.os.length → lateO s j = false := fun j hj => by
      cases hd : lateO s j with
      | false => rfl
      | true => exact absurd ⟨j, hj, hd⟩ hl
    rcases over_some s.P s.js with ⟨f, t, ho⟩ | ho
    · refine (leafNone67 hs h hno ho).mono ?_
      rintro e w' ⟨rfl, hb⟩
      rcases ho with ⟨_, a, b, rfl, rfl, h1, h2, h3, _⟩ | ⟨h1, _⟩
      · exact ⟨some (.energy a b), rfl, .inl ⟨_, rfl, h3, intB_iff.2 (by omega), rfl⟩, hb⟩
      · cases h1
    · refine (leafNone67 hs h hno ho).mono ?_
      rintro e w' ⟨rfl, hb⟩
      rcases ho with ⟨h1, _⟩ | ⟨_, _, _, h4⟩
      · cases h1
      · exact ⟨none, rfl, .inr ⟨rfl, hno, h4⟩, hb⟩
end Go.Proofs.Ytjkbhdlbomcbeaa

namespace Go.Proofs.Ytjkbhdlbomcbeaa
open Go.RowKit Go.Shelf Shf

theorem run_min2h {P : Program} {w : World} (ts : Array TypeId) (t : TypeId) (a b m : Int) (hm : m = min a b) : (Builtin.min_ ts t #[.int .i64 a, .int .i64 b]).run P w = .ok (.int .i64 m) w := by
  have e : (if b < a then b else a) = m := by rw [hm]; split <;> omega
  have h : (Builtin.min_ ts t #[.int .i64 a, .int .i64 b]).run P w = .ok (.int .i64 (if b < a then b else a)) w := by
    simp [Builtin.min_, Builtin.min2]
  rw [h, e]
theorem run_max2h {P : Program} {w : World} (ts : Array TypeId) (t : TypeId) (a b m : Int) (hm : m = max a b) : (Builtin.max_ ts t #[.int .i64 a, .int .i64 b]).run P w = .ok (.int .i64 m) w := by
  have e : (if a < b then b else a) = m := by rw [hm]; split <;> omega
  have h : (Builtin.max_ ts t #[.int .i64 a, .int .i64 b]).run P w = .ok (.int .i64 (if a < b then b else a)) w := by
    simp [Builtin.max_, Builtin.max2]
  rw [h, e]

/-- A time at which a job is split: both sides have times. -/
def Cutting (s : Sh) (J : Nat) (x : Int) : Prop := J < s.n ∧ (s.job J).f ≤ x ∧ x < lat (s.job J)
structure HInv (s : Sh) (i J : Nat) (x M : Int) : Prop where
  lo : 0 ≤ M
  hi : M ≤ 100000
  cut : 0 < M → Cutting s J x
  none : M = 0 → ∀ k, k < i → lat (s.job k) ≤ (s.job k).f
theorem HInv.keep {s : Sh} {i J : Nat} {x M : Int} (h : HInv s i J x M) (hi : M = 0 → lat (s.job i) ≤ (s.job i).f) : HInv s (i + 1) J x M :=
  ⟨h.lo, h.hi, h.cut, fun e k hk => by
    by_cases hki : k = i
    · rw [hki]; exact hi e
    · exact h.none e k (by omega)⟩
set_option maxHeartbeats 8000000 in
set_option maxRecDepth 100000 in
theorem halve69 {w : World} {v : Value} {s : Sh} (hs : Loose s) (h : ShV w v s.P s.js (osI s)) (hex : ∃ k, k < s.n ∧ (s.job k).f < lat (s.job k)) :
    Calls Try.prog 69 #[v] w fun e w' => ∃ (J : Nat) (x : Int), e = .returned (.tuple #[.int .i64 J, .int .i64 x]) ∧ Cutting s J x ∧ Below w.heap.size w w' := by
  obtain ⟨jv, ov, rfl, rj, ro⟩ := h
  obtain ⟨ja, jc, rfl, hjc, hjat⟩ := rj.at
  obtain ⟨oa, oc, rfl, hoc, -⟩ := ro.at
  obtain ⟨n, hn⟩ : ∃ n, n = s.js.length := ⟨_, rfl⟩
  obtain ⟨m, hm⟩ : ∃ m, m = (osI s).length := ⟨_, rfl⟩
  rw [← hn] at hjc hjat ⊢
  rw [← hm]
  have h7 : n ≤ 7 := by rw [hn]; exact Nat.le_succ_of_le hs.num.2
  have hb0 := Lib.hid (below_alloc1 w (.cells #[.int .i64 s.P, .slice ja n jc, .slice oa m oc] 81))
  have ht0 := Lib.hid (Three.new w (.int .i64 s.P) (.slice ja n jc) (.slice oa m oc) 81)
  have hsz := Lib.hid (show (w.alloc (.cells #[.int .i64 s.P, .slice ja n jc, .slice oa m oc] 81)).heap.size = w.heap.size + 1 by simp)
  have hrow := Lib.hid hjat
  have hjobs := Lib.hid (fun (q : Nat) (hq : q < n) => hs.jobs q (by rw [hn] at hq; exact hq))
  have hex' := Lib.hid (show ¬ ∀ k, k < n → lat (s.job k) ≤ (s.job k).f from fun h => by
    obtain ⟨k, h1, h2⟩ := hex
    have := h k (by rw [hn]; exact h1)
    omega)
  have hn' := Lib.hid hn
  clear hs rj ro hjat hn hm hex hoc
  go_enter Try.func69, Try.ntmps69
  go_wp2_with fail
  obtain ⟨W1, hW1⟩ : ∃ W1, W1 = w.alloc (.cells #[.int .i64 s.P, .slice ja n jc, .slice oa m oc] 81) := ⟨_, rfl⟩
  rw [← hW1] at hb0 ht0 hsz ⊢
  clear hW1
  obtain ⟨⟨z0, z1, z2⟩, -⟩ := ht0.out
  go_loopw [2, 3, 4, 11] (fun jv av mv iv wr => ∃ (i J : Nat) (x M : Int), i ≤ n ∧ iv = .int .i64 i ∧ jv = .int .i64 J ∧ av = .int .i64 x ∧ mv = .int .i64 M ∧ HInv s i J x M ∧ Hid (Below (w.heap.size + 1) W1 wr)) (fun _ _ _ iv _ => n - (intOf iv).toNat)
  case atStart => exact ⟨0, 0, 0, 0, Nat.zero_le _, rfl, rfl, rfl, rfl, ⟨by omega, by omega, fun h => by omega, fun _ k hk => by omega⟩, Lib.hid (Below.refl _ _)⟩
  case round =>
    obtain ⟨i, J, x, M, hi, rfl, rfl, rfl, rfl, hI, hb⟩ := hrel
    obtain ⟨wo, rfl⟩ : ∃ wo : World, wo = wr := ⟨_, rfl⟩
    have hI' := Lib.hid hI
    have hM0 := hI.lo
    have hM1 := hI.hi
    clear hI z0 z1 z2
    by_cases hin : i < n
    · have hin' : (i : Int) < (n : Int) := by omega
      obtain ⟨jg, rfl, hjg, p0, p1, p2, p3⟩ := hrow.out i hin
      have hJJ := hjobs.out i hin
      rw [show s.js.getD i J0 = s.job i from rfl] at p0 p1 p2 p3
      obtain ⟨⟨f, t, l, p⟩, hjj⟩ : ∃ y, y = s.job i := ⟨_, rfl⟩
      rw [← hjj] at hJJ p0 p1 p2 p3
      simp only at hJJ p0 p1 p2 p3
      have hbw := Lib.hid (hb0.out.trans (hb.out.mono (Nat.le_succ _)))
      have r0 := (hbw.out.cell (p := ⟨jg, i * 4, none⟩) hjg).trans p0
      have r1 := (hbw.out.cell (p := ⟨jg, i * 4 + 1, none⟩) hjg).trans p1
      have r2 := (hbw.out.cell (p := ⟨jg, i * 4 + 2, none⟩) hjg).trans p2
      have r3 := (hbw.out.cell (p := ⟨jg, i * 4 + 3, none⟩) hjg).trans p3
      have hT := Lib.hid (ht0.out.keep hb.out (Nat.lt_succ_self _))
      obtain ⟨⟨z0, z1, z2⟩, -⟩ := hT.out
      clear p0 p1 p2 p3
      have e38 := Lib.hid (show ∀ W, Calls Try.prog 38 #[.agg #[.int .i64 f, .int .i64 t, .int .i64 l, .int .i64 p]] W fun e w' => e = .returned (.int .i64 (t - l)) ∧ Below W.heap.size W w' from fun W => latest38 ⟨f, t, l, p⟩ (by simp only; omega))
      obtain ⟨pl, hpl⟩ : ∃ pl, pl = p * l := ⟨_, rfl⟩
      have hplb : 1 ≤ pl ∧ pl ≤ 480 := by
        rw [hpl]
        have h1 : 1 * 1 ≤ p * l := Int.mul_le_mul (by omega) (by omega) (by omega) (by omega)
        have h2 : p * l ≤ 20 * 24 := Int.mul_le_mul (by omega) (by omega) (by omega) (by omega)
        omega
      obtain ⟨g, hg⟩ : ∃ g, g = pl * (t - f) := ⟨_, rfl⟩
      have hgb : -11520 ≤ g ∧ g ≤ 11520 := by
        rw [hg]
        by_cases q : 0 ≤ t - f
        · have h1 : pl * (t - f) ≤ 480 * 24 := Int.mul_le_mul (by omega) (by omega) (by omega) (by omega)
          have h2 : 0 ≤ pl * (t - f) := Int.mul_nonneg (by omega) q
          omega
        · have h1 : pl * (-(t - f)) ≤ 480 * 24 := Int.mul_le_mul (by omega) (by omega) (by omega) (by omega)
          have h2 : 0 ≤ pl * (-(t - f)) := Int.mul_nonneg (by omega) (by omega)
          rw [Int.mul_neg] at h1 h2
          omega
      have hgp : f < t - l → 1 ≤ g := fun h => by
        rw [hg]
        have h1 : 1 * 1 ≤ pl * (t - f) := Int.mul_le_mul (by omega) (by omega) (by omega) (by omega)
        omega
      have s1 : IntKind.i64.wrap (p * l) = pl := by rw [← hpl]; exact IntWalk.i64_in _ (by omega)
      have s2 : IntKind.i64.wrap (t - f) = t - f := IntWalk.i64_in _ (by omega)
      have s3 : IntKind.i64.wrap (pl * (t - f)) = g := by rw [← hg]; exact IntWalk.i64_in _ (by omega)
      have hsl := hb.out.size
      rw [hsz.out] at hsl
      obtain ⟨W2, hW2⟩ : ∃ W2, W2 = wo.alloc (.cells #[.int .i64 f, .int .i64 t, .int .i64 l, .int .i64 p] 56) := ⟨_, rfl⟩
      have hW2b := Lib.hid (show Below wo.heap.size wo W2 by rw [hW2]; exact below_alloc1 _ _)
      have hbW := Lib.hid (hb.out.trans (hW2b.out.mono hsl))
      have hgs := Lib.hid (show wo.heap.size < W2.heap.size by rw [hW2]; simp)
      have q0 : W2.cell? ⟨wo.heap.size, 0, none⟩ = some (.int .i64 f) := by rw [hW2]; simp
      have q1 : W2.cell? ⟨wo.heap.size, 1, none⟩ = some (.int .i64 t) := by rw [hW2]; simp
      have q2 : W2.cell? ⟨wo.heap.size, 2, none⟩ = some (.int .i64 l) := by rw [hW2]; simp
      have q3 : W2.cell? ⟨wo.heap.size, 3, none⟩ = some (.int .i64 p) := by rw [hW2]; simp
      have hq0 := Lib.hid q0
      have hq1 := Lib.hid q1
      have hq2 := Lib.hid q2
      have hq3 := Lib.hid q3
      have hjj' := Lib.hid hjj
      clear hpl hg hplb hjj hsl q0 q1 q2 q3 hb
      go_upto_region 5 with fail
      rw [← hW2]
      clear hW2 r0 r1 r2 r3
      have q0 := hq0.out
      have q1 := hq1.out
      have q2 := hq2.out
      have q3 := hq3.out
      obtain ⟨cb, hcb⟩ : ∃ cb, cb = (decide (f < t - l) && decide (M < g)) := ⟨_, rfl⟩
      have hcb' := Lib.hid hcb
      clear hcb
      go_upto_region 6 with fail
      go_cut [36] from 27 to 36 (fun bv wx => ∃ w4 : World, w4 = wx ∧ bv = .bool cb ∧ Hid (Below W2.heap.size W2 w4))
      case first =>
        by_cases hfl : f < t - l
        · by_cases hMg : M < g
          · skip
            have d1 : decide (f < t - l) = true := by simp; omega
            have d2 : decide (M < g) = true := by simp; omega
            refine wp_region_noPanic ?_
            go_region_held3 (fun w' => w'.cell? ⟨wo.heap.size, 0, none⟩ = some (.int .i64 f) ∧ w'.cell? ⟨wo.heap.size, 1, none⟩ = some (.int .i64 t) ∧ w'.cell? ⟨wo.heap.size, 2, none⟩ = some (.int .i64 l) ∧ w'.cell? ⟨wo.heap.size, 3, none⟩ = some (.int .i64 p))
              (first
                | exact ⟨q0, q1, q2, q3⟩
                | exact ⟨(hbk'.cell (p := ⟨wo.heap.size, 0, none⟩) hgs.out).trans q0, (hbk'.cell (p := ⟨wo.heap.size, 1, none⟩) hgs.out).trans q1, (hbk'.cell (p := ⟨wo.heap.size, 2, none⟩) hgs.out).trans q2, (hbk'.cell (p := ⟨wo.heap.size, 3, none⟩) hgs.out).trans q3⟩)
              ((go_at_call 38; refine (e38.out _).mono ?_; rintro e wk ⟨rfl, hbk⟩; have hbk' := (Below.refl W2.heap.size W2).drew.trans hbk))
            all_goals refine NoPanic.normal ?_
            all_goals go_wp2_with fail
            all_goals go_meet
            all_goals exact ⟨_, rfl, by rw [hcb'.out, d1, d2]; rfl, Lib.hid hbk'⟩
          · skip
            have d1 : decide (f < t - l) = true := by simp; omega
            have d2 : decide (M < g) = false := by simp; omega
            refine wp_region_noPanic ?_
            go_region_held3 (fun w' => w'.cell? ⟨wo.heap.size, 0, none⟩ = some (.int .i64 f) ∧ w'.cell? ⟨wo.heap.size, 1, none⟩ = some (.int .i64 t) ∧ w'.cell? ⟨wo.heap.size, 2, none⟩ = some (.int .i64 l) ∧ w'.cell? ⟨wo.heap.size, 3, none⟩ = some (.int .i64 p))
              (first
                | exact ⟨q0, q1, q2, q3⟩
                | exact ⟨(hbk'.cell (p := ⟨wo.heap.size, 0, none⟩) hgs.out).trans q0, (hbk'.cell (p := ⟨wo.heap.size, 1, none⟩) hgs.out).trans q1, (hbk'.cell (p := ⟨wo.heap.size, 2, none⟩) hgs.out).trans q2, (hbk'.cell (p := ⟨wo.heap.size, 3, none⟩) hgs.out).trans q3⟩)
              ((go_at_call 38; refine (e38.out _).mono ?_; rintro e wk ⟨rfl, hbk⟩; have hbk' := (Below.refl W2.heap.size W2).drew.trans hbk))
            all_goals refine NoPanic.normal ?_
            all_goals go_wp2_with fail
            all_goals go_meet
            all_goals exact ⟨_, rfl, by rw [hcb'.out, d1, d2]; rfl, Lib.hid hbk'⟩
        · skip
          have d1 : decide (f < t - l) = false := by simp; omega
          refine wp_region_noPanic ?_
          refine wp_region_any (by kernel_rfl) (wpAny_of_held (S := fun w' => Below W2.heap.size W2 w') _ _ _ _ ?_)
          have hHeld : Below W2.heap.size W2 W2.drew := (Below.refl _ _).drew
          change wpAnyH _ _ _ _ _ _ _ _ W2.drew
          simp only [List.size_toArray, List.length_cons, List.length_nil, Nat.reduceAdd, Array.replicate_succ, Array.replicate_zero, List.push_toArray, List.nil_append, List.cons_append]
          refine wpAnyH_take (i := 0) (v := .pointer (some ⟨wo.heap.size, 0, none⟩)) rfl (by as_aux_lemma => kernel_rfl) (by as_aux_lemma => kernel_rfl) (by as_aux_lemma => kernel_rfl) (fun _ _ _ h => h) (Or.inl ⟨by rfl, ?_⟩) hHeld ?_
          · intro w' hSw; go_simp
          simp only [Act.put, List.setIfInBounds_toArray, List.set_cons_zero, List.set_cons_succ, List.getElem_toArray, List.getElem_cons_zero]
          refine wpAnyH_take (i := 1) (v := .int .i64 f) rfl (by as_aux_lemma => kernel_rfl) (by as_aux_lemma => kernel_rfl) (by as_aux_lemma => kernel_rfl) (fun _ _ _ h => h) (Or.inl ⟨by rfl, ?_⟩) hHeld ?_
          · intro w' hSw; have c0 := (hSw.cell (p := ⟨wo.heap.size, 0, none⟩) hgs.out).trans q0; go_simp
          simp only [Act.put, List.setIfInBounds_toArray, List.set_cons_zero, List.set_cons_succ, List.getElem_toArray, List.getElem_cons_succ, List.getElem_cons_zero]
          refine wpAnyH_take (i := 2) (v := .agg #[.int .i64 f, .int .i64 t, .int .i64 l, .int .i64 p]) rfl (by as_aux_lemma => kernel_rfl) (by as_aux_lemma => kernel_rfl) (by as_aux_lemma => kernel_rfl) (fun _ _ _ h => h) (Or.inl ⟨by rfl, ?_⟩) hHeld ?_
          · intro w' hSw; have c0 := (hSw.cell (p := ⟨wo.heap.size, 0, none⟩) hgs.out).trans q0; have c1 := (hSw.cell (p := ⟨wo.heap.size, 1, none⟩) hgs.out).trans q1; have c2 := (hSw.cell (p := ⟨wo.heap.size, 2, none⟩) hgs.out).trans q2; have c3 := (hSw.cell (p := ⟨wo.heap.size, 3, none⟩) hgs.out).trans q3; go_simp
          simp only [Act.put, List.setIfInBounds_toArray, List.set_cons_zero, List.set_cons_succ, List.getElem_toArray, List.getElem_cons_succ, List.getElem_cons_zero]
          refine wpAnyH_ready (rs := [3]) (by as_aux_lemma => kernel_rfl) (by simp) ?_
          refine AllReadyH.cons rfl (fun K hK => ?_) AllReadyH.nil
          have hV := e38.out W2.drew
          go_simp
          refine hV.mono ?_
          rintro e wk ⟨rfl, hbk⟩
          have hbk' : Below W2.heap.size W2 wk := (Below.refl W2.heap.size W2).drew.trans hbk
          refine hK.out _ _ hbk' (fun hHeld => ?_)
          clear hK K hV hbk
          simp only [List.setIfInBounds_toArray, List.set_cons_zero, List.set_cons_succ]
          refine wpAnyH_take (i := 4) (v := .bool false) rfl (by as_aux_lemma => kernel_rfl) (by as_aux_lemma => kernel_rfl) (by as_aux_lemma => kernel_rfl) (fun _ _ _ h => h) (Or.inl ⟨by rfl, ?_⟩) hHeld ?_
          · intro w' hSw; go_simp
          simp only [Act.put, List.setIfInBounds_toArray, List.set_cons_zero, List.set_cons_succ, List.getElem_toArray, List.getElem_cons_succ, List.getElem_cons_zero]
          refine wpAnyH_take (i := 5) (v := .bool false) rfl (by as_aux_lemma => kernel_rfl) (by as_aux_lemma => kernel_rfl) (by as_aux_lemma => kernel_rfl) (fun _ _ _ h => h) (Or.inl ⟨by rfl, ?_⟩) hHeld ?_
          · intro w' hSw; go_simp
          simp only [Act.put, List.setIfInBounds_toArray, List.set_cons_zero, List.set_cons_succ, List.getElem_toArray, List.getElem_cons_succ, List.getElem_cons_zero]
          refine wpAnyH_take (i := 6) (v := undef) rfl (by as_aux_lemma => kernel_rfl) (by as_aux_lemma => kernel_rfl) (by as_aux_lemma => kernel_rfl) (fun _ _ _ h => h) (Or.inr ⟨by rfl, rfl⟩) hHeld ?_
          simp only [Act.put, List.setIfInBounds_toArray, List.set_cons_zero, List.set_cons_succ, List.getElem_toArray, List.getElem_cons_succ, List.getElem_cons_zero]
          refine wpAnyH_take (i := 7) (v := undef) rfl (by as_aux_lemma => kernel_rfl) (by as_aux_lemma => kernel_rfl) (by as_aux_lemma => kernel_rfl) (fun _ _ _ h => h) (Or.inr ⟨by rfl, rfl⟩) hHeld ?_
          simp only [Act.put, List.setIfInBounds_toArray, List.set_cons_zero, List.set_cons_succ, List.getElem_toArray, List.getElem_cons_succ, List.getElem_cons_zero]
          refine wpAnyH_take (i := 8) (v := undef) rfl (by as_aux_lemma => kernel_rfl) (by as_aux_lemma => kernel_rfl) (by as_aux_lemma => kernel_rfl) (fun _ _ _ h => h) (Or.inr ⟨by rfl, rfl⟩) hHeld ?_
          simp only [Act.put, List.setIfInBounds_toArray, List.set_cons_zero, List.set_cons_succ, List.getElem_toArray, List.getElem_cons_succ, List.getElem_cons_zero]
          refine wpAnyH_take (i := 9) (v := .bool false) rfl (by as_aux_lemma => kernel_rfl) (by as_aux_lemma => kernel_rfl) (by as_aux_lemma => kernel_rfl) (fun _ _ _ h => h) (Or.inl ⟨by rfl, ?_⟩) hHeld ?_
          · intro w' hSw; go_simp
          simp only [Act.put, List.setIfInBounds_toArray, List.set_cons_zero, List.set_cons_succ, List.getElem_toArray, List.getElem_cons_succ, List.getElem_cons_zero]
          refine wpAnyH_done (by kernel_rfl) ?_ _
          refine NoPanic.normal ?_
          go_wp2_with fail
          go_meet
          exact ⟨_, rfl, by rw [hcb'.out, d1]; rfl, Lib.hid hbk'⟩
      case rest =>
        obtain ⟨w4, rfl, rfl, hb4⟩ := hcut
        have hb4w := Lib.hid (hbW.out.trans (hb4.out.mono (by have := hbW.out.size; rw [hsz.out] at this; exact this)))
        have c0 := (hb4.out.cell (p := ⟨wo.heap.size, 0, none⟩) hgs.out).trans q0
        have c1 := (hb4.out.cell (p := ⟨wo.heap.size, 1, none⟩) hgs.out).trans q1
        have c2 := (hb4.out.cell (p := ⟨wo.heap.size, 2, none⟩) hgs.out).trans q2
        have c3 := (hb4.out.cell (p := ⟨wo.heap.size, 3, none⟩) hgs.out).trans q3
        clear q0 q1 q2 q3
        cases cb with
        | true =>
          have hc : f < t - l ∧ M < g := by
            have := hcb'.out.symm
            simpa using this
          obtain ⟨h, hh⟩ : ∃ h, h = (f + (t - l)).tdiv 2 := ⟨_, rfl⟩
          have hhb : f ≤ h ∧ h < t - l := by
            rw [Int.tdiv_eq_ediv_of_nonneg (by omega)] at hh
            omega
          have s4 : IntKind.i64.wrap (f + (t - l)) = f + (t - l) := IntWalk.i64_in _ (by omega)
          have s5 : IntKind.i64.wrap h = h := IntWalk.i64_in _ (by omega)
          have s6 : IntKind.i64.wrap (f + l) = f + l := IntWalk.i64_in _ (by omega)
          have s7 : IntKind.i64.wrap (f + l - 1) = f + l - 1 := IntWalk.i64_in _ (by omega)
          have hh1 := hh.symm
          obtain ⟨y, hy⟩ : ∃ y, y = min h (f + l - 1) := ⟨_, rfl⟩
          have hmn := fun (W : World) => run_min2h (P := Try.prog) (w := W) #[3, 3] 3 h (f + l - 1) y hy
          have hcy := Lib.hid (show Cutting s i y from ⟨by show i < s.js.length; rw [← hn'.out]; exact hin, by rw [← hjj'.out]; show f ≤ y; omega, by rw [← hjj'.out]; show y < t - l; omega⟩)
          have hgpos := hgp hc.1
          have hw4 := Lib.hid (show wo.heap.size < w4.heap.size by have := hb4.out.size; have := hgs.out; omega)
          have hin2 := Lib.hid hin
          have hi2 := Lib.hid hi
          have hgb' := Lib.hid hgb
          clear hy hh hc hhb hM0 hM1 hb4 hgb hgp
          go_upto_region 7 with fail
          refine wp_region_noPanic ?_
          go_region_held3 (fun w' => w'.cell? ⟨wo.heap.size, 0, none⟩ = some (.int .i64 f) ∧ w'.cell? ⟨wo.heap.size, 1, none⟩ = some (.int .i64 t) ∧ w'.cell? ⟨wo.heap.size, 2, none⟩ = some (.int .i64 l) ∧ w'.cell? ⟨wo.heap.size, 3, none⟩ = some (.int .i64 p))
            (first
              | exact ⟨c0, c1, c2, c3⟩
              | exact ⟨(hbk'.cell (p := ⟨wo.heap.size, 0, none⟩) hw4.out).trans c0, (hbk'.cell (p := ⟨wo.heap.size, 1, none⟩) hw4.out).trans c1, (hbk'.cell (p := ⟨wo.heap.size, 2, none⟩) hw4.out).trans c2, (hbk'.cell (p := ⟨wo.heap.size, 3, none⟩) hw4.out).trans c3⟩)
            ((go_at_call 38; refine (e38.out _).mono ?_; rintro e wk ⟨rfl, hbk⟩; have hbk' := (Below.refl w4.heap.size w4).drew.trans hbk))
          all_goals refine NoPanic.normal ?_
          all_goals have hb5w := Lib.hid (hb4w.out.trans (hbk'.mono (by have := hb4w.out.size; rw [hsz.out] at this; exact this)))
          all_goals have sw8 : IntKind.i64.wrap ((i : Int) + 1) = (i : Int) + 1 := IntWalk.i64_in _ (by omega)
          all_goals go_wp2_with fail
          all_goals go_roundw
          case rel => exact ⟨i + 1, i, y, g, hin2.out, by go_num, rfl, rfl, rfl, ⟨by omega, by have := hgb'.out; omega, fun _ => hcy.out, fun e => by omega⟩, hb5w⟩
          case measure => simp [intOf]; omega
        | false =>
          have hc : ¬ (f < t - l ∧ M < g) := fun h => by
            have := hcb'.out
            simp [h.1, h.2] at this
          have hI2 := Lib.hid (hI'.out.keep (fun e => by rw [← hjj'.out]; show t - l ≤ f; by_cases q : f < t - l; (have := hgp q; omega); omega))
          have hin2 := Lib.hid hin
          clear hc hgp
          go_wp2_with fail
          go_roundw
          case rel => exact ⟨i + 1, J, x, M, hin2.out, by go_num, rfl, rfl, rfl, hI2.out, hb4w⟩
          case measure => simp [intOf]; omega
    · have hin' : ¬ ((i : Int) < (n : Int)) := by omega
      have hbE := Lib.hid (hb0.out.trans (hb.out.mono (Nat.le_succ _)))
      have hcut := Lib.hid (hI'.out.cut (by
        have h2 := hI'.out.none
        have h3 := hex'.out
        by_cases q : M = 0
        · exact absurd (fun k hk => h2 q k (by omega)) h3
        · omega))
      go_wp2_with fail
      go_ret2
      exact ⟨J, x, rfl, hcut.out, hbE.out⟩
end Go.Proofs.Ytjkbhdlbomcbeaa
