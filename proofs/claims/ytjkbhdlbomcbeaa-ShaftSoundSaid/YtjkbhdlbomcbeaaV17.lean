import Derived.Test.YtjkbhdlbomcbeaaV16
import Derived.Test.YtjkbhdlbomcbeaaV13
namespace Go.Proofs.Ytjkbhdlbomcbeaa
open Go.RowKit Go.Shelf Shf

theorem cell_in {w : World} {g k : Nat} {v : Value} (h : w.cell? ⟨g, k, none⟩ = some v) : g < w.heap.size :=
  Nat.lt_of_not_le fun hc => by
    have : w.heap[g]? = none := Array.getElem?_eq_none hc
    simp [World.cell?, this] at h
/-- The spans of the jobs: where they may lie. -/
def SpanOk (s : Sh) (sp : List (Int × Int)) : Prop := sp.length = s.n ∧ ∀ i, i < s.n → (s.job i).f ≤ (sp.getD i (0, 0)).1 ∧ (sp.getD i (0, 0)).1 ≤ 100000 ∧ -100000 ≤ (sp.getD i (0, 0)).2 ∧ (sp.getD i (0, 0)).2 ≤ lat (s.job i)
def SpansEnd (w : World) (s : Sh) (e : Ending) (w' : World) : Prop := ∃ sv sp, e = .returned sv ∧ ReadsO w' sv sp ∧ SpanOk s sp ∧ Below w.heap.size w w'
def CutEnd (w : World) (s : Sh) (e : Ending) (w' : World) : Prop := ∃ (J : Nat) (x : Int) (ok : Bool), e = .returned (.tuple #[.int .i64 J, .int .i64 x, .bool ok]) ∧ (ok = true → Cutting s J x) ∧ Below w.heap.size w w'
structure CInv (s : Sh) (J : Nat) (x M : Int) : Prop where
  lo : 0 ≤ M
  hi : M ≤ 1000
  cut : 0 < M → Cutting s J x
set_option maxHeartbeats 8000000 in
set_option maxRecDepth 100000 in
theorem cut68 {w : World} {v : Value} {s : Sh} (hs : Loose s) (hft : Fit s) (h : ShV w v s.P s.js (osI s)) (h77 : ∀ W, Below w.heap.size w W → Calls Try.prog 77 #[v] W (SpansEnd W s)) :
    Calls Try.prog 68 #[v] w (CutEnd w s) := by
  obtain ⟨jv, ov, rfl, rj, ro⟩ := h
  obtain ⟨ja, jc, rfl, hjc, hjat⟩ := rj.at
  obtain ⟨oa, oc, rfl, hoc, -⟩ := ro.at
  obtain ⟨n, hn⟩ : ∃ n, n = s.js.length := ⟨_, rfl⟩
  obtain ⟨m, hm⟩ : ∃ m, m = (osI s).length := ⟨_, rfl⟩
  rw [← hn] at hjc hjat h77 ⊢
  rw [← hm] at h77 ⊢
  have h7 : n ≤ 7 := by rw [hn]; exact Nat.le_succ_of_le hs.num.2
  have hb0 := Lib.hid (below_alloc1 w (.cells #[.int .i64 s.P, .slice ja n jc, .slice oa m oc] 81))
  have ht0 := Lib.hid (Three.new w (.int .i64 s.P) (.slice ja n jc) (.slice oa m oc) 81)
  have hsz := Lib.hid (show (w.alloc (.cells #[.int .i64 s.P, .slice ja n jc, .slice oa m oc] 81)).heap.size = w.heap.size + 1 by simp)
  have hrow := Lib.hid hjat
  have hjobs := Lib.hid (fun (q : Nat) (hq : q < n) => hs.jobs q (by rw [hn] at hq; exact hq))
  have hfit := Lib.hid (fun (q : Nat) (hq : q < n) => hft q (by rw [hn] at hq; exact hq))
  have hn' := Lib.hid hn
  have h77' := Lib.hid (h77 _ hb0.out)
  clear hs hft rj ro hjat hn hm hoc h77
  go_enter Try.func68, Try.ntmps68
  go_upto_region 2 with fail
  obtain ⟨W1, hW1⟩ : ∃ W1, W1 = w.alloc (.cells #[.int .i64 s.P, .slice ja n jc, .slice oa m oc] 81) := ⟨_, rfl⟩
  rw [← hW1] at hb0 ht0 hsz h77' ⊢
  clear hW1
  obtain ⟨⟨z0, z1, z2⟩, -⟩ := ht0.out
  go_wp2_with (go_at_call 77; refine (h77'.out).mono ?_; clear h77'; rintro e W ⟨sv, sp, rfl, hsr, hso, hWb⟩; obtain ⟨sa, sc, rfl, hsc, hsat⟩ := hsr.at; have hsl := hso.1; rw [show s.n = n from hn'.out.symm] at hsl; rw [hsl] at hsc hsat ⊢; have hsat' := Lib.hid hsat; have hso' := Lib.hid hso.2; have hWb' := Lib.hid hWb; clear hsat hso hWb hsr)
  clear z0 z1 z2
  have hbW := Lib.hid (hb0.out.trans (hWb'.out.mono (by have := hsz.out; omega)))
  have hsW := Lib.hid (show w.heap.size + 1 ≤ W.heap.size by have := hWb'.out.size; have := hsz.out; omega)
  have hTW := Lib.hid (ht0.out.keep hWb'.out (by have := hsz.out; omega))
  clear ht0 hb0 hsz hWb'
  go_loopw [2, 3, 5, 14] (fun jv av mv iv wr => ∃ (i J : Nat) (x M : Int), i ≤ n ∧ iv = .int .i64 i ∧ jv = .int .i64 J ∧ av = .int .i64 x ∧ mv = .int .i64 M ∧ CInv s J x M ∧ Hid (Below W.heap.size W wr)) (fun _ _ _ iv _ => n - (intOf iv).toNat)
  case atStart => exact ⟨0, 0, 0, 0, Nat.zero_le _, rfl, rfl, rfl, rfl, ⟨by omega, by omega, fun h => by omega⟩, Lib.hid (Below.refl _ _)⟩
  case round =>
    obtain ⟨i, J, x, M, hi, rfl, rfl, rfl, rfl, hI, hb⟩ := hrel
    obtain ⟨wo, rfl⟩ : ∃ wo : World, wo = wr := ⟨_, rfl⟩
    have hI' := Lib.hid hI
    have hM0 := hI.lo
    have hM1 := hI.hi
    clear hI
    by_cases hin : i < n
    · have hin' : (i : Int) < (n : Int) := by omega
      obtain ⟨jg, rfl, hjg, p0, p1, p2, p3⟩ := hrow.out i hin
      obtain ⟨sg, rfl, hsg, a0, a1⟩ := hsat'.out i hin
      have hJJ := hjobs.out i hin
      have hff := hfit.out i hin
      have hspo := hso'.out i (by rw [show s.n = n from hn'.out.symm]; exact hin)
      rw [show s.js.getD i J0 = s.job i from rfl] at p0 p1 p2 p3
      obtain ⟨⟨sA, sB⟩, hsp⟩ : ∃ y, y = sp.getD i (0, 0) := ⟨_, rfl⟩
      rw [← hsp] at hspo a0 a1
      obtain ⟨⟨f, t, l, p⟩, hjj⟩ : ∃ y, y = s.job i := ⟨_, rfl⟩
      rw [← hjj] at hJJ hff hspo p0 p1 p2 p3
      unfold lat at hff hspo
      simp only at hJJ hff hspo p0 p1 p2 p3 a0 a1
      have hbw := Lib.hid (hbW.out.trans (hb.out.mono (by have := hsW.out; omega)))
      have r0 := (hbw.out.cell (p := ⟨jg, i * 4, none⟩) hjg).trans p0
      have r1 := (hbw.out.cell (p := ⟨jg, i * 4 + 1, none⟩) hjg).trans p1
      have r2 := (hbw.out.cell (p := ⟨jg, i * 4 + 2, none⟩) hjg).trans p2
      have r3 := (hbw.out.cell (p := ⟨jg, i * 4 + 3, none⟩) hjg).trans p3
      have b0 := (hb.out.cell (p := ⟨sg, i * 2, none⟩) hsg).trans a0
      have b1 := (hb.out.cell (p := ⟨sg, i * 2 + 1, none⟩) hsg).trans a1
      have hTo := Lib.hid (hTW.out.keep hb.out (by have := hsW.out; omega))
      clear p0 p1 p2 p3 a0 a1 hsp hjg hsg
      have e38 := Lib.hid (show ∀ W, Calls Try.prog 38 #[.agg #[.int .i64 f, .int .i64 t, .int .i64 l, .int .i64 p]] W fun e w' => e = .returned (.int .i64 (t - l)) ∧ Below W.heap.size W w' from fun W => latest38 ⟨f, t, l, p⟩ (by simp only; omega))
      obtain ⟨E0, hE0⟩ : ∃ E, E = min sA (t - l) := ⟨_, rfl⟩
      obtain ⟨L0, hL0⟩ : ∃ L, L = max sB f := ⟨_, rfl⟩
      have hEb : f ≤ E0 ∧ E0 ≤ t - l := by omega
      have hLb : f ≤ L0 ∧ L0 ≤ t - l := by omega
      have hmn := fun (W : World) => run_min2h (P := Try.prog) (w := W) #[3, 3] 3 sA (t - l) E0 hE0
      have hmx := fun (W : World) => run_max2h (P := Try.prog) (w := W) #[3, 3] 3 sB f L0 hL0
      have s1 : IntKind.i64.wrap (E0 - f) = E0 - f := IntWalk.i64_in _ (by omega)
      have s2 : IntKind.i64.wrap (t - l - L0) = t - l - L0 := IntWalk.i64_in _ (by omega)
      have s3 : IntKind.i64.wrap (f + (E0 - f)) = E0 := by rw [show f + (E0 - f) = E0 by omega]; exact IntWalk.i64_in _ (by omega)
      have s4 : IntKind.i64.wrap (E0 - 1) = E0 - 1 := IntWalk.i64_in _ (by omega)
      have s5 : IntKind.i64.wrap (t - l - (t - l - L0)) = L0 := by rw [show t - l - (t - l - L0) = L0 by omega]; exact IntWalk.i64_in _ (by omega)
      have s6 : IntKind.i64.wrap ((i : Int) + 1) = (i : Int) + 1 := IntWalk.i64_in _ (by omega)
      have hcE := Lib.hid (show f < E0 → CInv s i (E0 - 1) (E0 - f) from fun h => ⟨by omega, by omega, fun _ => ⟨by show i < s.js.length; rw [← hn'.out]; exact hin, by rw [← hjj]; show f ≤ E0 - 1; omega, by rw [← hjj]; show E0 - 1 < t - l; omega⟩⟩)
      have hcL := Lib.hid (show L0 < t - l → CInv s i L0 (t - l - L0) from fun h => ⟨by omega, by omega, fun _ => ⟨by show i < s.js.length; rw [← hn'.out]; exact hin, by rw [← hjj]; show f ≤ L0; omega, by rw [← hjj]; show L0 < t - l; omega⟩⟩)
      have hsl2 := hb.out.size
      obtain ⟨W2, hW2⟩ : ∃ W2, W2 = (wo.alloc (.cells #[.int .i64 sA, .int .i64 sB] 139)).alloc (.cells #[.int .i64 f, .int .i64 t, .int .i64 l, .int .i64 p] 56) := ⟨_, rfl⟩
      have hW2b := Lib.hid (show Below wo.heap.size wo W2 by rw [hW2]; exact (below_alloc1 _ _).alloc (by simp) _)
      have hbW2 := Lib.hid (hb.out.trans (hW2b.out.mono hsl2))
      have hgs := Lib.hid (show wo.heap.size + 1 < W2.heap.size by rw [hW2]; simp)
      have q0 : W2.cell? ⟨wo.heap.size + 1, 0, none⟩ = some (.int .i64 f) := by rw [hW2, World.cell?_alloc_at (hn := by simp)]; rfl
      have q1 : W2.cell? ⟨wo.heap.size + 1, 1, none⟩ = some (.int .i64 t) := by rw [hW2, World.cell?_alloc_at (hn := by simp)]; rfl
      have q2 : W2.cell? ⟨wo.heap.size + 1, 2, none⟩ = some (.int .i64 l) := by rw [hW2, World.cell?_alloc_at (hn := by simp)]; rfl
      have q3 : W2.cell? ⟨wo.heap.size + 1, 3, none⟩ = some (.int .i64 p) := by rw [hW2, World.cell?_alloc_at (hn := by simp)]; rfl
      have q4 : W2.cell? ⟨wo.heap.size, 0, none⟩ = some (.int .i64 sA) := by rw [hW2, (below_alloc1 _ _).cell (p := ⟨wo.heap.size, 0, none⟩) (by simp), World.cell?_alloc_at (hn := rfl)]; rfl
      have q5 : W2.cell? ⟨wo.heap.size, 1, none⟩ = some (.int .i64 sB) := by rw [hW2, (below_alloc1 _ _).cell (p := ⟨wo.heap.size, 1, none⟩) (by simp), World.cell?_alloc_at (hn := rfl)]; rfl
      have hq := Lib.hid (And.intro q0 (And.intro q1 (And.intro q2 (And.intro q3 (And.intro q4 q5)))))
      have hi2 := Lib.hid hin
      clear hjj hspo hff hsl2 q0 q1 q2 q3 q4 q5 hE0 hL0 hJJ
      obtain ⟨⟨y0, y1, y2⟩, -⟩ := hTo.out
      have y1' := Lib.hid y1
      go_upto_region 5 with fail
      have y1b := ((below_alloc1 wo (.cells #[.int .i64 sA, .int .i64 sB] 139)).cell (p := ⟨w.heap.size, 1, none⟩) (by show w.heap.size < wo.heap.size; have := hb.out.size; have := hsW.out; omega)).trans y1'.out
      have t0 := ((below_alloc1 wo (.cells #[.int .i64 sA, .int .i64 sB] 139)).cell (p := ⟨jg, i * 4, none⟩) (cell_in r0)).trans r0
      have t1 := ((below_alloc1 wo (.cells #[.int .i64 sA, .int .i64 sB] 139)).cell (p := ⟨jg, i * 4 + 1, none⟩) (cell_in r0)).trans r1
      have t2 := ((below_alloc1 wo (.cells #[.int .i64 sA, .int .i64 sB] 139)).cell (p := ⟨jg, i * 4 + 2, none⟩) (cell_in r0)).trans r2
      have t3 := ((below_alloc1 wo (.cells #[.int .i64 sA, .int .i64 sB] 139)).cell (p := ⟨jg, i * 4 + 3, none⟩) (cell_in r0)).trans r3
      clear r0 r1 r2 r3 b0 b1 y0 y1 y2
      go_upto_region 6 with fail
      rw [← hW2]
      clear hW2 t0 t1 t2 t3 y1b
      obtain ⟨q0, q1, q2, q3, q4, q5⟩ := hq.out
      go_cut [9] from 24 to 31 (fun ev wx => ∃ w4 : World, w4 = wx ∧ ev = .int .i64 (E0 - f) ∧ Hid (Below W2.heap.size W2 w4))
      case first =>
        refine wp_region_noPanic ?_
        go_region_held3 (fun w' => w'.cell? ⟨wo.heap.size + 1, 0, none⟩ = some (.int .i64 f) ∧ w'.cell? ⟨wo.heap.size + 1, 1, none⟩ = some (.int .i64 t) ∧ w'.cell? ⟨wo.heap.size + 1, 2, none⟩ = some (.int .i64 l) ∧ w'.cell? ⟨wo.heap.size + 1, 3, none⟩ = some (.int .i64 p) ∧ w'.cell? ⟨wo.heap.size, 0, none⟩ = some (.int .i64 sA) ∧ w'.cell? ⟨wo.heap.size, 1, none⟩ = some (.int .i64 sB))
          (first
            | exact ⟨q0, q1, q2, q3, q4, q5⟩
            | exact ⟨(hbk'.cell (p := ⟨wo.heap.size + 1, 0, none⟩) hgs.out).trans q0, (hbk'.cell (p := ⟨wo.heap.size + 1, 1, none⟩) hgs.out).trans q1, (hbk'.cell (p := ⟨wo.heap.size + 1, 2, none⟩) hgs.out).trans q2, (hbk'.cell (p := ⟨wo.heap.size + 1, 3, none⟩) hgs.out).trans q3, (hbk'.cell (p := ⟨wo.heap.size, 0, none⟩) (Nat.lt_of_succ_lt hgs.out)).trans q4, (hbk'.cell (p := ⟨wo.heap.size, 1, none⟩) (Nat.lt_of_succ_lt hgs.out)).trans q5⟩)
          ((go_at_call 38; refine (e38.out _).mono ?_; rintro e wk ⟨rfl, hbk⟩; have hbk' := (Below.refl W2.heap.size W2).drew.trans hbk))
        all_goals refine NoPanic.normal ?_
        all_goals go_wp2_with fail
        all_goals go_meet
        all_goals exact ⟨_, rfl, rfl, Lib.hid hbk'⟩
      case rest =>
        obtain ⟨w4, rfl, rfl, hb4⟩ := hcut
        have c0 := (hb4.out.cell (p := ⟨wo.heap.size + 1, 0, none⟩) hgs.out).trans q0
        have c1 := (hb4.out.cell (p := ⟨wo.heap.size + 1, 1, none⟩) hgs.out).trans q1
        have c2 := (hb4.out.cell (p := ⟨wo.heap.size + 1, 2, none⟩) hgs.out).trans q2
        have c3 := (hb4.out.cell (p := ⟨wo.heap.size + 1, 3, none⟩) hgs.out).trans q3
        have c4 := (hb4.out.cell (p := ⟨wo.heap.size, 0, none⟩) (Nat.lt_of_succ_lt hgs.out)).trans q4
        have c5 := (hb4.out.cell (p := ⟨wo.heap.size, 1, none⟩) (Nat.lt_of_succ_lt hgs.out)).trans q5
        have hb4w := Lib.hid (hbW2.out.trans (hb4.out.mono hbW2.out.size))
        have hw4 := Lib.hid (show wo.heap.size + 1 < w4.heap.size by have := hb4.out.size; have := hgs.out; omega)
        clear q0 q1 q2 q3 q4 q5 hb4 hq
        by_cases he : M < E0 - f
        · have d1 : decide (M < E0 - f) = true := by simpa using he
          have hc1 := Lib.hid (hcE.out (by omega))
          go_upto_region 8 with fail
          go_quiet (fail)
          obtain ⟨w4d, hw4d⟩ : ∃ x, x = w4.drewN nq := ⟨_, rfl⟩
          have hdr : Below w4.heap.size w4 w4d := by rw [hw4d]; exact below_drewN (Below.refl _ _) nq
          rw [← hw4d]
          have hb4d := Lib.hid (hb4w.out.trans (hdr.mono hb4w.out.size))
          have hw4e := Lib.hid (show wo.heap.size + 1 < w4d.heap.size by have := hdr.size; have := hw4.out; omega)
          have k0 := (hdr.cell (p := ⟨wo.heap.size + 1, 0, none⟩) hw4.out).trans c0
          have k1 := (hdr.cell (p := ⟨wo.heap.size + 1, 1, none⟩) hw4.out).trans c1
          have k2 := (hdr.cell (p := ⟨wo.heap.size + 1, 2, none⟩) hw4.out).trans c2
          have k3 := (hdr.cell (p := ⟨wo.heap.size + 1, 3, none⟩) hw4.out).trans c3
          have k4 := (hdr.cell (p := ⟨wo.heap.size, 0, none⟩) (Nat.lt_of_succ_lt hw4.out)).trans c4
          have k5 := (hdr.cell (p := ⟨wo.heap.size, 1, none⟩) (Nat.lt_of_succ_lt hw4.out)).trans c5
          clear hw4d hdr c0 c1 c2 c3 c4 c5 he hb4w hw4
          go_upto_region 9 with fail
          go_cut [10] from 42 to 49 (fun lv wx => ∃ w5 : World, w5 = wx ∧ lv = .int .i64 (t - l - L0) ∧ Hid (Below w4d.heap.size w4d w5))
          case first =>
            refine wp_region_noPanic ?_
            go_region_held3 (fun w' => w'.cell? ⟨wo.heap.size + 1, 0, none⟩ = some (.int .i64 f) ∧ w'.cell? ⟨wo.heap.size + 1, 1, none⟩ = some (.int .i64 t) ∧ w'.cell? ⟨wo.heap.size + 1, 2, none⟩ = some (.int .i64 l) ∧ w'.cell? ⟨wo.heap.size + 1, 3, none⟩ = some (.int .i64 p) ∧ w'.cell? ⟨wo.heap.size, 0, none⟩ = some (.int .i64 sA) ∧ w'.cell? ⟨wo.heap.size, 1, none⟩ = some (.int .i64 sB))
              (first
                | exact ⟨k0, k1, k2, k3, k4, k5⟩
                | exact ⟨(hbk'.cell (p := ⟨wo.heap.size + 1, 0, none⟩) hw4e.out).trans k0, (hbk'.cell (p := ⟨wo.heap.size + 1, 1, none⟩) hw4e.out).trans k1, (hbk'.cell (p := ⟨wo.heap.size + 1, 2, none⟩) hw4e.out).trans k2, (hbk'.cell (p := ⟨wo.heap.size + 1, 3, none⟩) hw4e.out).trans k3, (hbk'.cell (p := ⟨wo.heap.size, 0, none⟩) (Nat.lt_of_succ_lt hw4e.out)).trans k4, (hbk'.cell (p := ⟨wo.heap.size, 1, none⟩) (Nat.lt_of_succ_lt hw4e.out)).trans k5⟩)
              ((go_at_call 38; refine (e38.out _).mono ?_; rintro e wk ⟨rfl, hbk⟩; have hbk' := (Below.refl w4d.heap.size w4d).drew.trans hbk))
            all_goals refine NoPanic.normal ?_
            all_goals go_wp2_with fail
            all_goals go_meet
            all_goals exact ⟨_, rfl, rfl, Lib.hid hbk'⟩
          case rest =>
            obtain ⟨w5, rfl, rfl, hb5⟩ := hcut
            have hb5w := Lib.hid (hb4d.out.trans (hb5.out.mono hb4d.out.size))
            have g0 := (hb5.out.cell (p := ⟨wo.heap.size + 1, 0, none⟩) hw4e.out).trans k0
            have g1 := (hb5.out.cell (p := ⟨wo.heap.size + 1, 1, none⟩) hw4e.out).trans k1
            have g2 := (hb5.out.cell (p := ⟨wo.heap.size + 1, 2, none⟩) hw4e.out).trans k2
            have g3 := (hb5.out.cell (p := ⟨wo.heap.size + 1, 3, none⟩) hw4e.out).trans k3
            clear k0 k1 k2 k3 k4 k5
            by_cases hl2 : (E0 - f) < t - l - L0
            · have d2 : decide ((E0 - f) < t - l - L0) = true := by simpa using hl2
              have hc2 := Lib.hid (hcL.out (by omega))
              clear hl2
              go_wp2_with (go_at_call 38; refine (e38.out _).mono ?_; rintro e w6 ⟨rfl, hb6⟩; have hb6' := Lib.hid (hb5w.out.trans (hb6.mono hb5w.out.size)); clear hb6)
              go_roundw
              case rel => exact ⟨i + 1, i, L0, t - l - L0, hi2.out, by go_num, rfl, rfl, rfl, hc2.out, hb6'⟩
              case measure => simp [intOf]; omega
            · have d2 : decide ((E0 - f) < t - l - L0) = false := by simpa using hl2
              clear hl2
              go_wp2_with fail
              go_roundw
              case rel => exact ⟨i + 1, i, (E0 - 1), (E0 - f), hi2.out, by go_num, rfl, rfl, rfl, hc1.out, hb5w⟩
              case measure => simp [intOf]; omega
        · have d1 : decide (M < E0 - f) = false := by simpa using he
          go_upto_region 9 with fail
          go_cut [10] from 42 to 49 (fun lv wx => ∃ w5 : World, w5 = wx ∧ lv = .int .i64 (t - l - L0) ∧ Hid (Below w4.heap.size w4 w5))
          case first =>
            refine wp_region_noPanic ?_
            go_region_held3 (fun w' => w'.cell? ⟨wo.heap.size + 1, 0, none⟩ = some (.int .i64 f) ∧ w'.cell? ⟨wo.heap.size + 1, 1, none⟩ = some (.int .i64 t) ∧ w'.cell? ⟨wo.heap.size + 1, 2, none⟩ = some (.int .i64 l) ∧ w'.cell? ⟨wo.heap.size + 1, 3, none⟩ = some (.int .i64 p) ∧ w'.cell? ⟨wo.heap.size, 0, none⟩ = some (.int .i64 sA) ∧ w'.cell? ⟨wo.heap.size, 1, none⟩ = some (.int .i64 sB))
              (first
                | exact ⟨c0, c1, c2, c3, c4, c5⟩
                | exact ⟨(hbk'.cell (p := ⟨wo.heap.size + 1, 0, none⟩) hw4.out).trans c0, (hbk'.cell (p := ⟨wo.heap.size + 1, 1, none⟩) hw4.out).trans c1, (hbk'.cell (p := ⟨wo.heap.size + 1, 2, none⟩) hw4.out).trans c2, (hbk'.cell (p := ⟨wo.heap.size + 1, 3, none⟩) hw4.out).trans c3, (hbk'.cell (p := ⟨wo.heap.size, 0, none⟩) (Nat.lt_of_succ_lt hw4.out)).trans c4, (hbk'.cell (p := ⟨wo.heap.size, 1, none⟩) (Nat.lt_of_succ_lt hw4.out)).trans c5⟩)
              ((go_at_call 38; refine (e38.out _).mono ?_; rintro e wk ⟨rfl, hbk⟩; have hbk' := (Below.refl w4.heap.size w4).drew.trans hbk))
            all_goals refine NoPanic.normal ?_
            all_goals go_wp2_with fail
            all_goals go_meet
            all_goals exact ⟨_, rfl, rfl, Lib.hid hbk'⟩
          case rest =>
            obtain ⟨w5, rfl, rfl, hb5⟩ := hcut
            have hb5w := Lib.hid (hb4w.out.trans (hb5.out.mono hb4w.out.size))
            have g0 := (hb5.out.cell (p := ⟨wo.heap.size + 1, 0, none⟩) hw4.out).trans c0
            have g1 := (hb5.out.cell (p := ⟨wo.heap.size + 1, 1, none⟩) hw4.out).trans c1
            have g2 := (hb5.out.cell (p := ⟨wo.heap.size + 1, 2, none⟩) hw4.out).trans c2
            have g3 := (hb5.out.cell (p := ⟨wo.heap.size + 1, 3, none⟩) hw4.out).trans c3
            clear c0 c1 c2 c3 c4 c5
            by_cases hl2 : M < t - l - L0
            · have d2 : decide (M < t - l - L0) = true := by simpa using hl2
              have hc2 := Lib.hid (hcL.out (by omega))
              clear hl2
              go_wp2_with (go_at_call 38; refine (e38.out _).mono ?_; rintro e w6 ⟨rfl, hb6⟩; have hb6' := Lib.hid (hb5w.out.trans (hb6.mono hb5w.out.size)); clear hb6)
              go_roundw
              case rel => exact ⟨i + 1, i, L0, t - l - L0, hi2.out, by go_num, rfl, rfl, rfl, hc2.out, hb6'⟩
              case measure => simp [intOf]; omega
            · have d2 : decide (M < t - l - L0) = false := by simpa using hl2
              clear hl2
              go_wp2_with fail
              go_roundw
              case rel => exact ⟨i + 1, J, x, M, hi2.out, by go_num, rfl, rfl, rfl, hI'.out, hb5w⟩
              case measure => simp [intOf]; omega
    · have hin' : ¬ ((i : Int) < (n : Int)) := by omega
      have hbE := Lib.hid (hbW.out.trans (hb.out.mono (by have := hsW.out; omega)))
      by_cases hM : 0 < M
      · have d1 : decide (0 < M) = true := by simpa using hM
        go_wp2_with fail
        go_ret3
        exact ⟨J, x, true, rfl, fun _ => hI'.out.cut hM, hbE.out⟩
      · have d1 : decide (0 < M) = false := by simpa using hM
        go_wp2_with fail
        go_ret3
        exact ⟨J, x, false, rfl, fun h => (by cases h), hbE.out⟩
end Go.Proofs.Ytjkbhdlbomcbeaa

namespace Go.Proofs.Ytjkbhdlbomcbeaa
open Go.RowKit Go.Shelf Shf

/-! The reference's walk over a proof: what it answers, and which nodes have been seen then. -/
def enB (s : Sh) (x : Nd) : Bool := x.j == 0 && (x.l == 0 && (x.r == 0 && (intB x.a x.b && ovB s.P s.js x.a x.b)))
def laB (s : Sh) (x : Nd) : Bool := x.a == 0 && (x.b == 0 && (x.l == 0 && (x.r == 0 && (decide (0 ≤ x.j) && (decide (x.j < s.os.length) && lateO s x.j.toNat)))))
def inL (i n : Nat) (l : Int) : Bool := decide ((i : Int) < l) && decide (l < n)
def spB (s : Sh) (n i : Nat) (x : Nd) : Bool := x.b == 0 && ((decide (0 ≤ x.j) && decide (x.j < s.n)) && (inL i n x.l && (inL i n x.r && (decide ((s.job x.j.toNat).f ≤ x.a) && decide (x.a < lat (s.job x.j.toNat))))))
def rp (ns : List Nd) : Nat → Nat → Sh → (Nat → Bool) → Bool × (Nat → Bool)
  | 0, _, _, sn => (false, sn)
  | f + 1, i, s, sn =>
    if sn i = true then (false, sn)
    else
      let x := ns.getD i N0
      if x.k = 2 then (enB s x, seeN sn i)
      else if x.k = 3 then (laB s x, seeN sn i)
      else if x.k = 1 then
        if spB s ns.length i x then
          let p := rp ns f x.l.toNat (till s x.j.toNat x.a) (seeN sn i)
          if p.1 then rp ns f x.r.toNat (later s x.j.toNat x.a) p.2 else (false, p.2)
        else (false, seeN sn i)
      else (false, seeN sn i)
theorem rp_step {ns : List Nd} {f i : Nat} {s : Sh} {sn : Nat → Bool} (hs : sn i = false) : rp ns (f + 1) i s sn =
    (let x := ns.getD i N0
      if x.k = 2 then (enB s x, seeN sn i)
      else if x.k = 3 then (laB s x, seeN sn i)
      else if x.k = 1 then
        if spB s ns.length i x then
          let p := rp ns f x.l.toNat (till s x.j.toNat x.a) (seeN sn i)
          if p.1 then rp ns f x.r.toNat (later s x.j.toNat x.a) p.2 else (false, p.2)
        else (false, seeN sn i)
      else (false, seeN sn i)) := by
  rw [rp, if_neg (by rw [hs]; simp)]
theorem rp_pz (ns : List Nd) : ∀ (f i : Nat) (s : Sh) (sn : Nat → Bool), i < ns.length →
    prO s (pz ns s.n s.os.length f i sn).1 = (rp ns f i s sn).1 ∧ ((rp ns f i s sn).1 = true → (pz ns s.n s.os.length f i sn).2 = (rp ns f i s sn).2) := by
  intro f
  induction f with
  | zero => intro i s sn _; exact ⟨rfl, fun h => by cases h⟩
  | succ f ih =>
    intro i s sn hi
    cases hs : sn i with
    | true =>
      rw [pz, if_pos (.inr hs), rp, if_pos hs]
      exact ⟨rfl, fun h => by cases h⟩
    | false =>
      rw [pz_step hi hs, rp_step hs]
      obtain ⟨⟨k, j, a, b, l, r⟩, hx⟩ : ∃ x, x = ns.getD i N0 := ⟨_, rfl⟩
      rw [← hx]
      simp only
      by_cases h2 : k = 2
      · subst h2
        rw [if_pos rfl, show isSp ⟨2, j, a, b, l, r⟩ = false from rfl]
        simp only [Bool.false_eq_true, if_false]
        by_cases he : isEn ⟨2, j, a, b, l, r⟩ = true
        · rw [if_pos he]
          unfold isEn at he
          simp only [Bool.and_eq_true, beq_iff_eq] at he
          obtain ⟨-, rfl, rfl, rfl⟩ := he
          cases hb : intB a b with
          | true => exact ⟨by simp [enB, prO, rf, hb], fun _ => rfl⟩
          | false => exact ⟨by simp [enB, prO, hb], fun _ => by trivial⟩
        · rw [if_neg he, show isLa ⟨2, j, a, b, l, r⟩ = false from rfl]
          simp only [Bool.false_eq_true, if_false]
          refine ⟨?_, fun _ => by trivial⟩
          symm
          show enB s _ = false
          rw [Bool.eq_false_iff]
          intro hc
          apply he
          unfold enB at hc
          unfold isEn
          simp only [Bool.and_eq_true, beq_iff_eq] at hc ⊢
          exact ⟨trivial, hc.1, hc.2.1, hc.2.2.1⟩
      · rw [if_neg h2]
        by_cases h3 : k = 3
        · subst h3
          rw [if_pos rfl, show isSp ⟨3, j, a, b, l, r⟩ = false from rfl, show isEn ⟨3, j, a, b, l, r⟩ = false from rfl]
          simp only [Bool.false_eq_true, if_false]
          by_cases he : isLa ⟨3, j, a, b, l, r⟩ = true
          · rw [if_pos he]
            unfold isLa at he
            simp only [Bool.and_eq_true, beq_iff_eq] at he
            obtain ⟨-, rfl, rfl, rfl, rfl⟩ := he
            by_cases hj : decide (0 ≤ j) && decide (j < s.os.length)
            · rw [if_pos hj]
              simp only [Bool.and_eq_true, decide_eq_true_eq] at hj
              exact ⟨by simp [laB, prO, rf, hj.1, hj.2], fun _ => rfl⟩
            · rw [if_neg hj]
              refine ⟨?_, fun _ => rfl⟩
              symm
              show laB s _ = false
              rw [Bool.eq_false_iff]
              intro hc
              apply hj
              unfold laB at hc
              simp only [Bool.and_eq_true] at hc ⊢
              exact ⟨hc.2.2.2.2.1, hc.2.2.2.2.2.1⟩
          · rw [if_neg he]
            refine ⟨?_, fun _ => rfl⟩
            symm
            show laB s _ = false
            rw [Bool.eq_false_iff]
            intro hc
            apply he
            unfold laB at hc
            unfold isLa
            simp only [Bool.and_eq_true, beq_iff_eq] at hc ⊢
            exact ⟨trivial, hc.1, hc.2.1, hc.2.2.1, hc.2.2.2.1⟩
        · rw [if_neg h3]
          by_cases h1 : k = 1
          · subst h1
            rw [if_pos rfl]
            by_cases hb : b = 0
            · subst hb
              rw [if_pos (show isSp ⟨1, j, a, 0, l, r⟩ = true from rfl)]
              by_cases hok : spOk s.n i ⟨1, j, a, 0, l, r⟩ = true
              · rw [if_pos hok]
                have hok' := hok
                unfold spOk at hok
                simp only [Bool.and_eq_true, decide_eq_true_eq] at hok
                obtain ⟨h0, h1, h2', h3'⟩ := hok
                by_cases hl : l < ns.length
                · by_cases hr : r < ns.length
                  · have ihl := ih l.toNat (till s j.toNat a) (seeN sn i) (by omega)
                    rw [till_n, show (till s j.toNat a).os = s.os from rfl] at ihl
                    by_cases hfa : (s.job j.toNat).f ≤ a ∧ a < lat (s.job j.toNat)
                    · rw [if_pos (show spB s ns.length i ⟨1, j, a, 0, l, r⟩ = true from by
                        unfold spB inL; simp only [Bool.and_eq_true, decide_eq_true_eq, beq_iff_eq]; exact ⟨trivial, ⟨h0, h1⟩, ⟨h2', hl⟩, ⟨h3', hr⟩, hfa.1, hfa.2⟩)]
                      obtain ⟨p, hp⟩ : ∃ p, p = pz ns s.n s.os.length f l.toNat (seeN sn i) := ⟨_, rfl⟩
                      obtain ⟨P, hP⟩ : ∃ P, P = rp ns f l.toNat (till s j.toNat a) (seeN sn i) := ⟨_, rfl⟩
                      rw [← hp, ← hP] at ihl ⊢
                      cases hc : P.1 with
                      | false =>
                        rw [hc] at ihl
                        simp only [Bool.false_eq_true, if_false]
                        refine ⟨?_, fun h => by cases h⟩
                        have hz := ihl.1
                        cases hp1 : p.1 with
                        | none => rfl
                        | some t =>
                          rw [hp1] at hz
                          simp only [prO] at hz
                          cases (pz ns s.n s.os.length f r.toNat p.2).1 with
                          | none => rfl
                          | some u => simp [prO, rf, hz]
                      | true =>
                        rw [hc] at ihl
                        have he2 := ihl.2 rfl
                        rw [← he2]
                        have ihr := ih r.toNat (later s j.toNat a) p.2 (by omega)
                        rw [later_n, show (later s j.toNat a).os = s.os from rfl] at ihr
                        obtain ⟨q, hq⟩ : ∃ q, q = pz ns s.n s.os.length f r.toNat p.2 := ⟨_, rfl⟩
                        obtain ⟨R, hR⟩ : ∃ R, R = rp ns f r.toNat (later s j.toNat a) p.2 := ⟨_, rfl⟩
                        rw [← hq, ← hR] at ihr ⊢
                        simp only [if_true]
                        refine ⟨?_, ihr.2⟩
                        rw [← ihr.1]
                        have hz := ihl.1
                        cases hp1 : p.1 with
                        | none => rw [hp1] at hz; cases hz
                        | some t =>
                          rw [hp1] at hz
                          simp only [prO] at hz
                          cases q.1 with
                          | none => rfl
                          | some u => simp [prO, rf, hz, hfa.1, hfa.2]
                    · rw [if_neg (show ¬ spB s ns.length i ⟨1, j, a, 0, l, r⟩ = true from fun hc => hfa (by
                        unfold spB at hc; simp only [Bool.and_eq_true, decide_eq_true_eq] at hc; exact hc.2.2.2.2))]
                      refine ⟨?_, fun h => by cases h⟩
                      cases (pz ns s.n s.os.length f l.toNat (seeN sn i)).1 with
                      | none => rfl
                      | some t =>
                        cases (pz ns s.n s.os.length f r.toNat (pz ns s.n s.os.length f l.toNat (seeN sn i)).2).1 with
                        | none => rfl
                        | some u =>
                          simp only [prO, rf]
                          rw [Bool.eq_false_iff]
                          intro hc
                          simp only [Bool.and_eq_true, decide_eq_true_eq] at hc
                          exact hfa ⟨hc.1, hc.2.1⟩
                  · rw [if_neg (show ¬ spB s ns.length i ⟨1, j, a, 0, l, r⟩ = true from fun hc => hr (by
                        unfold spB inL at hc; simp only [Bool.and_eq_true, decide_eq_true_eq] at hc; exact hc.2.2.2.1.2))]
                    refine ⟨?_, fun h => by cases h⟩
                    have hn : (pz ns s.n s.os.length f r.toNat (pz ns s.n s.os.length f l.toNat (seeN sn i)).2).1 = none := by
                      cases f with
                      | zero => rfl
                      | succ f => rw [pz, if_pos (.inl (by omega))]
                    rw [hn]
                    cases (pz ns s.n s.os.length f l.toNat (seeN sn i)).1 <;> rfl
                · rw [if_neg (show ¬ spB s ns.length i ⟨1, j, a, 0, l, r⟩ = true from fun hc => hl (by
                        unfold spB inL at hc; simp only [Bool.and_eq_true, decide_eq_true_eq] at hc; exact hc.2.2.1.2))]
                  refine ⟨?_, fun h => by cases h⟩
                  have hn : (pz ns s.n s.os.length f l.toNat (seeN sn i)).1 = none := by
                    cases f with
                    | zero => rfl
                    | succ f => rw [pz, if_pos (.inl (by omega))]
                  rw [hn]
                  rfl
              · rw [if_neg hok, if_neg (show ¬ spB s ns.length i ⟨1, j, a, 0, l, r⟩ = true from fun hc => hok (by
                  unfold spB inL at hc; unfold spOk; simp only [Bool.and_eq_true, decide_eq_true_eq] at hc ⊢; exact ⟨hc.2.1.1, hc.2.1.2, hc.2.2.1.1, hc.2.2.2.1.1⟩))]
                exact ⟨rfl, fun _ => rfl⟩
            · rw [if_neg (show ¬ isSp ⟨1, j, a, b, l, r⟩ = true from by unfold isSp; simp [hb]), show isEn ⟨1, j, a, b, l, r⟩ = false from rfl, show isLa ⟨1, j, a, b, l, r⟩ = false from rfl,
                if_neg (show ¬ spB s ns.length i ⟨1, j, a, b, l, r⟩ = true from by unfold spB; simp [hb])]
              exact ⟨rfl, fun _ => rfl⟩
          · rw [if_neg h1, if_neg (show ¬ isSp ⟨k, j, a, b, l, r⟩ = true from by unfold isSp; simp [h1]), if_neg (show ¬ isEn ⟨k, j, a, b, l, r⟩ = true from by unfold isEn; simp [h2]), if_neg (show ¬ isLa ⟨k, j, a, b, l, r⟩ = true from by unfold isLa; simp [h3])]
            exact ⟨rfl, fun _ => rfl⟩
/-- All stays but for one block. -/
structure Kq (ge : Nat) (w w' : World) : Prop where
  size : w.heap.size ≤ w'.heap.size
  block : ∀ g, g < w.heap.size → g ≠ ge → w'.heap[g]? = w.heap[g]?
  os : w'.os = w.os
  tape : w'.tape = w.tape
  output : w'.output = w.output
theorem Kq.refl (ge : Nat) (w : World) : Kq ge w w := ⟨Nat.le_refl _, fun _ _ _ => rfl, rfl, rfl, rfl⟩
theorem Kq.trans {ge : Nat} {a b c : World} (h : Kq ge a b) (k : Kq ge b c) : Kq ge a c := ⟨Nat.le_trans h.size k.size, fun g hg hne => (k.block g (Nat.lt_of_lt_of_le hg h.size) hne).trans (h.block g hg hne), k.os.trans h.os, k.tape.trans h.tape, k.output.trans h.output⟩
theorem Kq.of_below {ge : Nat} {a b : World} (h : Below a.heap.size a b) : Kq ge a b := ⟨h.size, fun g hg _ => h.block g hg, h.os, h.tape, h.output⟩
theorem Kq.set (ge k : Nat) (w : World) (u : Value) : Kq ge w (w.setCell ⟨ge, k, none⟩ u) := by
  have hs := (Below.refl 0 w).setCell (p := ⟨ge, k, none⟩) (Nat.zero_le _) u
  exact ⟨hs.size, fun g _ hne => Below.heap_setCell w ⟨ge, k, none⟩ u g hne, hs.os, hs.tape, hs.output⟩
theorem Kq.cell {ge g k : Nat} {w w' : World} (h : Kq ge w w') (hg : g < w.heap.size) (hne : g ≠ ge) : w'.cell? ⟨g, k, none⟩ = w.cell? ⟨g, k, none⟩ := World.cell?_of_block (w := w) (h.block g hg hne)
/-- What was there before the block stays. -/
theorem Kq.below {ge B : Nat} {w0 w w' : World} (h : Kq ge w w') (hb : Below B w0 w) (hB : B ≤ ge) (hw : B ≤ w.heap.size) : Below B w0 w' :=
  ⟨h.os.trans hb.os, h.tape.trans hb.tape, h.output.trans hb.output, Nat.le_trans hb.size h.size, fun k hk => (h.block k (by omega) (by omega)).trans (hb.block k hk)⟩
/-! What stands beside the block that tells which nodes have been seen. -/
def ShF (w : World) (ge : Nat) (v : Value) (s : Sh) : Prop := ∃ ja jc oa oc, v = .agg #[.int .i64 s.P, .slice ja s.js.length jc, .slice oa (osI s).length oc] ∧ ReadsJ w (.slice ja s.js.length jc) s.js ∧ ReadsO w (.slice oa (osI s).length oc) (osI s) ∧ (∀ g, ja = some ⟨g, 0, none⟩ → g ≠ ge) ∧ (∀ g, oa = some ⟨g, 0, none⟩ → g ≠ ge)
theorem ReadsJ.kp {w w' : World} {ge : Nat} {ja : Option Addr} {n jc : Nat} {js : List J} (h : ReadsJ w (.slice ja n jc) js) (hf : ∀ g, ja = some ⟨g, 0, none⟩ → g ≠ ge) (hk : Kq ge w w') : ReadsJ w' (.slice ja n jc) js := by
  obtain ⟨ao, c, e, hc, h⟩ := h
  refine ⟨ao, c, e, hc, fun hn => ?_⟩
  obtain ⟨rfl, -, -⟩ : ja = ao ∧ n = js.length ∧ jc = c := by injection e with a b c; exact ⟨a, b, c⟩
  obtain ⟨g, rfl, hg, hcl⟩ := h hn
  exact ⟨g, rfl, Nat.lt_of_lt_of_le hg hk.size, fun j u hj => (hk.cell (k := j) hg (hf g rfl)).trans (hcl j u hj)⟩
theorem ReadsO.kp {w w' : World} {ge : Nat} {oa : Option Addr} {n oc : Nat} {os : List (Int × Int)} (h : ReadsO w (.slice oa n oc) os) (hf : ∀ g, oa = some ⟨g, 0, none⟩ → g ≠ ge) (hk : Kq ge w w') : ReadsO w' (.slice oa n oc) os := by
  obtain ⟨ao, c, e, hc, h⟩ := h
  refine ⟨ao, c, e, hc, fun hn => ?_⟩
  obtain ⟨rfl, -, -⟩ : oa = ao ∧ n = os.length ∧ oc = c := by injection e with a b c; exact ⟨a, b, c⟩
  obtain ⟨g, rfl, hg, hcl⟩ := h hn
  exact ⟨g, rfl, Nat.lt_of_lt_of_le hg hk.size, fun j u hj => (hk.cell (k := j) hg (hf g rfl)).trans (hcl j u hj)⟩
theorem ShF.kp {w w' : World} {ge : Nat} {v : Value} {s : Sh} (h : ShF w ge v s) (hk : Kq ge w w') : ShF w' ge v s := by
  obtain ⟨ja, jc, oa, oc, rfl, h1, h2, f1, f2⟩ := h
  exact ⟨ja, jc, oa, oc, rfl, h1.kp f1 hk, h2.kp f2 hk, f1, f2⟩
def NdF (w : World) (ge : Nat) (v : Value) (ns : List Nd) : Prop := ReadsNd w v ns ∧ ∀ g n c, v = .slice (some ⟨g, 0, none⟩) n c → g ≠ ge
theorem NdF.kp {w w' : World} {ge : Nat} {v : Value} {ns : List Nd} (h : NdF w ge v ns) (hk : Kq ge w w') : NdF w' ge v ns := by
  obtain ⟨⟨ao, c, rfl, hc, hat⟩, hf⟩ := h
  refine ⟨⟨ao, c, rfl, hc, fun i hi => ?_⟩, hf⟩
  obtain ⟨g, rfl, hg, n0, n1, n2, n3, n4, n5⟩ := hat i hi
  have hne := hf g _ _ rfl
  exact ⟨g, rfl, Nat.lt_of_lt_of_le hg hk.size, (hk.cell hg hne).trans n0, (hk.cell hg hne).trans n1, (hk.cell hg hne).trans n2, (hk.cell hg hne).trans n3, (hk.cell hg hne).trans n4, (hk.cell hg hne).trans n5⟩
/-- Which nodes have been seen, in memory. -/
structure SnR (w : World) (ge n : Nat) (sn : Nat → Bool) : Prop where
  hgw : ge < w.heap.size
  seen : ∀ i, i < n → w.cell? ⟨ge, i, none⟩ = some (.bool (sn i))
  fg : ∀ j, w.frozen? ⟨ge, j, none⟩ = false
theorem SnR.below {w w' : World} {ge n : Nat} {sn : Nat → Bool} (h : SnR w ge n sn) (hb : Below w.heap.size w w') : SnR w' ge n sn :=
  ⟨Nat.lt_of_lt_of_le h.hgw hb.size, fun i hi => (hb.cell (p := ⟨ge, i, none⟩) h.hgw).trans (h.seen i hi), fun j => (hb.frozen (p := ⟨ge, j, none⟩) h.hgw).trans (h.fg j)⟩
theorem SnR.see {w : World} {ge n : Nat} {sn : Nat → Bool} (h : SnR w ge n sn) {i : Nat} (hi : i < n) : SnR (w.setCell ⟨ge, i, none⟩ (.bool true)) ge n (seeN sn i) := by
  refine ⟨by rw [World.size_setCell]; exact h.hgw, fun k hk => ?_, fun j => by rw [World.frozen?_setCell]; exact h.fg j⟩
  unfold seeN
  by_cases e : k = i
  · subst e
    rw [if_pos rfl]
    exact World.cell?_setCell_same' _ _ _ (by rw [h.seen k hk]; rfl)
  · rw [if_neg e, World.cell?_setCell_other _ _ _ _ (by simp <;> omega)]
    exact h.seen k hk
/-- What the reference's walk ends in. -/
def RpEnd (w : World) (ge n : Nat) (r : Bool × (Nat → Bool)) (e : Ending) (w' : World) : Prop := e = .returned (.bool r.1) ∧ SnR w' ge n r.2 ∧ Kq ge w w'
end Go.Proofs.Ytjkbhdlbomcbeaa
