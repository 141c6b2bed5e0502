import Derived.Test.YtjkbhdlbomcbeaaV3
import Derived.Lib.SliceRun
namespace Go.Proofs.Ytjkbhdlbomcbeaa
open Go.RowKit Shf

theorem results_cell_tmp {fn : Func} {p t : Tmp} {ty : TypeId} (h : fn.results = #[.cell p ty, .tmp t]) (tmps : Array Value) (w : World) (g : Nat) (cs : List Value) (d : TypeDesc) (hp : tmps.getD p undef = .pointer (some ⟨g, 0, none⟩)) (hc : w.rangeAt g 0 cs)
    (hu : Try.prog.underlying ty = some d) (hd : d.isRow = true) (hi : (Try.prog.info? ty).map (·.size) = some cs.length) : (results fn tmps).run Try.prog w = .ok (.tuple #[.agg cs.toArray, tmps.getD t undef]) w := by
  have hl := run_loadVar_mid (P := Try.prog) w g 0 ty cs d hc hu hd hi
  have hp' : tmps[p]?.getD undef = .pointer (some ⟨g, 0, none⟩) := by simpa using hp
  simp [results, h, hp', asAddr, hl]
/-- Three cells of zeros, or what else is written there. -/
def Three (W : World) (g : Nat) (a b c : Value) : Prop := (W.cell? ⟨g, 0, none⟩ = some a ∧ W.cell? ⟨g, 1, none⟩ = some b ∧ W.cell? ⟨g, 2, none⟩ = some c) ∧ ∀ j, W.frozen? ⟨g, j, none⟩ = false
theorem Three.keep {W W' : World} {C g : Nat} {a b c : Value} (h : Three W g a b c) (hb : Below C W W') (hg : g < C) : Three W' g a b c :=
  ⟨⟨(hb.cell (p := ⟨g, 0, none⟩) hg).trans h.1.1, (hb.cell (p := ⟨g, 1, none⟩) hg).trans h.1.2.1, (hb.cell (p := ⟨g, 2, none⟩) hg).trans h.1.2.2⟩, fun j => (hb.frozen (p := ⟨g, j, none⟩) hg).trans (h.2 j)⟩
theorem Three.stored {W : World} {g : Nat} {a b c x y z : Value} (h : Three W g a b c) : Three (((W.setCell ⟨g, 0, none⟩ x).setCell ⟨g, 1, none⟩ y).setCell ⟨g, 2, none⟩ z) g x y z := by
  refine ⟨⟨?_, ?_, ?_⟩, fun j => by rw [World.frozen?_setCell, World.frozen?_setCell, World.frozen?_setCell]; exact h.2 j⟩
  · rw [World.cell?_setCell_other _ _ _ _ (by simp), World.cell?_setCell_other _ _ _ _ (by simp), World.cell?_setCell_same' _ _ _ (by rw [h.1.1]; rfl)]
  · rw [World.cell?_setCell_other _ _ _ _ (by simp), World.cell?_setCell_same' _ _ _ (by rw [World.cell?_setCell_other _ _ _ _ (by simp), h.1.2.1]; rfl)]
  · rw [World.cell?_setCell_same' _ _ _ (by rw [World.cell?_setCell_other _ _ _ _ (by simp), World.cell?_setCell_other _ _ _ _ (by simp), h.1.2.2]; rfl)]
theorem Three.new (w : World) (a b c : Value) (t : TypeId) : Three (w.alloc (.cells #[a, b, c] t)) w.heap.size a b c := by
  have h := heap_alloc_new w (.cells #[a, b, c] t)
  exact ⟨⟨cell_of_row _ _ 0 _ _ _ h, cell_of_row _ _ 1 _ _ _ h, cell_of_row _ _ 2 _ _ _ h⟩, fun j => frozen_of_row _ _ j _ t h⟩
theorem Three.range {W : World} {g : Nat} {a b c : Value} (h : Three W g a b c) : W.rangeAt g 0 [a, b, c] := range3 h.1.1 h.1.2.1 h.1.2.2
theorem power56' {w : World} (v : Int) {d : Bool} (h : inB v 1 20 = d) : Calls Try.prog 56 #[.int .i64 v] w fun e w' => e = .returned (.bool d) ∧ w = w' := by
  subst h; exact power56 v
def NewEnd (w : World) (P : Int) (jv ov : Value) (ok : Bool) (e : Ending) (w' : World) : Prop :=
  e = .returned (.tuple #[.agg #[.int .i64 (if ok then P else 0), if ok then jv else .slice none 0 0, if ok then ov else .slice none 0 0], .int .i64 (if ok then 0 else 1)]) ∧ Below w.heap.size w w'

set_option maxRecDepth 100000 in
theorem isJob57 {w : World} {b1 n c : Nat} {a : Option Addr} (h : w.cell? ⟨b1, 1, none⟩ = some (.slice a n c)) (v : Int) {d : Bool} (hd : inB v 0 ((n : Int) - 1) = d) : Calls Try.prog 57 #[.int .i64 v, .pointer (some ⟨b1, 0, none⟩)] w fun e w' => e = .returned (.bool d) ∧ w = w' := by
  subst hd
  by_cases h0 : 0 ≤ v
  · have h1 : decide (v ≥ 0) = true := by simpa using h0
    go_enter Try.func57, Try.ntmps57
    go_wp2
    go_ret
    exact ⟨ret_b (by unfold inB; rw [decide_eq_true h0, Bool.true_and]; exact decide_eq_decide.2 (by omega)), rfl⟩
  · have h1 : decide (v ≥ 0) = false := by simpa using h0
    go_enter Try.func57, Try.ntmps57
    go_wp2
    go_ret
    exact ⟨ret_b (by unfold inB; rw [show decide (0 ≤ v) = false by simpa using h0]; rfl), rfl⟩

theorem jobB_iff {f t l p : Int} : jobB ⟨f, t, l, p⟩ = true ↔ (0 ≤ f ∧ f ≤ 24) ∧ (0 ≤ t ∧ t ≤ 24) ∧ (1 ≤ l ∧ l ≤ 24) ∧ f + l ≤ t ∧ 1 ≤ p ∧ p ≤ 20 := by
  simp [jobB, inB]
theorem ordB_iff {n : Nat} {b a : Int} : ordB n (b, a) = true ↔ (0 ≤ b ∧ b ≤ (n : Int) - 1) ∧ (0 ≤ a ∧ a ≤ (n : Int) - 1) ∧ b ≠ a := by
  simp [ordB, inB]
set_option maxHeartbeats 4000000 in
set_option maxRecDepth 100000 in
theorem new37 {w : World} {jv ov : Value} {P : Int} {js : List J} {os : List (Int × Int)} (hj : ReadsJ w jv js) (ho : ReadsO w ov os) (hj7 : js.length ≤ 7) (ho21 : os.length ≤ 21) :
    Calls Try.prog 37 #[.agg #[.int .i64 P, jv, ov]] w (NewEnd w P jv ov (validB P js os)) := by
  obtain ⟨ja, jc, rfl, hjc, hjat⟩ := hj.at
  obtain ⟨oa, oc, rfl, hoc, hoat⟩ := ho.at
  obtain ⟨n, hn⟩ : ∃ n, n = js.length := ⟨_, rfl⟩
  obtain ⟨m, hm⟩ : ∃ m, m = os.length := ⟨_, rfl⟩
  have hjat' := Lib.hid hjat
  have hoat' := Lib.hid hoat
  have hn' := Lib.hid hn
  have hm' := Lib.hid hm
  have hvb := Lib.hid (show validB P js os = (js.all jobB && (os.all (ordB n) && (inB P 1 20 && (inB n 1 6 && decide (m ≤ 20))))) by rw [hn, hm]; rfl)
  rw [← hn] at hj7 hjc ⊢
  rw [← hm] at ho21 hoc ⊢
  rw [hvb.out]
  obtain ⟨jB, hjB⟩ : ∃ b, b = js.all jobB := ⟨_, rfl⟩
  obtain ⟨oB, hoB⟩ : ∃ b, b = os.all (ordB n) := ⟨_, rfl⟩
  rw [← hjB, ← hoB]
  have hjB' := Lib.hid hjB
  have hoB' := Lib.hid hoB
  obtain ⟨pB, hpB⟩ : ∃ b, b = inB P 1 20 := ⟨_, rfl⟩
  obtain ⟨nB, hnB⟩ : ∃ b, b = (inB n 1 6 && decide (m ≤ 20)) := ⟨_, rfl⟩
  rw [← hpB, ← hnB]
  have e0 := Lib.hid (fun (W : World) => power56' (w := W) P hpB.symm)
  clear hj ho hjat hoat hn hm hvb hjB hoB hpB
  have hwb := Lib.hid (((Below.refl w.heap.size w).alloc (Nat.le_refl _) (.cells #[.int .i64 P, .slice ja n jc, .slice oa m oc] 25)).alloc (by simp) (.cells #[.int .i64 0, .slice none 0 0, .slice none 0 0] 81))
  have ht1 := Lib.hid ((Three.new w (.int .i64 P) (.slice ja n jc) (.slice oa m oc) 25).keep (below_alloc1 _ (.cells #[.int .i64 0, .slice none 0 0, .slice none 0 0] 81)) (by simp))
  have ht2 := Lib.hid (Three.new (w.alloc (.cells #[.int .i64 P, .slice ja n jc, .slice oa m oc] 25)) (.int .i64 0) (.slice none 0 0) (.slice none 0 0) 81)
  rw [World.size_alloc] at ht2
  go_enter Try.func37, Try.ntmps37
  go_wp2_with (fail)
  obtain ⟨W1, hW1⟩ : ∃ W1, W1 = (w.alloc (.cells #[.int .i64 P, .slice ja n jc, .slice oa m oc] 25)).alloc (.cells #[.int .i64 0, .slice none 0 0, .slice none 0 0] 81) := ⟨_, rfl⟩
  have hs1 : W1.heap.size = w.heap.size + 1 + 1 := by rw [hW1]; simp
  rw [← hW1] at hwb ht1 ht2 ⊢
  obtain ⟨b1, hb1⟩ : ∃ b1, b1 = w.heap.size := ⟨_, rfl⟩
  rw [← hb1] at ht1 ht2 hs1 ⊢
  obtain ⟨b2, hb2⟩ : ∃ b2, b2 = b1 + 1 := ⟨_, rfl⟩
  rw [← hb2] at ht2 hs1 ⊢
  have hb12 := Lib.hid (show w.heap.size ≤ b2 ∧ b1 < b2 ∧ w.heap.size ≤ b1 from by omega)
  clear hW1 hb1 hb2
  obtain ⟨⟨k0, k1, k2⟩, -⟩ := ht1.out
  have hs1' := Lib.hid hs1
  cases pB with
  | false =>
    have htz := Lib.hid (ht2.out.keep (Below.refl (b2 + 1) W1) (by omega))
    obtain ⟨⟨z0, z1, z2⟩, zf⟩ := htz.out
    have y0 := zf 0
    have y1 := zf 1
    have y2 := zf 2
    clear zf
    go_wp2_with (first | (go_at_call 56; refine (e0.out _).mono ?_; rintro e w1 ⟨rfl, rfl⟩))
    refine bodyPost_ret (results_cell_tmp rfl _ _ b2 _ _ rfl htz.out.stored.range Try.underlying81 rfl (by kernel_rfl)) rfl ?_
    exact ⟨by simp, below_set (below_set (below_set hwb.out hb12.out.1) hb12.out.1) hb12.out.1⟩
  | true =>
    by_cases h1 : 1 ≤ n
    · by_cases h6 : n ≤ 6
      · by_cases h20 : m ≤ 20
        · obtain rfl : nB = true := by rw [hnB]; simp [inB]; omega
          clear hnB
          go_wp2_with (first | (go_at_call 56; refine (e0.out _).mono ?_; rintro e w1 ⟨rfl, rfl⟩))
          go_loopw [35] (fun iv wr => ∃ i : Nat, i ≤ n ∧ iv = .int .i64 i ∧ Hid ((js.take i).all jobB = true) ∧ Hid (Below (b2 + 1) W1 wr)) (fun iv _ => n - (intOf iv).toNat)
          case atStart => exact ⟨0, Nat.zero_le _, rfl, Lib.hid rfl, Lib.hid (Below.refl _ _)⟩
          case round =>
            clear k0 k1 k2
            obtain ⟨i, hi, rfl, hall, hbw⟩ := hrel
            have hbE := Lib.hid (show Below w.heap.size w wr from hwb.out.trans (hbw.out.mono (by have := hb12.out; omega)))
            have hsz := hbw.out.size
            have hb2w : b2 < wr.heap.size := by have := hs1'.out; omega
            by_cases hin : i < n
            · obtain ⟨g, rfl, hg, c0, c1, c2, c3⟩ := hjat'.out i (by rw [← hn'.out]; exact hin)
              have d0 := (hbE.out.cell (p := ⟨g, i * 4, none⟩) hg).trans c0
              have d1 := (hbE.out.cell (p := ⟨g, i * 4 + 1, none⟩) hg).trans c1
              have d2 := (hbE.out.cell (p := ⟨g, i * 4 + 2, none⟩) hg).trans c2
              have d3 := (hbE.out.cell (p := ⟨g, i * 4 + 3, none⟩) hg).trans c3
              have hnx := Lib.hid (fun (h : jobB (js.getD i J0) = true) => all_take hall.out (by rw [← hn'.out]; exact hin) h)
              have hno := Lib.hid (fun (h : jobB (js.getD i J0) = false) => (show jB = false by rw [hjB'.out]; exact all_not (by rw [← hn'.out]; exact hin) h))
              obtain ⟨⟨f, t, l, p⟩, hjq⟩ : ∃ j, j = js.getD i J0 := ⟨_, rfl⟩
              rw [← hjq] at d0 d1 d2 d3 hnx hno
              clear hjq c0 c1 c2 c3
              simp only at d0 d1 d2 d3
              have e5 := Lib.hid (fun (W : World) => power56' (w := W) p rfl)
              have hb2 := Lib.hid (hbw.out.alloc (show b2 + 1 ≤ wr.heap.size by omega) (.cells #[.int .i64 f, .int .i64 t, .int .i64 l, .int .i64 p] 56))
              have hb3 := Lib.hid (below_call hbE.out (below_alloc1 wr (.cells #[.int .i64 f, .int .i64 t, .int .i64 l, .int .i64 p] 56)))
              cases x5 : inB p 1 20 with
              | false =>
                rw [x5] at e5
                have hf := hno.out (by rw [Bool.eq_false_iff]; intro h; have := jobB_iff.1 h; rw [show inB p 1 20 = true by simp [inB]; omega] at x5; cases x5)
                subst hf
                clear hjB' hno hnx
                have htz := Lib.hid (ht2.out.keep hbw.out (by omega))
                obtain ⟨⟨z0, z1, z2⟩, zf⟩ := htz.out
                have y0 := zf 0
                have y1 := zf 1
                have y2 := zf 2
                have hsB := Lib.hid (show b2 < (((wr.setCell ⟨b2, 0, none⟩ (.int .i64 0)).setCell ⟨b2, 1, none⟩ (.slice none 0 0)).setCell ⟨b2, 2, none⟩ (.slice none 0 0)).heap.size by simpa using hb2w)
                clear zf
                go_wp2_with (first | (go_at_call 56; refine (e5.out _).mono ?_; rintro e w1 ⟨rfl, rfl⟩))
                refine bodyPost_ret (results_cell_tmp rfl _ _ b2 _ _ rfl (htz.out.stored.keep (below_alloc1 _ _) hsB.out).range Try.underlying81 rfl (by kernel_rfl)) rfl ?_
                exact ⟨by simp, below_call (below_set (below_set (below_set hbE.out hb12.out.1) hb12.out.1) hb12.out.1) (below_alloc1 _ _)⟩
              | true =>
                rw [x5] at e5
                have x5' : 1 ≤ p ∧ p ≤ 20 := by simpa [inB] using x5
                by_cases q0 : 0 ≤ f
                · have r0 : decide (f < 0) = false := by simp; omega
                  by_cases q1 : f ≤ 24
                  · have r1 : decide (f > 24) = false := by simp; omega
                    by_cases q2 : 1 ≤ l
                    · have r2 : decide (l < 1) = false := by simp; omega
                      by_cases q3 : l ≤ 24
                      · have r3 : decide (l > 24) = false := by simp; omega
                        by_cases q4 : f + l ≤ t
                        · have r4 : decide (f + l > t) = false := by simp; omega
                          by_cases q5 : t ≤ 24
                          · have r5 : decide (t > 24) = false := by simp; omega
                            have hok := Lib.hid (hnx.out (jobB_iff.2 (by have := x5'; omega)))
                            clear hno hnx
                            go_wp2_with (first | (go_at_call 56; refine (e5.out _).mono ?_; rintro e w1 ⟨rfl, rfl⟩))
                            go_roundw
                            case rel => exact ⟨i + 1, by omega, by go_num, hok, hb2⟩
                            case measure => simp [intOf]; omega
                          · have r5 : decide (t > 24) = true := by simp; omega
                            have hf := hno.out (by rw [Bool.eq_false_iff]; intro h; have := jobB_iff.1 h; omega)
                            subst hf
                            clear hjB' hno hnx
                            have htz := Lib.hid (ht2.out.keep hbw.out (by omega))
                            obtain ⟨⟨z0, z1, z2⟩, zf⟩ := htz.out
                            have y0 := zf 0
                            have y1 := zf 1
                            have y2 := zf 2
                            have hsB := Lib.hid (show b2 < (((wr.setCell ⟨b2, 0, none⟩ (.int .i64 0)).setCell ⟨b2, 1, none⟩ (.slice none 0 0)).setCell ⟨b2, 2, none⟩ (.slice none 0 0)).heap.size by simpa using hb2w)
                            clear zf
                            go_wp2_with (first | (go_at_call 56; refine (e5.out _).mono ?_; rintro e w1 ⟨rfl, rfl⟩))
                            refine bodyPost_ret (results_cell_tmp rfl _ _ b2 _ _ rfl (htz.out.stored.keep (below_alloc1 _ _) hsB.out).range Try.underlying81 rfl (by kernel_rfl)) rfl ?_
                            exact ⟨by simp, below_call (below_set (below_set (below_set hbE.out hb12.out.1) hb12.out.1) hb12.out.1) (below_alloc1 _ _)⟩
                        · have r4 : decide (f + l > t) = true := by simp; omega
                          have hf := hno.out (by rw [Bool.eq_false_iff]; intro h; have := jobB_iff.1 h; omega)
                          subst hf
                          clear hjB' hno hnx
                          have htz := Lib.hid (ht2.out.keep hbw.out (by omega))
                          obtain ⟨⟨z0, z1, z2⟩, zf⟩ := htz.out
                          have y0 := zf 0
                          have y1 := zf 1
                          have y2 := zf 2
                          have hsB := Lib.hid (show b2 < (((wr.setCell ⟨b2, 0, none⟩ (.int .i64 0)).setCell ⟨b2, 1, none⟩ (.slice none 0 0)).setCell ⟨b2, 2, none⟩ (.slice none 0 0)).heap.size by simpa using hb2w)
                          clear zf
                          go_wp2_with (first | (go_at_call 56; refine (e5.out _).mono ?_; rintro e w1 ⟨rfl, rfl⟩))
                          refine bodyPost_ret (results_cell_tmp rfl _ _ b2 _ _ rfl (htz.out.stored.keep (below_alloc1 _ _) hsB.out).range Try.underlying81 rfl (by kernel_rfl)) rfl ?_
                          exact ⟨by simp, below_call (below_set (below_set (below_set hbE.out hb12.out.1) hb12.out.1) hb12.out.1) (below_alloc1 _ _)⟩
                      · have r3 : decide (l > 24) = true := by simp; omega
                        have hf := hno.out (by rw [Bool.eq_false_iff]; intro h; have := jobB_iff.1 h; omega)
                        subst hf
                        clear hjB' hno hnx
                        have htz := Lib.hid (ht2.out.keep hbw.out (by omega))
                        obtain ⟨⟨z0, z1, z2⟩, zf⟩ := htz.out
                        have y0 := zf 0
                        have y1 := zf 1
                        have y2 := zf 2
                        have hsB := Lib.hid (show b2 < (((wr.setCell ⟨b2, 0, none⟩ (.int .i64 0)).setCell ⟨b2, 1, none⟩ (.slice none 0 0)).setCell ⟨b2, 2, none⟩ (.slice none 0 0)).heap.size by simpa using hb2w)
                        clear zf
                        go_wp2_with (first | (go_at_call 56; refine (e5.out _).mono ?_; rintro e w1 ⟨rfl, rfl⟩))
                        refine bodyPost_ret (results_cell_tmp rfl _ _ b2 _ _ rfl (htz.out.stored.keep (below_alloc1 _ _) hsB.out).range Try.underlying81 rfl (by kernel_rfl)) rfl ?_
                        exact ⟨by simp, below_call (below_set (below_set (below_set hbE.out hb12.out.1) hb12.out.1) hb12.out.1) (below_alloc1 _ _)⟩
                    · have r2 : decide (l < 1) = true := by simp; omega
                      have hf := hno.out (by rw [Bool.eq_false_iff]; intro h; have := jobB_iff.1 h; omega)
                      subst hf
                      clear hjB' hno hnx
                      have htz := Lib.hid (ht2.out.keep hbw.out (by omega))
                      obtain ⟨⟨z0, z1, z2⟩, zf⟩ := htz.out
                      have y0 := zf 0
                      have y1 := zf 1
                      have y2 := zf 2
                      have hsB := Lib.hid (show b2 < (((wr.setCell ⟨b2, 0, none⟩ (.int .i64 0)).setCell ⟨b2, 1, none⟩ (.slice none 0 0)).setCell ⟨b2, 2, none⟩ (.slice none 0 0)).heap.size by simpa using hb2w)
                      clear zf
                      go_wp2_with (first | (go_at_call 56; refine (e5.out _).mono ?_; rintro e w1 ⟨rfl, rfl⟩))
                      refine bodyPost_ret (results_cell_tmp rfl _ _ b2 _ _ rfl (htz.out.stored.keep (below_alloc1 _ _) hsB.out).range Try.underlying81 rfl (by kernel_rfl)) rfl ?_
                      exact ⟨by simp, below_call (below_set (below_set (below_set hbE.out hb12.out.1) hb12.out.1) hb12.out.1) (below_alloc1 _ _)⟩
                  · have r1 : decide (f > 24) = true := by simp; omega
                    have hf := hno.out (by rw [Bool.eq_false_iff]; intro h; have := jobB_iff.1 h; omega)
                    subst hf
                    clear hjB' hno hnx
                    have htz := Lib.hid (ht2.out.keep hbw.out (by omega))
                    obtain ⟨⟨z0, z1, z2⟩, zf⟩ := htz.out
                    have y0 := zf 0
                    have y1 := zf 1
                    have y2 := zf 2
                    have hsB := Lib.hid (show b2 < (((wr.setCell ⟨b2, 0, none⟩ (.int .i64 0)).setCell ⟨b2, 1, none⟩ (.slice none 0 0)).setCell ⟨b2, 2, none⟩ (.slice none 0 0)).heap.size by simpa using hb2w)
                    clear zf
                    go_wp2_with (first | (go_at_call 56; refine (e5.out _).mono ?_; rintro e w1 ⟨rfl, rfl⟩))
                    refine bodyPost_ret (results_cell_tmp rfl _ _ b2 _ _ rfl (htz.out.stored.keep (below_alloc1 _ _) hsB.out).range Try.underlying81 rfl (by kernel_rfl)) rfl ?_
                    exact ⟨by simp, below_call (below_set (below_set (below_set hbE.out hb12.out.1) hb12.out.1) hb12.out.1) (below_alloc1 _ _)⟩
                · have r0 : decide (f < 0) = true := by simp; omega
                  have hf := hno.out (by rw [Bool.eq_false_iff]; intro h; have := jobB_iff.1 h; omega)
                  subst hf
                  clear hjB' hno hnx
                  have htz := Lib.hid (ht2.out.keep hbw.out (by omega))
                  obtain ⟨⟨z0, z1, z2⟩, zf⟩ := htz.out
                  have y0 := zf 0
                  have y1 := zf 1
                  have y2 := zf 2
                  have hsB := Lib.hid (show b2 < (((wr.setCell ⟨b2, 0, none⟩ (.int .i64 0)).setCell ⟨b2, 1, none⟩ (.slice none 0 0)).setCell ⟨b2, 2, none⟩ (.slice none 0 0)).heap.size by simpa using hb2w)
                  clear zf
                  go_wp2_with (first | (go_at_call 56; refine (e5.out _).mono ?_; rintro e w1 ⟨rfl, rfl⟩))
                  refine bodyPost_ret (results_cell_tmp rfl _ _ b2 _ _ rfl (htz.out.stored.keep (below_alloc1 _ _) hsB.out).range Try.underlying81 rfl (by kernel_rfl)) rfl ?_
                  exact ⟨by simp, below_call (below_set (below_set (below_set hbE.out hb12.out.1) hb12.out.1) hb12.out.1) (below_alloc1 _ _)⟩
            · obtain rfl : n = i := by omega
              obtain rfl : jB = true := by rw [hjB'.out]; have := hall.out; rwa [List.take_of_length_le (by rw [← hn'.out]; omega)] at this
              have hbE2 := Lib.hid hbw.out
              have k1w := Lib.hid ((hbw.out.cell (p := ⟨b1, 1, none⟩) (by have := hb12.out; show b1 < _; omega)).trans ht1.out.1.2.1)
              have k2w := (hbw.out.cell (p := ⟨b1, 2, none⟩) (by have := hb12.out; show b1 < _; omega)).trans ht1.out.1.2.2
              have k1w' := k1w.out
              clear hall hjB' hbw hbE hsz hb2w
              go_wp2_with fail
              go_loopw [84] (fun iv wx => ∃ i : Nat, i ≤ m ∧ iv = .int .i64 i ∧ Hid ((os.take i).all (ordB n) = true) ∧ Hid (Below (b2 + 1) W1 wx)) (fun iv _ => m - (intOf iv).toNat)
              case atStart => exact ⟨0, Nat.zero_le _, rfl, Lib.hid rfl, hbE2⟩
              case round =>
                clear k1w k2w k1w' hbE2
                obtain ⟨i, hi, rfl, hall, hbw⟩ := hrel
                obtain ⟨wq, hwq⟩ : ∃ x : World, x = wr := ⟨_, rfl⟩
                have hbE := Lib.hid (show Below w.heap.size w wr from hwb.out.trans (hbw.out.mono (by have := hb12.out; omega)))
                have hsz := hbw.out.size
                have hb2w : b2 < wr.heap.size := by have := hs1'.out; omega
                have hb1w : b1 < wr.heap.size := by have := hb12.out; omega
                have k1 := (hbw.out.cell (p := ⟨b1, 1, none⟩) (by have := hb12.out; show b1 < _; omega)).trans ht1.out.1.2.1
                clear hwq
                by_cases hin : i < m
                · obtain ⟨g, rfl, hg, c0, c1⟩ := hoat'.out i (by rw [← hm'.out]; exact hin)
                  have d0 := (hbE.out.cell (p := ⟨g, i * 2, none⟩) hg).trans c0
                  have d1 := (hbE.out.cell (p := ⟨g, i * 2 + 1, none⟩) hg).trans c1
                  have hnx := Lib.hid (fun (h : ordB n (os.getD i (0, 0)) = true) => all_take hall.out (by rw [← hm'.out]; exact hin) h)
                  have hno := Lib.hid (fun (h : ordB n (os.getD i (0, 0)) = false) => (show oB = false by rw [hoB'.out]; exact all_not (by rw [← hm'.out]; exact hin) h))
                  obtain ⟨⟨b, a⟩, hjq⟩ : ∃ j, j = os.getD i (0, 0) := ⟨_, rfl⟩
                  rw [← hjq] at d0 d1 hnx hno
                  clear hjq c0 c1
                  simp only at d0 d1
                  have hk1 := Lib.hid (show (wr.alloc (.cells #[.int .i64 b, .int .i64 a] 78)).cell? ⟨b1, 1, none⟩ = some (.slice ja n jc) from ((below_alloc1 wr _).cell (p := ⟨b1, 1, none⟩) hb1w).trans k1)
                  have e1 := Lib.hid (fun (W : World) (h : W.cell? ⟨b1, 1, none⟩ = some (.slice ja n jc)) => isJob57 h b rfl)
                  have e2 := Lib.hid (fun (W : World) (h : W.cell? ⟨b1, 1, none⟩ = some (.slice ja n jc)) => isJob57 h a rfl)
                  have hb2 := Lib.hid (hbw.out.alloc (show b2 + 1 ≤ wr.heap.size by omega) (.cells #[.int .i64 b, .int .i64 a] 78))
                  cases x1 : inB b 0 ((n : Int) - 1) with
                  | false =>
                    rw [x1] at e1
                    have hf := hno.out (by rw [Bool.eq_false_iff]; intro h; have := ordB_iff.1 h; rw [show inB b 0 ((n : Int) - 1) = true by simp [inB]; omega] at x1; cases x1)
                    subst hf
                    clear hoB' hno hnx
                    have htz := Lib.hid (ht2.out.keep hbw.out (by omega))
                    obtain ⟨⟨z0, z1, z2⟩, zf⟩ := htz.out
                    have y0 := zf 0
                    have y1 := zf 1
                    have y2 := zf 2
                    have hsB := Lib.hid (show b2 < (((wr.setCell ⟨b2, 0, none⟩ (.int .i64 0)).setCell ⟨b2, 1, none⟩ (.slice none 0 0)).setCell ⟨b2, 2, none⟩ (.slice none 0 0)).heap.size by simpa using hb2w)
                    clear zf
                    go_wp2_with (first | (go_at_call_of 57 (Value.int IntKind.i64 b); refine (e1.out _ hk1.out).mono ?_; rintro e w1 ⟨rfl, rfl⟩) | (go_at_call_of 57 (Value.int IntKind.i64 a); refine (e2.out _ hk1.out).mono ?_; rintro e w1 ⟨rfl, rfl⟩))
                    refine bodyPost_ret (results_cell_tmp rfl _ _ b2 _ _ rfl (htz.out.stored.keep (below_alloc1 _ _) hsB.out).range Try.underlying81 rfl (by kernel_rfl)) rfl ?_
                    exact ⟨by simp, below_call (below_set (below_set (below_set hbE.out hb12.out.1) hb12.out.1) hb12.out.1) (below_alloc1 _ _)⟩
                  | true =>
                    rw [x1] at e1
                    cases x2 : inB a 0 ((n : Int) - 1) with
                    | false =>
                      rw [x2] at e2
                      have hf := hno.out (by rw [Bool.eq_false_iff]; intro h; have := ordB_iff.1 h; rw [show inB a 0 ((n : Int) - 1) = true by simp [inB]; omega] at x2; cases x2)
                      subst hf
                      clear hoB' hno hnx
                      have htz := Lib.hid (ht2.out.keep hbw.out (by omega))
                      obtain ⟨⟨z0, z1, z2⟩, zf⟩ := htz.out
                      have y0 := zf 0
                      have y1 := zf 1
                      have y2 := zf 2
                      have hsB := Lib.hid (show b2 < (((wr.setCell ⟨b2, 0, none⟩ (.int .i64 0)).setCell ⟨b2, 1, none⟩ (.slice none 0 0)).setCell ⟨b2, 2, none⟩ (.slice none 0 0)).heap.size by simpa using hb2w)
                      clear zf
                      go_wp2_with (first | (go_at_call_of 57 (Value.int IntKind.i64 b); refine (e1.out _ hk1.out).mono ?_; rintro e w1 ⟨rfl, rfl⟩) | (go_at_call_of 57 (Value.int IntKind.i64 a); refine (e2.out _ hk1.out).mono ?_; rintro e w1 ⟨rfl, rfl⟩))
                      refine bodyPost_ret (results_cell_tmp rfl _ _ b2 _ _ rfl (htz.out.stored.keep (below_alloc1 _ _) hsB.out).range Try.underlying81 rfl (by kernel_rfl)) rfl ?_
                      exact ⟨by simp, below_call (below_set (below_set (below_set hbE.out hb12.out.1) hb12.out.1) hb12.out.1) (below_alloc1 _ _)⟩
                    | true =>
                      rw [x2] at e2
                      by_cases hba : b = a
                      · subst hba
                        have x4 : (b == b) = true := by simp
                        have hf := hno.out (by rw [Bool.eq_false_iff]; intro h; have := ordB_iff.1 h; exact this.2.2 rfl)
                        subst hf
                        clear hoB' hno hnx
                        have htz := Lib.hid (ht2.out.keep hbw.out (by omega))
                        obtain ⟨⟨z0, z1, z2⟩, zf⟩ := htz.out
                        have y0 := zf 0
                        have y1 := zf 1
                        have y2 := zf 2
                        have hsB := Lib.hid (show b2 < (((wr.setCell ⟨b2, 0, none⟩ (.int .i64 0)).setCell ⟨b2, 1, none⟩ (.slice none 0 0)).setCell ⟨b2, 2, none⟩ (.slice none 0 0)).heap.size by simpa using hb2w)
                        clear zf
                        go_wp2_with (first | (go_at_call_of 57 (Value.int IntKind.i64 b); refine (e1.out _ hk1.out).mono ?_; rintro e w1 ⟨rfl, rfl⟩) | (go_at_call_of 57 (Value.int IntKind.i64 a); refine (e2.out _ hk1.out).mono ?_; rintro e w1 ⟨rfl, rfl⟩))
                        refine bodyPost_ret (results_cell_tmp rfl _ _ b2 _ _ rfl (htz.out.stored.keep (below_alloc1 _ _) hsB.out).range Try.underlying81 rfl (by kernel_rfl)) rfl ?_
                        exact ⟨by simp, below_call (below_set (below_set (below_set hbE.out hb12.out.1) hb12.out.1) hb12.out.1) (below_alloc1 _ _)⟩
                      · have x4 : (b == a) = false := by simpa using hba
                        have hok := Lib.hid (hnx.out (ordB_iff.2 ⟨by simpa [inB] using x1, by simpa [inB] using x2, hba⟩))
                        clear hno hnx x1 x2
                        go_wp2_with (first | (go_at_call_of 57 (Value.int IntKind.i64 b); refine (e1.out _ hk1.out).mono ?_; rintro e w1 ⟨rfl, rfl⟩) | (go_at_call_of 57 (Value.int IntKind.i64 a); refine (e2.out _ hk1.out).mono ?_; rintro e w1 ⟨rfl, rfl⟩))
                        go_roundw
                        case rel => exact ⟨i + 1, by omega, by go_num, hok, hb2⟩
                        case measure => simp [intOf]; omega
                · obtain rfl : m = i := by omega
                  obtain rfl : oB = true := by rw [hoB'.out]; have := hall.out; rwa [List.take_of_length_le (by rw [← hm'.out]; omega)] at this
                  have htz := Lib.hid (ht2.out.keep hbw.out (by omega))
                  obtain ⟨⟨z0, z1, z2⟩, zf⟩ := htz.out
                  have y0 := zf 0
                  have y1 := zf 1
                  have y2 := zf 2
                  have k0 := (hbw.out.cell (p := ⟨b1, 0, none⟩) (by have := hb12.out; show b1 < _; omega)).trans ht1.out.1.1
                  have k2 := (hbw.out.cell (p := ⟨b1, 2, none⟩) (by have := hb12.out; show b1 < _; omega)).trans ht1.out.1.2.2
                  clear zf hall hoB'
                  go_wp2_with fail
                  refine bodyPost_ret (results_cell_tmp rfl _ _ b2 _ _ rfl htz.out.stored.range Try.underlying81 rfl (by kernel_rfl)) rfl ?_
                  exact ⟨by simp, below_set (below_set (below_set hbE.out hb12.out.1) hb12.out.1) hb12.out.1⟩
        · obtain rfl : nB = false := by rw [hnB]; simp; omega
          clear hnB
          have htz := Lib.hid (ht2.out.keep (Below.refl (b2 + 1) W1) (by omega))
          obtain ⟨⟨z0, z1, z2⟩, zf⟩ := htz.out
          have y0 := zf 0
          have y1 := zf 1
          have y2 := zf 2
          clear zf
          go_wp2_with (first | (go_at_call 56; refine (e0.out _).mono ?_; rintro e w1 ⟨rfl, rfl⟩))
          refine bodyPost_ret (results_cell_tmp rfl _ _ b2 _ _ rfl htz.out.stored.range Try.underlying81 rfl (by kernel_rfl)) rfl ?_
          exact ⟨by simp, below_set (below_set (below_set hwb.out hb12.out.1) hb12.out.1) hb12.out.1⟩
      · obtain rfl : nB = false := by rw [hnB]; simp [inB]; omega
        clear hnB
        have htz := Lib.hid (ht2.out.keep (Below.refl (b2 + 1) W1) (by omega))
        obtain ⟨⟨z0, z1, z2⟩, zf⟩ := htz.out
        have y0 := zf 0
        have y1 := zf 1
        have y2 := zf 2
        clear zf
        go_wp2_with (first | (go_at_call 56; refine (e0.out _).mono ?_; rintro e w1 ⟨rfl, rfl⟩))
        refine bodyPost_ret (results_cell_tmp rfl _ _ b2 _ _ rfl htz.out.stored.range Try.underlying81 rfl (by kernel_rfl)) rfl ?_
        exact ⟨by simp, below_set (below_set (below_set hwb.out hb12.out.1) hb12.out.1) hb12.out.1⟩
    · obtain rfl : nB = false := by rw [hnB]; simp [inB]; omega
      clear hnB
      have htz := Lib.hid (ht2.out.keep (Below.refl (b2 + 1) W1) (by omega))
      obtain ⟨⟨z0, z1, z2⟩, zf⟩ := htz.out
      have y0 := zf 0
      have y1 := zf 1
      have y2 := zf 2
      clear zf
      go_wp2_with (first | (go_at_call 56; refine (e0.out _).mono ?_; rintro e w1 ⟨rfl, rfl⟩))
      refine bodyPost_ret (results_cell_tmp rfl _ _ b2 _ _ rfl htz.out.stored.range Try.underlying81 rfl (by kernel_rfl)) rfl ?_
      exact ⟨by simp, below_set (below_set (below_set hwb.out hb12.out.1) hb12.out.1) hb12.out.1⟩
end Go.Proofs.Ytjkbhdlbomcbeaa

namespace Go.Proofs.Ytjkbhdlbomcbeaa
open Go.RowKit Shf

theorem ReadsJ.flat {w : World} {v : Value} {js : List J} (h : ReadsJ w v js) (hne : js ≠ []) : FlatR w 4 v js.length (flat encJ js) := by
  obtain ⟨ao, c, rfl, hc, h⟩ := h
  refine ⟨flat_len encJ_len js, ao, c, rfl, hc, fun e => ?_, fun _ => ?_⟩
  · obtain ⟨g, hg, _⟩ := h hne
    rw [e] at hg; cases hg
  · obtain ⟨g, hg, h1, h2⟩ := h hne
    exact ⟨g, 0, hg, h1, fun j u hj => by rw [Nat.zero_add]; exact h2 j u hj⟩
theorem nil22 (W : World) (a : Option Addr) (n c n' c' : Nat) : (binOp .eql 22 (.slice a n c) (.slice none n' c')).run Try.prog W = .ok (.bool a.isNone) W := Lib.run_eql_slice_nil W _ _ a n c n' c' Try.underlying22
/-- append(s, src...) of structs, at the model's operation. -/
theorem app_flat {ops : Array Oper} {rest : List Oper} {o : Oper} {a : Act} {Q : Exit → Act → World → Prop} {w : World} {B m n z bytes : Nat} {t e : TypeId} {i0 : TypeInfo} {zv : Value} (ht : Try.prog.underlying t = some (.slice e)) (hi : Try.prog.info? e = some i0) (hz0 : i0.zero = some zv) (hz1 : i0.size = z) (hz2 : i0.bytes = bytes) (hzc : zv.cells.size = z) (hz : 0 < z) (hby : bytes ≤ 100)
    {v : Value} {ad : Addr} {c : Nat} {xs ys : List Value} (hown : w.ownsRow B e z v n xs) (hx : FlatR w z (.slice (some ad) m c) m ys) (h1 : ∀ u ∈ ys, u.oneCell' = true) (hlen : n + m ≤ 1000000) (hB : B ≤ w.heap.size) (hgd : o.guard = none) (s x : Operand)
    (ho : o.op = .call { callee := .builtin .append, args := #[s, x], argTypes := #[t, t] }) (hs : a.eval s = v) (hxv : a.eval x = .slice (some ad) m c)
    (h : ∀ v' w', w'.ownsRow B e z v' (n + m) (xs ++ ys) → Below B w w' → wpList Try.prog ops Q rest (a.put o.dst v') w') : wpList Try.prog ops Q (o :: rest) a w := by
  obtain ⟨h0, ao, c', e1, hc, hnone, hcl⟩ := hx
  obtain ⟨rfl, rfl⟩ : some ad = ao ∧ c = c' := by injection e1 with a _ b; exact ⟨a, b⟩
  refine wpList_append_own _ hgd s x t ho B e i0 zv z bytes ht hi hz0 hz1 hz2 hzc hz v n xs hs hown ad m c ys hxv h0 ?_ h1 (by unfold maxLen; omega) (Nat.le_trans (Nat.mul_le_mul hlen hby) (by omega)) hB ?_
  · intro j u hj
    by_cases hm : m = 0
    · subst hm
      have := (List.getElem?_eq_some_iff.1 hj).1
      rw [h0] at this; omega
    · obtain ⟨g, o, e1, _, hcell⟩ := hcl hm
      obtain rfl : ad = ⟨g, o, none⟩ := by injection e1
      rw [show (⟨g, o, none⟩ : Addr).add j = ⟨g, o + j, none⟩ from by simp [Addr.add]]
      exact hcell j u hj
  · intro v' w' h2 h3 _
    exact h v' w' h2 ((Below.refl B w).grown h3 hB (fun k hk => (World.ownsRow.lt hown k hk).1))
/-- A copy of the jobs. -/
def CloneEnd (w : World) (js : List J) (e : Ending) (w' : World) : Prop := ∃ v', e = .returned v' ∧ OwnJ w' w.heap.size v' js ∧ Below w.heap.size w w'
set_option maxHeartbeats 4000000 in
set_option maxRecDepth 100000 in
theorem clone63 {w : World} {v : Value} {js : List J} (h : ReadsJ w v js) (hne : js ≠ []) (hl : js.length ≤ 7) : Calls Try.prog 63 #[v] w (CloneEnd w js) := by
  have hf := h.flat hne
  obtain ⟨a, n, c, rfl, hn0⟩ : ∃ a n c, v = .slice (some a) n c ∧ n = js.length := by
    obtain ⟨ao, c, rfl, hc, h⟩ := h
    obtain ⟨g, rfl, _⟩ := h hne
    exact ⟨_, _, c, rfl, rfl⟩
  rw [← hn0] at hf
  obtain ⟨iJ, hiJ, hJ0, hJ1, hJ2⟩ := info_parts info56
  have hb1 := Lib.hid (below_alloc1 w (.cells #[] 56))
  have hlit := lit_own w w.heap.size w.heap.size 4 56 (Nat.le_refl _) rfl
  have hf' := Lib.hid (hf.below hb1.out)
  have hlit' := Lib.hid hlit
  have hn' := Lib.hid hn0
  clear h hf hlit hn0
  have hq := nil22 w (some a) n c 0 0
  go_enter Try.func63, Try.ntmps63
  go_wp2_with (at_builtin; refine app_flat Try.underlying22 hiJ hJ0 hJ1 hJ2 rfl (by decide) (by decide) hlit'.out hf'.out (one_flatJ js) (by have := hn'.out; omega) (by simp) rfl _ _ rfl rfl rfl ?_; intro v' w' hown hbw; have hown := Lib.hid hown; have hbw := Lib.hid (hb1.out.trans hbw))
  go_ret
  refine ⟨_, rfl, ?_, hbw.out⟩
  have := hown.out
  rw [List.nil_append, Nat.zero_add, hn'.out] at this
  exact this
end Go.Proofs.Ytjkbhdlbomcbeaa
