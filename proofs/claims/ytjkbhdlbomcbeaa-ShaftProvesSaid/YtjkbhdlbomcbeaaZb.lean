import Derived.Test.YtjkbhdlbomcbeaaZa
namespace Go.Proofs.Ytjkbhdlbomcbeaa
open Go.RowKit Go.Shelf Shf

/-- What all jobs need from `a` up to `b`. -/
def needS (js : List J) (a b : Int) (n : Nat) : Int := sm n fun i => needJ (js.getD i J0) a b
theorem needS_in {js : List J} (h : ∀ i, i < js.length → JobIn (js.getD i J0)) {a b : Int} (hab : a ≤ b) {n : Nat} (hn : n ≤ js.length) : 0 ≤ needS js a b n ∧ needS js a b n ≤ n * 480 :=
  sm_bound (by omega) n (fun i hi => needJ_in (h i (by omega)) hab)
set_option maxHeartbeats 4000000 in
set_option maxRecDepth 100000 in
theorem refNeed49 {w : World} {j : J} (h : JobIn j) {a b : Int} (ha : 0 ≤ a ∧ a ≤ 24) (hb : 0 ≤ b ∧ b ≤ 24) (hab : a ≤ b) :
    Calls Try.prog 49 #[.agg #[.int .i64 j.f, .int .i64 j.t, .int .i64 j.l, .int .i64 j.p], .int .i64 a, .int .i64 b] w fun e w' => e = .returned (.int .i64 (needJ j a b)) ∧ Below w.heap.size w w' := by
  have hin := needJ_in h hab
  obtain ⟨f, t, l, p⟩ := j
  unfold JobIn at h
  simp only at h ⊢
  obtain ⟨x, hx⟩ : ∃ x, x = max 0 (f + l - a) := ⟨_, rfl⟩
  obtain ⟨y, hy⟩ : ∃ y, y = max 0 (b - (t - l)) := ⟨_, rfl⟩
  have hneed : needJ ⟨f, t, l, p⟩ a b = p * min (min (min l (b - a)) x) y := by rw [hx, hy]; rfl
  obtain ⟨m, hm⟩ : ∃ m, m = min (min (min l (b - a)) x) y := ⟨_, rfl⟩
  rw [← hm] at hneed
  rw [hneed] at hin ⊢
  have hb0 := Lib.hid (below_alloc1 w (.cells #[.int .i64 f, .int .i64 t, .int .i64 l, .int .i64 p] 56))
  by_cases hx2 : 0 < f + l - a <;> by_cases hy2 : 0 < b - t + l
  · obtain rfl : x = f + l - a := by omega
    obtain rfl : y = b - t + l := by omega
    have hm4 := fun (W : World) => run_min4 (P := Try.prog) (w := W) #[3, 3, 3, 3] 3 l (b - a) (f + l - a) (b - t + l) m hm
    clear hx hy hneed hm
    go_enter Try.func49, Try.ntmps49
    go_wp2_with fail
    go_ret
    exact ⟨rfl, hb0.out⟩
  · obtain rfl : x = f + l - a := by omega
    obtain rfl : y = 0 := by omega
    have hm4 := fun (W : World) => run_min4 (P := Try.prog) (w := W) #[3, 3, 3, 3] 3 l (b - a) (f + l - a) 0 m hm
    clear hx hy hneed hm
    go_enter Try.func49, Try.ntmps49
    go_wp2_with fail
    go_ret
    exact ⟨rfl, hb0.out⟩
  · obtain rfl : x = 0 := by omega
    obtain rfl : y = b - t + l := by omega
    have hm4 := fun (W : World) => run_min4 (P := Try.prog) (w := W) #[3, 3, 3, 3] 3 l (b - a) 0 (b - t + l) m hm
    clear hx hy hneed hm
    go_enter Try.func49, Try.ntmps49
    go_wp2_with fail
    go_ret
    exact ⟨rfl, hb0.out⟩
  · obtain rfl : x = 0 := by omega
    obtain rfl : y = 0 := by omega
    have hm4 := fun (W : World) => run_min4 (P := Try.prog) (w := W) #[3, 3, 3, 3] 3 l (b - a) 0 0 m hm
    clear hx hy hneed hm
    go_enter Try.func49, Try.ntmps49
    go_wp2_with fail
    go_ret
    exact ⟨rfl, hb0.out⟩
def NeedsEnd (w : World) (js : List J) (a b : Int) (e : Ending) (w' : World) : Prop := e = .returned (.int .i64 (needS js a b js.length)) ∧ Below w.heap.size w w'
set_option maxHeartbeats 4000000 in
set_option maxRecDepth 100000 in
theorem needs48 {w : World} {v : Value} {P : Int} {js : List J} {os : List (Int × Int)} (h : ShV w v P js os) (h7 : js.length ≤ 7) (hj : ∀ i, i < js.length → JobIn (js.getD i J0)) {a b : Int} (ha : 0 ≤ a ∧ a ≤ 24) (hb : 0 ≤ b ∧ b ≤ 24) (hab : a ≤ b) :
    Calls Try.prog 48 #[v, .int .i64 a, .int .i64 b] w (NeedsEnd w js a b) := by
  obtain ⟨jv, ov, rfl, rj, ro⟩ := h
  obtain ⟨ja, jc, rfl, hjc, hjat⟩ := rj.at
  obtain ⟨oa, m, oc, rfl⟩ : ∃ a n c, ov = .slice a n c := by obtain ⟨a, c, e, _⟩ := ro; exact ⟨_, _, _, e⟩
  obtain ⟨n, hn⟩ : ∃ n, n = js.length := ⟨_, rfl⟩
  rw [← hn] at rj hjc hjat h7 ⊢
  have hn' := Lib.hid hn
  have hjat' := Lib.hid hjat
  have hj' := Lib.hid hj
  have hb0 := Lib.hid (below_alloc1 w (.cells #[.int .i64 P, .slice ja n jc, .slice oa m oc] 81))
  have ht0 := Lib.hid (Three.new w (.int .i64 P) (.slice ja n jc) (.slice oa m oc) 81)
  have hz0 := Lib.hid (show w.heap.size < (w.alloc (.cells #[.int .i64 P, .slice ja n jc, .slice oa m oc] 81)).heap.size by simp)
  clear hn hjat hj rj ro
  go_enter Try.func48, Try.ntmps48
  go_wp2_with fail
  obtain ⟨W1, hW1⟩ : ∃ W1, W1 = w.alloc (.cells #[.int .i64 P, .slice ja n jc, .slice oa m oc] 81) := ⟨_, rfl⟩
  rw [← hW1] at hb0 ht0 hz0 ⊢
  clear hW1
  go_loopw [7, 13] (fun sv iv wr => ∃ i : Nat, i ≤ n ∧ iv = .int .i64 i ∧ sv = .int .i64 (needS js a b i) ∧ Hid (Below W1.heap.size W1 wr)) (fun _ iv _ => n - (intOf iv).toNat)
  case atStart => exact ⟨0, Nat.zero_le _, rfl, rfl, Lib.hid (Below.refl _ _)⟩
  case round =>
    obtain ⟨i, hi, rfl, rfl, hB⟩ := hrel
    obtain ⟨wo, rfl⟩ : ∃ wo : World, wo = wr := ⟨_, rfl⟩
    have hBw := Lib.hid (below_call hb0.out hB.out)
    by_cases hin : i < n
    · obtain ⟨g, rfl, hg, k0, k1, k2, k3⟩ := hjat'.out i hin
      have d0 := (hBw.out.cell (p := ⟨g, i * 4, none⟩) hg).trans k0
      have d1 := (hBw.out.cell (p := ⟨g, i * 4 + 1, none⟩) hg).trans k1
      have d2 := (hBw.out.cell (p := ⟨g, i * 4 + 2, none⟩) hg).trans k2
      have d3 := (hBw.out.cell (p := ⟨g, i * 4 + 3, none⟩) hg).trans k3
      have hsi := needS_in hj'.out hab (n := i) (by rw [← hn'.out]; omega)
      have hjn := needJ_in (hj'.out i (by rw [← hn'.out]; exact hin)) hab
      have hnx := Lib.hid (show needS js a b (i + 1) = needS js a b i + needJ (js.getD i J0) a b from rfl)
      have hnd := Lib.hid (fun (W : World) => need66 (w := W) (hj'.out i (by rw [← hn'.out]; exact hin)) ha hb hab)
      obtain ⟨⟨f, t, l, p⟩, hjq⟩ : ∃ j, j = js.getD i J0 := ⟨_, rfl⟩
      rw [← hjq] at d0 d1 d2 d3 hnd hjn hnx
      simp only at d0 d1 d2 d3 hnd
      obtain ⟨z, hz⟩ : ∃ z, z = needS js a b i := ⟨_, rfl⟩
      obtain ⟨y, hy⟩ : ∃ y, y = needJ ⟨f, t, l, p⟩ a b := ⟨_, rfl⟩
      rw [← hz] at hsi hnx ⊢
      rw [← hy] at hjn hnx hnd
      have hin' : (i : Int) < (n : Int) := by omega
      have hwJ := Lib.hid (below_call hB.out (below_alloc1 wo (.cells #[.int .i64 f, .int .i64 t, .int .i64 l, .int .i64 p] 56)))
      clear k0 k1 k2 k3 hjq hz hy
      go_wp2_with (
        go_at_call 66; refine (hnd.out _).mono ?_; rintro e w2 ⟨rfl, hb2⟩
        have hb2' := Lib.hid (below_call hwJ.out hb2)
        clear hb2)
      go_roundw
      case rel => exact ⟨i + 1, by omega, by go_num, int_eq hnx.out.symm, hb2'⟩
      case measure => simp [intOf]; omega
    · obtain rfl : i = n := by omega
      go_wp2_with fail
      go_ret
      exact ⟨by rw [hn'.out]; rfl, hBw.out⟩
end Go.Proofs.Ytjkbhdlbomcbeaa
