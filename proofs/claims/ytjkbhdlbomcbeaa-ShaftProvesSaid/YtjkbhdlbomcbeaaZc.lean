import Derived.Test.YtjkbhdlbomcbeaaZb
import Derived.Test.YtjkbhdlbomcbeaaWd
namespace Go.Proofs.Ytjkbhdlbomcbeaa
open Go.RowKit Go.Shelf Shf

set_option maxHeartbeats 4000000 in
set_option maxRecDepth 100000 in
theorem refNeeds29 {w : World} {v : Value} {P : Int} {js : List J} {os : List (Int × Int)} (h : ShV w v P js os) (h7 : js.length ≤ 7) (hj : ∀ i, i < js.length → JobIn (js.getD i J0)) {a b : Int} (ha : 0 ≤ a ∧ a ≤ 24) (hb : 0 ≤ b ∧ b ≤ 24) (hab : a ≤ b) :
    Calls Try.prog 29 #[v, .int .i64 a, .int .i64 b] w (NeedsEnd w js a b) := by
  obtain ⟨jv, ov, rfl, rj, ro⟩ := h
  obtain ⟨ja, jc, rfl, hjc, hjat⟩ := rj.at
  obtain ⟨oa, m, oc, rfl⟩ : ∃ a n c, ov = .slice a n c := by obtain ⟨a, c, e, _⟩ := ro; exact ⟨_, _, _, e⟩
  obtain ⟨n, hn⟩ : ∃ n, n = js.length := ⟨_, rfl⟩
  rw [← hn] at rj hjc hjat h7 ⊢
  have hn' := Lib.hid hn
  have hjat' := Lib.hid hjat
  have hj' := Lib.hid hj
  have hb0 := Lib.hid (below_alloc1 w (.cells #[.int .i64 P, .slice ja n jc, .slice oa m oc] 25))
  have ht0 := Lib.hid (Three.new w (.int .i64 P) (.slice ja n jc) (.slice oa m oc) 25)
  have hz0 := Lib.hid (show w.heap.size < (w.alloc (.cells #[.int .i64 P, .slice ja n jc, .slice oa m oc] 25)).heap.size by simp)
  clear hn hjat hj rj ro
  go_enter Try.func29, Try.ntmps29
  go_wp2_with fail
  obtain ⟨W1, hW1⟩ : ∃ W1, W1 = w.alloc (.cells #[.int .i64 P, .slice ja n jc, .slice oa m oc] 25) := ⟨_, rfl⟩
  rw [← hW1] at hb0 ht0 hz0 ⊢
  clear hW1
  go_loopw [7, 8] (fun sv iv wr => ∃ i : Nat, i ≤ n ∧ iv = .int .i64 i ∧ sv = .int .i64 (needS js a b i) ∧ Hid (Below W1.heap.size W1 wr)) (fun _ iv _ => n - (intOf iv).toNat)
  case atStart => exact ⟨0, Nat.zero_le _, rfl, rfl, Lib.hid (Below.refl _ _)⟩
  case round =>
    obtain ⟨i, hi, rfl, rfl, hB⟩ := hrel
    obtain ⟨wo, rfl⟩ : ∃ wo : World, wo = wr := ⟨_, rfl⟩
    have hBw := Lib.hid (below_call hb0.out hB.out)
    obtain ⟨⟨y0, y1, y2⟩, -⟩ := ht0.out.keep hB.out hz0.out
    by_cases hin : i < n
    · obtain ⟨g, rfl, hg, k0, k1, k2, k3⟩ := hjat'.out i hin
      have d0 := (hBw.out.cell (p := ⟨g, i * 4, none⟩) hg).trans k0
      have d1 := (hBw.out.cell (p := ⟨g, i * 4 + 1, none⟩) hg).trans k1
      have d2 := (hBw.out.cell (p := ⟨g, i * 4 + 2, none⟩) hg).trans k2
      have d3 := (hBw.out.cell (p := ⟨g, i * 4 + 3, none⟩) hg).trans k3
      have hsi := needS_in hj'.out hab (n := i) (by rw [← hn'.out]; omega)
      have hjn := needJ_in (hj'.out i (by rw [← hn'.out]; exact hin)) hab
      have hnx := Lib.hid (show needS js a b (i + 1) = needS js a b i + needJ (js.getD i J0) a b from rfl)
      have hnd := Lib.hid (fun (W : World) => refNeed49 (w := W) (hj'.out i (by rw [← hn'.out]; exact hin)) ha hb hab)
      obtain ⟨⟨f, t, l, p⟩, hjq⟩ : ∃ j, j = js.getD i J0 := ⟨_, rfl⟩
      rw [← hjq] at d0 d1 d2 d3 hnd hjn hnx
      simp only at d0 d1 d2 d3 hnd
      obtain ⟨z, hz⟩ : ∃ z, z = needS js a b i := ⟨_, rfl⟩
      obtain ⟨y, hy⟩ : ∃ y, y = needJ ⟨f, t, l, p⟩ a b := ⟨_, rfl⟩
      rw [← hz] at hsi hnx ⊢
      rw [← hy] at hjn hnx hnd
      have hin' : (i : Int) < (n : Int) := by omega
      clear k0 k1 k2 k3 hjq hz hy
      go_wp2_with (
        go_at_call 49; refine (hnd.out _).mono ?_; rintro e w2 ⟨rfl, hb2⟩
        have hb2' := Lib.hid (below_call hB.out hb2)
        clear hb2)
      go_roundw
      case rel => exact ⟨i + 1, by omega, by go_num, int_eq hnx.out.symm, hb2'⟩
      case measure => simp [intOf]; omega
    · obtain rfl : i = n := by omega
      go_wp2_with fail
      go_ret
      exact ⟨by rw [hn'.out]; rfl, hBw.out⟩
def intB (a b : Int) : Bool := decide (0 ≤ a) && (decide (a < b) && decide (b ≤ 24))
set_option maxRecDepth 100000 in
theorem interval47 {w : World} (a b : Int) {d : Bool} (hd : intB a b = d) : Calls Try.prog 47 #[.int .i64 a, .int .i64 b] w fun e w' => e = .returned (.bool d) ∧ w = w' := by
  subst hd
  by_cases h1 : 0 ≤ a
  · have h1' : decide (a ≥ 0) = true := by simpa using h1
    by_cases h2 : a < b
    · go_enter Try.func47, Try.ntmps47
      go_wp2
      go_ret
      exact ⟨ret_b (by unfold intB; simp [h1, h2]), rfl⟩
    · have h2' : decide (a < b) = false := by simpa using h2
      go_enter Try.func47, Try.ntmps47
      go_wp2
      go_ret
      exact ⟨ret_b (by unfold intB; rw [h2']; simp), rfl⟩
  · have h1' : decide (a ≥ 0) = false := by simpa using h1
    go_enter Try.func47, Try.ntmps47
    go_wp2
    go_ret
    exact ⟨ret_b (by unfold intB; rw [show decide (0 ≤ a) = false by simpa using h1]; rfl), rfl⟩
/-- What Needs answers. -/
def NeedsAns (P : Int) (js : List J) (os : List (Int × Int)) (a b n err : Int) : Prop :=
  (validB P js os = false ∧ n = 0 ∧ err = 1) ∨ (validB P js os = true ∧ ((intB a b = false ∧ n = 0 ∧ err = 1) ∨ (intB a b = true ∧ n = needS js a b js.length ∧ err = 0)))
theorem valid_jobs {P : Int} {js : List J} {os : List (Int × Int)} (h : validB P js os = true) : ∀ i, i < js.length → JobIn (js.getD i J0) := fun i hi => (valid_sh h).1.loose.jobs i hi
theorem intB_iff {a b : Int} : intB a b = true ↔ 0 ≤ a ∧ a < b ∧ b ≤ 24 := by simp [intB]
set_option maxHeartbeats 4000000 in
set_option maxRecDepth 100000 in
theorem needs27 {w : World} {v : Value} {P : Int} {js : List J} {os : List (Int × Int)} (h : ShV w v P js os) (h7 : js.length ≤ 7) (h21 : os.length ≤ 21) (a b : Int) {n err : Int} (hans : NeedsAns P js os a b n err) :
    Calls Try.prog 27 #[v, .int .i64 a, .int .i64 b] w fun e w' => e = .returned (.tuple #[.int .i64 n, .int .i64 err]) ∧ Below w.heap.size w w' := by
  obtain ⟨jv, ov, rfl, rj, ro⟩ := h
  obtain ⟨ja, jn, jc, rfl⟩ : ∃ a n c, jv = .slice a n c := by obtain ⟨a, c, e, _⟩ := rj; exact ⟨_, _, _, e⟩
  obtain ⟨oa, m, oc, rfl⟩ : ∃ a n c, ov = .slice a n c := by obtain ⟨a, c, e, _⟩ := ro; exact ⟨_, _, _, e⟩
  have hb0 := Lib.hid (below_alloc1 w (.cells #[.int .i64 P, .slice ja jn jc, .slice oa m oc] 25))
  have hsh := Lib.hid (fun (W : World) (hb : Below w.heap.size w W) => (show ShV W (.agg #[.int .i64 P, .slice ja jn jc, .slice oa m oc]) P js os from ⟨_, _, rfl, rj.below hb, ro.below hb⟩))
  have hnw := fun (d : Bool) (hd : validB P js os = d) => new37' (rj.below hb0.out) (ro.below hb0.out) h7 h21 hd
  have h7' := Lib.hid h7
  rcases hans with ⟨hv, rfl, rfl⟩ | ⟨hv, ⟨hi, rfl, rfl⟩ | ⟨hi, rfl, rfl⟩⟩
  · have hnn := Lib.hid (hnw false hv)
    clear hnw hv rj ro h7 h21
    go_enter Try.func27, Try.ntmps27
    go_wp2_with (go_at_call 37; refine (hnn.out).mono ?_; rintro e w1 ⟨rfl, hb1⟩; have hb1' := Lib.hid (below_call hb0.out hb1); clear hb1)
    go_ret2
    exact ⟨rfl, below_call hb1'.out (below_alloc1 _ _)⟩
  · have hnn := Lib.hid (hnw true hv)
    have hiv := Lib.hid (fun (W : World) => interval47 (w := W) a b hi)
    clear hnw hv rj ro h7 h21 hi
    go_enter Try.func27, Try.ntmps27
    go_wp2_with (
      first
      | (go_at_call 37; refine (hnn.out).mono ?_; rintro e w1 ⟨rfl, hb1⟩; have hb1' := Lib.hid (below_call (below_call hb0.out hb1) (below_alloc1 _ (.cells #[.int .i64 P, .slice ja jn jc, .slice oa m oc] 81))); clear hb1)
      | (go_at_call 47; refine (hiv.out _).mono ?_; rintro e w2 ⟨rfl, rfl⟩))
    go_ret2
    exact ⟨rfl, hb1'.out⟩
  · have hnn := Lib.hid (hnw true hv)
    have hiv := Lib.hid (fun (W : World) => interval47 (w := W) a b hi)
    have hij := intB_iff.1 hi
    have hnd := Lib.hid (fun (W : World) (hb : Below w.heap.size w W) => needs48 (w := W) (hsh.out W hb) h7'.out (valid_jobs hv) (a := a) (b := b) (by omega) (by omega) (by omega))
    obtain ⟨z, hz⟩ : ∃ z, z = needS js a b js.length := ⟨_, rfl⟩
    rw [← hz]
    have hz' := Lib.hid hz
    clear hnw hv rj ro h7 h21 hi hij hz
    go_enter Try.func27, Try.ntmps27
    go_wp2_with (
      first
      | (go_at_call 37; refine (hnn.out).mono ?_; rintro e w1 ⟨rfl, hb1⟩
         have hb1' := Lib.hid (below_call (below_call hb0.out hb1) (below_alloc1 _ (.cells #[.int .i64 P, .slice ja jn jc, .slice oa m oc] 81)))
         have hn1 := Lib.hid (hnd.out _ hb1'.out)
         clear hb1)
      | (go_at_call 47; refine (hiv.out _).mono ?_; rintro e w2 ⟨rfl, rfl⟩)
      | (go_at_call 48; refine (hn1.out).mono ?_; rintro e w3 ⟨rfl, hb3⟩; rw [← hz'.out]; have hb3' := Lib.hid (below_call hb1'.out hb3); clear hb3))
    go_ret2
    exact ⟨rfl, hb3'.out⟩
end Go.Proofs.Ytjkbhdlbomcbeaa
