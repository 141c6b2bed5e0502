import Derived.Test.YtjkbhdlbomcbeaaK
namespace Go.Proofs.Ytjkbhdlbomcbeaa
open Go.RowKit Shf

theorem Lay.drew {w0 w : World} {b ge c : Nat} {jv ov : Value} {s : Sh} {U E : Nat → Int} (h : Lay w0 w b ge c jv ov s U E) : Lay w0 w.drew b ge c jv ov s U E := { h with below := h.below.drew }
/-- `p` more from `x` on and before `t`. -/
def addU (U : Nat → Int) (x t : Nat) (p : Int) : Nat → Int := fun k => if x ≤ k ∧ k < t then U k + p else U k
theorem addU_zero (U : Nat → Int) (x : Nat) (p : Int) : addU U x x p = U := by funext k; unfold addU; rw [if_neg (by omega)]
theorem addU_next (U : Nat → Int) {x t : Nat} (h : x ≤ t) (p : Int) : (fun k => if k = t then addU U x t p t + p else addU U x t p k) = addU U x (t + 1) p := by
  funext k
  unfold addU
  by_cases e : k = t
  · subst e; rw [if_pos rfl, if_neg (by omega), if_pos (by omega)]
  · rw [if_neg e]
    by_cases e2 : x ≤ k ∧ k < t
    · rw [if_pos e2, if_pos (by omega)]
    · rw [if_neg e2, if_neg (by omega)]
theorem addU_at (U : Nat → Int) (x t : Nat) (p : Int) : addU U x t p t = U t := by unfold addU; rw [if_neg (by omega)]
def PutEnd (w0 w : World) (b ge c : Nat) (jv ov : Value) (s : Sh) (U E : Nat → Int) (e : Ending) (w' : World) : Prop := e = .returned (.tuple #[]) ∧ Lay w0 w' b ge c jv ov s U E ∧ Mod b ge w w'
set_option maxHeartbeats 4000000 in
set_option maxRecDepth 100000 in
theorem put75 {w0 w : World} {b ge c : Nat} {jv ov : Value} {s : Sh} {U E : Nat → Int} (h : Lay w0 w b ge c jv ov s U E) {i l x : Nat} (hi : i < s.n) (h7 : s.n ≤ 7) (hl : (s.job i).l = (l : Int)) (hx : x + l ≤ 24) {p : Int} (hp : -20 ≤ p ∧ p ≤ 20) (hU : ∀ t, t < 24 → -1000 ≤ U t ∧ U t ≤ 1000) :
    Calls Try.prog 75 #[.pointer (some ⟨b, 0, none⟩), .int .i64 i, .int .i64 x, .int .i64 p] w (PutEnd w0 w b ge c jv ov s (addU U x (x + l) p) E) := by
  obtain ⟨ja, jc, rfl, hjc, hjat⟩ := h.rj.at
  obtain ⟨g, rfl, hg, -, -, k2, -⟩ := hjat i hi
  obtain ⟨n, hn⟩ : ∃ n, n = s.n := ⟨_, rfl⟩
  have hnj : s.js.length = n := hn.symm
  rw [show (s.js.getD i J0).l = (l : Int) from hl] at k2
  rw [hnj] at h hjc ⊢
  rw [← hn] at hi h7
  have h' := Lib.hid h
  have hU' := Lib.hid hU
  have hm0 := Lib.hid (Mod.refl b ge w)
  clear hjat hU h
  have hl24 : l ≤ 24 := by omega
  go_enter Try.func75, Try.ntmps75
  go_wp2_with fail
  go_loopw [8] (fun iv wr => ∃ t : Nat, x ≤ t ∧ t ≤ x + l ∧ iv = .int .i64 t ∧ Hid (Lay w0 wr b ge c (.slice (some ⟨g, 0, none⟩) n jc) ov s (addU U x t p) E) ∧ Hid (Mod b ge w wr)) (fun iv _ => 24 - (intOf iv).toNat)
  case atStart => exact ⟨x, Nat.le_refl _, by omega, rfl, Lib.hid (by rw [addU_zero]; exact h'.out), hm0⟩
  case round =>
    obtain ⟨t, hxt, htl, rfl, hL, hM⟩ := hrel
    have y1 := hL.out.h1
    have d2 := (hL.out.below.cell (p := ⟨g, i * 4 + 2, none⟩) hg).trans k2
    have hin : (i : Int) < (n : Int) := by omega
    by_cases ht : t < x + l
    · have ht24 : t < 24 := by omega
      have hu := hL.out.used t ht24
      rw [addU_at] at hu
      obtain ⟨u, huq⟩ : ∃ u, u = U t := ⟨_, rfl⟩
      have hub := hU'.out t ht24
      have hL1 := (hL.out.setU ht24 (addU U x t p t + p)).drew
      rw [addU_next U hxt p, addU_at] at hL1
      rw [← huq] at hu hub hL1
      have fz := hL.out.fb (4 + t)
      have hL2 := Lib.hid hL1
      have hM2 := Lib.hid (hM.out.set b (4 + t) (.int .i64 (u + p)) (.inl rfl)).drew
      clear huq hL1
      go_wp2_with fail
      refine wp_region_still_tail 11 (by kernel_rfl) (by kernel_rfl) ?_
      simp only [List.take_succ_cons, List.take_zero, List.drop_succ_cons, List.drop_zero]
      have htI : (t : Int) < 24 := by omega
      iterate 11 still_step
      refine wpStill_nil ?_
      go_wp2_with fail
      exact ⟨⟨t + 1, by omega, by omega, by go_num, hL2, hM2⟩, by simp [intOf]; omega⟩
    · obtain rfl : t = x + l := by omega
      have hxl : ¬ ((x : Int) + (l : Int) < (x : Int) + (l : Int)) := by omega
      subst hn
      go_wp2_with fail
      go_end0
      exact ⟨rfl, hL.out, hM.out⟩
end Go.Proofs.Ytjkbhdlbomcbeaa
