import Derived.Test.YtjkbhdlbomcbeaaXc
namespace Go.Proofs.Ytjkbhdlbomcbeaa
open Go.RowKit Go.Shelf Shf

set_option maxHeartbeats 4000000 in
set_option maxRecDepth 100000 in
theorem leafLate67 {w : World} {v : Value} {s : Sh} (hs : Loose s) (h : ShV w v s.P s.js (osI s)) {k : Nat} (hk : k < s.os.length) (hd : lateO s k = true) (hno : ∀ j, j < k → lateO s j = false) :
    Calls Try.prog 67 #[v] w fun e w' => e = .returned (.iface 126 (.agg #[.int .i64 k])) ∧ Below w.heap.size w w' := by
  obtain ⟨jv, ov, rfl, rj, ro⟩ := h
  obtain ⟨ja, n, jc, rfl⟩ : ∃ a n c, jv = .slice a n c := by obtain ⟨a, c, e, _⟩ := rj; exact ⟨_, _, _, e⟩
  obtain ⟨oa, oc, rfl, hoc, hoat⟩ := ro.at
  obtain ⟨m, hm⟩ : ∃ m, m = (osI s).length := ⟨_, rfl⟩
  have hol : (osI s).length = s.os.length := by simp [osI]
  rw [← hm] at ro hoc ⊢
  have hkm : k < m := by omega
  have hm20 : m ≤ 20 := by have := hs.few; omega
  have hb0 := Lib.hid (below_alloc1 w (.cells #[.int .i64 s.P, .slice ja n jc, .slice oa m oc] 81))
  have ht0 := Lib.hid (Three.new w (.int .i64 s.P) (.slice ja n jc) (.slice oa m oc) 81)
  have hsz := Lib.hid (show (w.alloc (.cells #[.int .i64 s.P, .slice ja n jc, .slice oa m oc] 81)).heap.size = w.heap.size + 1 by simp)
  have hlate := Lib.hid (fun (W : World) (hb : Below w.heap.size w W) (j : Nat) (hj : j < s.os.length) (d : Bool) (hd : lateO s j = d) => late76 (w := W) (s := s) hs ⟨_, _, rfl, rj.below hb, ro.below hb⟩ hj hd)
  have hm' := Lib.hid hm
  have hol' := Lib.hid hol
  have hd' := Lib.hid hd
  have hno' := Lib.hid hno
  clear hs rj ro hoat hm hol hd hno hk
  go_enter Try.func67, Try.ntmps67
  go_wp2_with fail
  obtain ⟨W1, hW1⟩ : ∃ W1, W1 = w.alloc (.cells #[.int .i64 s.P, .slice ja n jc, .slice oa m oc] 81) := ⟨_, rfl⟩
  rw [← hW1] at hb0 ht0 hsz ⊢
  clear hW1
  go_loopw [11] (fun iv wr => ∃ i : Nat, i ≤ k ∧ iv = .int .i64 i ∧ Hid (Below (w.heap.size + 1) W1 wr)) (fun iv _ => m - (intOf iv).toNat)
  case atStart => exact ⟨0, Nat.zero_le _, rfl, Lib.hid (Below.refl _ _)⟩
  case round =>
    obtain ⟨i, hi, rfl, hb⟩ := hrel
    obtain ⟨wo, rfl⟩ : ∃ wo : World, wo = wr := ⟨_, rfl⟩
    have him : (i : Int) < (m : Int) := by omega
    have hT := Lib.hid (ht0.out.keep hb.out (Nat.lt_succ_self _))
    obtain ⟨⟨z0, z1, z2⟩, -⟩ := hT.out
    have hsl := hb.out.size
    rw [hsz.out] at hsl
    have hW := Lib.hid (hb.out.alloc (by exact hsl) (.cells #[.int .i64 i] 126))
    have hWb := Lib.hid (hb0.out.trans (hW.out.mono (Nat.le_succ _)))
    have hc := Lib.hid (fun d hd => hlate.out _ hWb.out i (by have := hm'.out; have := hol'.out; omega) d hd)
    have hws := Lib.hid (show wo.heap.size < (wo.alloc (.cells #[.int .i64 i] 126)).heap.size by simp)
    by_cases hik : i = k
    · have hc2 := Lib.hid (hc.out true (by rw [hik]; exact hd'.out))
      rw [hik] at hc2 hW hWb hws ⊢
      clear hik hi him
      have him : (k : Int) < (m : Int) := by omega
      have q0 : (wo.alloc (.cells #[.int .i64 k] 126)).cell? ⟨wo.heap.size, 0, none⟩ = some (.int .i64 k) := by simp
      have q0' := Lib.hid q0
      clear q0
      obtain ⟨⟨y0, y1, y2⟩, -⟩ := (hT.out.keep (below_alloc1 wo (.cells #[.int .i64 k] 126)) (by omega))
      go_wp2_with (
        go_at_call 76; refine (hc2.out).mono ?_; rintro e w2 ⟨rfl, hb2⟩
        have q1 := (hb2.cell (p := ⟨wo.heap.size, 0, none⟩) hws.out).trans q0'.out
        have hb2' := Lib.hid (below_call hWb.out hb2)
        clear hb2)
      go_ret
      exact ⟨rfl, hb2'.out⟩
    · have hc2 := Lib.hid (hc.out false (hno'.out i (by omega)))
      have hik' := Lib.hid hik
      clear hik
      obtain ⟨⟨y0, y1, y2⟩, -⟩ := (hT.out.keep (below_alloc1 wo (.cells #[.int .i64 i] 126)) (by omega))
      go_wp2_with (
        go_at_call 76; refine (hc2.out).mono ?_; rintro e w2 ⟨rfl, hb2⟩
        have hb2' := Lib.hid (hW.out.trans (hb2.mono (by have := hW.out.size; rw [hsz.out] at this; exact this)))
        clear hb2)
      go_roundw
      case rel => exact ⟨i + 1, by have := hik'.out; omega, by go_num, hb2'⟩
      case measure => simp [intOf]; omega
end Go.Proofs.Ytjkbhdlbomcbeaa
