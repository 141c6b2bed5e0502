import Derived.Test.YtjkbhdlbomcbeaaZd
namespace Go.Proofs.Ytjkbhdlbomcbeaa
open Go.RowKit Go.Shelf Shf

def OverEnd (w : World) (P : Int) (js : List J) (e : Ending) (w' : World) : Prop := ∃ f t ok, e = .returned (.tuple #[.int .i64 f, .int .i64 t, .bool ok]) ∧ OverIs P js f t ok ∧ Below w.heap.size w w'
set_option maxHeartbeats 4000000 in
set_option maxRecDepth 100000 in
theorem refOverfull28 {w : World} {v : Value} {P : Int} {js : List J} {os : List (Int × Int)} (h : ShV w v P js os) (h7 : js.length ≤ 7) (hP : 1 ≤ P ∧ P ≤ 20) (hj : ∀ i, i < js.length → JobIn (js.getD i J0)) :
    Calls Try.prog 28 #[v] w (OverEnd w P js) := by
  obtain ⟨jv, ov, rfl, rj, ro⟩ := h
  obtain ⟨ja, jn, jc, rfl⟩ : ∃ a n c, jv = .slice a n c := by obtain ⟨a, c, e, _⟩ := rj; exact ⟨_, _, _, e⟩
  obtain ⟨oa, m, oc, rfl⟩ : ∃ a n c, ov = .slice a n c := by obtain ⟨a, c, e, _⟩ := ro; exact ⟨_, _, _, e⟩
  have hb0 := Lib.hid (below_alloc1 w (.cells #[.int .i64 P, .slice ja jn jc, .slice oa m oc] 25))
  have ht0 := Lib.hid (Three.new w (.int .i64 P) (.slice ja jn jc) (.slice oa m oc) 25)
  have hz0 := Lib.hid (show w.heap.size < (w.alloc (.cells #[.int .i64 P, .slice ja jn jc, .slice oa m oc] 25)).heap.size by simp)
  have hnd := Lib.hid (fun (W : World) (hb' : Below w.heap.size w W) (a b : Nat) (hb : b ≤ 24) (hab : a ≤ b) => refNeeds29 (w := W) (v := .agg #[.int .i64 P, .slice ja jn jc, .slice oa m oc]) (a := (a : Int)) (b := (b : Int)) ⟨_, _, rfl, rj.below hb', ro.below hb'⟩ h7 hj (by omega) (by omega) (by omega))
  have hsi := Lib.hid (fun (a b : Nat) (hab : a ≤ b) => needS_in hj (a := (a : Int)) (b := (b : Int)) (by omega) (n := js.length) (Nat.le_refl _))
  have h7' := Lib.hid h7
  clear rj ro hj h7
  go_enter Try.func28, Try.ntmps28
  go_wp2_with fail
  obtain ⟨W1, hW1⟩ : ∃ W1, W1 = w.alloc (.cells #[.int .i64 P, .slice ja jn jc, .slice oa m oc] 25) := ⟨_, rfl⟩
  rw [← hW1] at hb0 ht0 hz0 ⊢
  clear hW1
  go_loopw [5] (fun iv wr => ∃ a : Nat, a ≤ 24 ∧ iv = .int .i64 a ∧ Hid (NoneB P js a (a + 1)) ∧ Hid (Below W1.heap.size W1 wr)) (fun iv _ => 24 - (intOf iv).toNat)
  case atStart => exact ⟨0, Nat.zero_le _, rfl, Lib.hid (fun x y h1 h2 h3 => by omega), Lib.hid (Below.refl _ _)⟩
  case round =>
    obtain ⟨a, ha, rfl, hno, hB⟩ := hrel
    obtain ⟨wo, rfl⟩ : ∃ wo : World, wo = wr := ⟨_, rfl⟩
    by_cases ha24 : a < 24
    · have htB : decide ((a : Int) < 24) = true := by simp; omega
      go_wp2_with fail
      clear htB
      go_loopw [6] (fun iv wr => ∃ b : Nat, a < b ∧ b ≤ 25 ∧ iv = .int .i64 b ∧ Hid (NoneB P js a b) ∧ Hid (Below W1.heap.size W1 wr)) (fun iv _ => 25 - (intOf iv).toNat)
      case atStart => exact ⟨a + 1, by omega, by omega, by go_num, hno, hB⟩
      case round =>
        clear hno hB
        obtain ⟨b, hab, hb, rfl, hno, hB⟩ := hrel
        obtain ⟨wi, rfl⟩ : ∃ wi : World, wi = wr := ⟨_, rfl⟩
        have hBw := Lib.hid (below_call hb0.out hB.out)
        obtain ⟨⟨y0, y1, y2⟩, -⟩ := ht0.out.keep hB.out hz0.out
        by_cases hb24 : b ≤ 24
        · have hn1 := Lib.hid (hnd.out wi.drew hBw.out.drew a b hb24 (by omega))
          have hs1 := hsi.out a b (by omega)
          have h7i := h7'.out
          obtain ⟨z, hz⟩ : ∃ z, z = needS js (a : Int) (b : Int) js.length := ⟨_, rfl⟩
          rw [← hz] at hs1
          have hz' := Lib.hid hz
          obtain ⟨d, hd⟩ : ∃ d, ovB P js a b = d := ⟨_, rfl⟩
          have hd' := Lib.hid hd
          have hd2 := hd
          unfold ovB at hd2
          rw [← hz] at hd2
          have hd2' := Lib.hid hd2
          obtain ⟨y, hy⟩ : ∃ y, y = P * ((b : Int) - (a : Int)) := ⟨_, rfl⟩
          have hyb : 0 ≤ y ∧ y ≤ 480 := by
            have h1 := Int.mul_nonneg (show 0 ≤ P by omega) (show 0 ≤ (b : Int) - a by omega)
            have h2 := Int.mul_le_mul (show P ≤ 20 by omega) (show (b : Int) - a ≤ 24 by omega) (by omega) (by omega)
            rw [hy]; omega
          have s1 : IntKind.i64.wrap ((b : Int) - (a : Int)) = (b : Int) - a := IntWalk.i64_in _ (by omega)
          have s2 : IntKind.i64.wrap (P * ((b : Int) - (a : Int))) = P * ((b : Int) - a) := IntWalk.i64_in _ (by rw [← hy]; omega)
          have hwb := Lib.hid (Nat.lt_of_lt_of_le hz0.out hB.out.size)
          have hleB : decide ((b : Int) ≤ 24) = true := by simp; omega
          clear hz hd hd2 hy hyb hs1 h7i
          go_upto_region 7 with fail
          go_cut [27] from 17 to 27 (fun bv wx => ∃ w4 : World, w4 = wx ∧ bv = .bool d ∧ Hid (Below wi.heap.size wi w4))
          case first =>
            refine wp_region_noPanic ?_
            go_region_held3 (fun w' => w'.cell? ⟨w.heap.size, 0, none⟩ = some (.int .i64 P) ∧ w'.cell? ⟨w.heap.size, 1, none⟩ = some (.slice ja jn jc) ∧ w'.cell? ⟨w.heap.size, 2, none⟩ = some (.slice oa m oc))
              (first
                | exact ⟨y0, y1, y2⟩
                | exact ⟨(hbW.cell (p := ⟨w.heap.size, 0, none⟩) hwb.out).trans y0, (hbW.cell (p := ⟨w.heap.size, 1, none⟩) hwb.out).trans y1, (hbW.cell (p := ⟨w.heap.size, 2, none⟩) hwb.out).trans y2⟩)
              ((go_at_call 29; refine (hn1.out).mono ?_; rintro e wk ⟨rfl, hbk⟩; rw [← hz'.out]; have hbW := (Below.refl wi.heap.size wi).drew.trans hbk))
            all_goals refine NoPanic.normal ?_
            all_goals go_wp2_with fail
            all_goals go_meet
            all_goals exact ⟨_, rfl, by rw [← hd2'.out], Lib.hid hbW⟩
          case rest =>
            obtain ⟨w4, rfl, rfl, hb4⟩ := hcut
            have hB4 := Lib.hid (below_call hB.out hb4.out)
            have hBw4 := Lib.hid (below_call hb0.out hB4.out)
            cases d with
            | true =>
              go_wp2_with fail
              go_ret3
              exact ⟨_, _, _, rfl, .inl ⟨rfl, a, b, rfl, rfl, hab, hb24, hd'.out, hno.out⟩, hBw4.out⟩
            | false =>
              have hno2 := Lib.hid (none_next hno.out hd'.out)
              go_wp2_with fail
              go_roundw
              case rel => exact ⟨b + 1, by omega, by omega, by go_num, hno2, hB4⟩
              case measure => simp [intOf]; omega
        · obtain rfl : b = 25 := by omega
          rw [show ((25 : Nat) : Int) = 25 from rfl]
          have hno2 := Lib.hid (none_row hno.out)
          go_wp2_with fail
          go_roundw
          case rel => exact ⟨a + 1, by omega, by go_num, hno2, hB⟩
          case measure => simp [intOf]; omega
    · obtain rfl : a = 24 := by omega
      rw [show ((24 : Nat) : Int) = 24 from rfl]
      go_wp2_with fail
      go_ret3
      exact ⟨_, _, _, rfl, .inr ⟨rfl, rfl, rfl, fun x y h1 h2 h3 => hno.out x y h1 h2 (.inl (by omega))⟩, below_call hb0.out hB.out⟩
end Go.Proofs.Ytjkbhdlbomcbeaa
