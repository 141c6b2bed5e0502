import Derived.Test.YtpcjigdmfchbdaaDoorN
namespace Go.Proofs.YtpcjigdmfchbdaaDoor
open Go.RowKit Go.Shelf Cl

set_option maxRecDepth 100000 in
set_option maxHeartbeats 1000000 in
theorem granted48 {w : World} (hT : Tab w) {n : Nat} {L : Atts} (hD : OkD n L) :
    Calls Tryd.prog 48 #[.agg (csD n L)] w (NumEnd w (grd n L)) := by
  have hb1 := Lib.hid (below_alloc1 w (.cells (csD n L) 74))
  have hd := Lib.hid (fun (W : World) (k : Nat) (h : Below w.heap.size w W) => show Calls Tryd.prog 51 #[.agg (csD n L), .int .u64 (stp n L k : Int)] W (NumEnd W (stp n L (k + 1))) from defended51 (hT.call h) hD (lt12 hD.nn (stp_lt n L k)))
  have hd0 := Lib.hid (DAt.new w n L 74)
  have hD' := Lib.hid hD
  clear hT hD
  go_enter Tryd.func48, Tryd.ntmps48
  go_wp2_with fail
  go_loopw [3] (fun v wr => ∃ k : Nat, v = .int .u64 (stp n L k : Int) ∧ Hid (Below w.heap.size w wr) ∧ Hid (DAt wr w.heap.size n L)) (fun v _ => 4096 - (intOf v).toNat)
  case atStart => exact ⟨0, rfl, hb1, hd0⟩
  case round =>
    obtain ⟨k, rfl, hb, hdr⟩ := hrel
    have hc := Lib.hid (hd.out wr k hb.out)
    have hle := Lib.hid (sub_le (stp_sub (L := L) hD'.out.nn k))
    have hlt2 := Lib.hid (lt12 hD'.out.nn (stp_lt n L (k + 1)))
    by_cases he : stp n L k = stp n L (k + 1)
    · have hg := Lib.hid (grd_of (L := L) hD'.out.nn (k := k) he)
      rw [← he] at hc
      clear he
      generalize hs : stp n L k = s at hc hg
      clear hs
      go_wp2_with (first
        | (refine wl74 rfl _ rfl rfl hdr.out ?_)
        | (go_at_call 51; refine (hc.out).mono ?_; rintro e w2 ⟨rfl, hb2⟩; have hb2' := Lib.hid hb2; clear hb2))
      go_ret
      exact ⟨ret_i (by rw [hg.out]), below_call hb.out hb2'.out⟩
    · have hc2 := Lib.hid (fun (W : World) (h : Below w.heap.size w W) => hd.out W k h)
      have hne : (stp n L k : Int) ≠ (stp n L (k + 1) : Int) := by omega
      have hne2 : ¬ (stp n L k : Int) = (stp n L (k + 1) : Int) := hne
      have hms : Hid (stp n L k < stp n L (k + 1)) := Lib.hid (by have := hle.out; omega)
      generalize hs : stp n L k = s at hc hc2 hne hne2 hms ⊢
      generalize ht : stp n L (k + 1) = t at hc hc2 hne hne2 hms hlt2
      have ht' := Lib.hid ht
      clear hs ht he hle
      go_wp2_with (first
        | (refine wl74 rfl _ rfl rfl hdr.out ?_)
        | (refine wl74 rfl _ rfl rfl hd2.out ?_)
        | (go_at_call 51; refine (hc.out).mono ?_; rintro e w2 ⟨rfl, hb2⟩; have hb2' := Lib.hid (below_call hb.out hb2); have hd2 := Lib.hid (hdr.out.below hb2); clear hb2 hc)
        | (go_at_call 51; refine (hc2.out _ hb2'.out).mono ?_; rintro e w3 ⟨rfl, hb3⟩; have hb3' := Lib.hid (below_call hb2'.out hb3); have hd3 := Lib.hid (hd2.out.below hb3); clear hb3 hc2))
      go_roundw
      case rel => exact ⟨k + 1, by rw [ht'.out], hb3', hd3⟩
      case measure => have := hms.out; have := hlt2.out; simp [intOf]; omega
end Go.Proofs.YtpcjigdmfchbdaaDoor
