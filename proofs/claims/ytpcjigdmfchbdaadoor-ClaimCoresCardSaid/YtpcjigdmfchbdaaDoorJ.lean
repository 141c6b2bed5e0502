import Derived.Test.YtpcjigdmfchbdaaDoorI
import Derived.Deep.RegionHeld3
namespace Go.Proofs.YtpcjigdmfchbdaaDoor
open Go.RowKit Go.Shelf Cl

def BoolEnd (w : World) (h : Bool) (e : Ending) (w' : World) : Prop := e = .returned (.bool h) ∧ Below w.heap.size w w'
set_option maxRecDepth 100000 in
set_option maxHeartbeats 1000000 in
theorem complete57 {w : World} (hT : Tab w) {n : Nat} {L : Atts} (hD : OkD n L) {S : Nat} (hS : S < 4096) :
    Calls Tryd.prog 57 #[.agg (csD n L), .int .u64 (S : Int)] w (BoolEnd w (comB n L S)) := by
  have hb1 := below_alloc1 w (.cells (csD n L) 74)
  have hf := Lib.hid (free79 (hT.call hb1) hD hS)
  have hd := Lib.hid (fun (W : World) (h : Below w.heap.size w W) => defended51 (hT.call h) hD hS)
  have hb1' := Lib.hid hb1
  have hd0 := Lib.hid (DAt.new w n L 74)
  have hbq := cast_beq (dfd n L S) S
  have hB : comB n L S = (freeB L S && (dfd n L S == S)) := rfl
  rw [hB]
  clear hT hD hb1 hB
  generalize freeB L S = F at hf ⊢
  generalize dfd n L S = D at hd hbq ⊢
  cases F
  · go_enter Tryd.func57, Tryd.ntmps57
    go_wp2_with (first
        | (refine wl74 rfl _ rfl rfl hd0.out ?_)
        | (go_at_call 79; refine (hf.out).mono ?_; rintro e w1 ⟨rfl, hb⟩; have hb' := Lib.hid hb; have hd1 := Lib.hid (hd0.out.below hb); clear hb))
    go_ret
    exact ⟨rfl, below_call hb1'.out hb'.out⟩
  · go_enter Tryd.func57, Tryd.ntmps57
    go_wp2_with (first
        | (refine wl74 rfl _ rfl rfl hd0.out ?_)
        | (refine wl74 rfl _ rfl rfl hd1.out ?_)
        | (go_at_call 79; refine (hf.out).mono ?_; rintro e w1 ⟨rfl, hb⟩; have hb' := Lib.hid hb; have hd1 := Lib.hid (hd0.out.below hb); clear hb)
        | (go_at_call 51; refine (hd.out _ (below_call hb1'.out hb'.out)).mono ?_; rintro e w2 ⟨rfl, hb⟩; have hb2' := Lib.hid hb; clear hb))
    go_ret
    exact ⟨ret_b (by simp), below_call (below_call hb1'.out hb'.out) hb2'.out⟩
set_option maxRecDepth 100000 in
set_option maxHeartbeats 1000000 in
theorem admissible67 {w : World} (hT : Tab w) {n : Nat} {L : Atts} (hD : OkD n L) {S : Nat} (hS : S < 4096) :
    Calls Tryd.prog 67 #[.agg (csD n L), .int .u64 (S : Int)] w (BoolEnd w (admB n L S)) := by
  have hb1 := below_alloc1 w (.cells (csD n L) 74)
  have hf := Lib.hid (free79 (hT.call hb1) hD hS)
  have hd := Lib.hid (fun (W : World) (h : Below w.heap.size w W) => defended51 (hT.call h) hD hS)
  have hc := Lib.hid (fun (W : World) => contains66 (w := W) (hD.dlt S) hS)
  have hb1' := Lib.hid hb1
  have hd0 := Lib.hid (DAt.new w n L 74)
  have hB : admB n L S = (freeB L S && (dfd n L S ||| S == dfd n L S)) := rfl
  rw [hB]
  clear hT hD hb1 hB
  generalize freeB L S = F at hf ⊢
  generalize (dfd n L S ||| S == dfd n L S) = X at hc ⊢
  generalize dfd n L S = D at hd hc
  cases F
  · go_enter Tryd.func67, Tryd.ntmps67
    go_wp2_with (first
        | (refine wl74 rfl _ rfl rfl hd0.out ?_)
        | (go_at_call 79; refine (hf.out).mono ?_; rintro e w1 ⟨rfl, hb⟩; have hb' := Lib.hid hb; have hd1 := Lib.hid (hd0.out.below hb); clear hb))
    go_ret
    exact ⟨rfl, below_call hb1'.out hb'.out⟩
  · go_enter Tryd.func67, Tryd.ntmps67
    go_wp2_with (first
        | (refine wl74 rfl _ rfl rfl hd0.out ?_)
        | (refine wl74 rfl _ rfl rfl hd1.out ?_)
        | (go_at_call 79; refine (hf.out).mono ?_; rintro e w1 ⟨rfl, hb⟩; have hb' := Lib.hid hb; have hd1 := Lib.hid (hd0.out.below hb); clear hb)
        | (go_at_call 51; refine (hd.out _ (below_call hb1'.out hb'.out)).mono ?_; rintro e w2 ⟨rfl, hb⟩; have hb2' := Lib.hid hb; clear hb)
        | (go_at_call 66; refine (hc.out _).mono ?_; rintro e w3 ⟨rfl, rfl⟩))
    go_ret
    exact ⟨rfl, below_call (below_call hb1'.out hb'.out) hb2'.out⟩
end Go.Proofs.YtpcjigdmfchbdaaDoor
