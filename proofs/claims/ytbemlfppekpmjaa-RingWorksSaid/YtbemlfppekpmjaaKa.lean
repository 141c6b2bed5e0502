import Derived.Test.YtbemlfppekpmjaaQj
namespace Go.Proofs.Ytbemlfppekpmjaa
open Go.RowKit Rng
def LawEnd (w : World) (e : Ending) (w' : World) : Prop := e = .returned (.bool true) ∧ Below w.heap.size w w'
theorem Pr.works {w0 w : World} {b m : Nat} {S : WS} (h : Pr w0 b m S S w) (hv : Inv S) : Calls Try.prog 20 #[.pointer (some ⟨b, 0, none⟩), .pointer (some ⟨m, 0, none⟩)] w fun e w' => e = .returned (.bool true) ∧ Pr w0 b m S S w' := by
  have h0 := h
  obtain ⟨hb, hh, c, fv, hm, cm, fm, k, t, hd⟩ := h
  refine (works20 k t hv).mono ?_
  rintro e w' ⟨rfl, hb2⟩
  exact ⟨rfl, h0.below hb2⟩
theorem byte_nat {n : Int} (hw : (Lit.int .u8 n).wf = true) : ∃ a : Nat, n = (a : Int) ∧ a < 256 := by
  have := bounds_u8 hw
  exact ⟨n.toNat, by omega, by omega⟩
set_option maxHeartbeats 2000000 in
set_option maxRecDepth 100000 in
theorem walk9 {w : World} {n : Int} {v : Value} {xs : List (Nat × Nat × Nat)} (hw : (Lit.int .u8 n).wf = true) (h : InTri w v xs) : Calls Try.prog 9 #[.int .u8 n, v] w (LawEnd w) := by
  obtain ⟨a, rfl, ha⟩ := byte_nat hw
  have hp := Lib.hid (played36 h ha)
  obtain ⟨ao, xc, rfl, -⟩ := tri_cells h
  clear h hw
  go_enter Try.func9, Try.ntmps9
  go_wp2_with (first
    | (go_at_call 36; refine hp.out.mono ?_; rintro e w1 ⟨b, m, S, rfl, hP⟩; have hP' := Lib.hid hP; clear hP)
    | (go_at_call 20; refine (hP'.out.2.2.2.works hP'.out.1).mono ?_; rintro e w2 ⟨rfl, P2⟩; have P2' := Lib.hid P2; clear P2)
    | (go_at_call 19; refine (lives19 w2).mono ?_; rintro e w3 ⟨rfl, hb⟩; have hb' := Lib.hid hb; clear hb))
  go_ret
  exact ⟨rfl, P2'.out.1.trans (hb'.out.mono P2'.out.1.size)⟩
end Go.Proofs.Ytbemlfppekpmjaa
