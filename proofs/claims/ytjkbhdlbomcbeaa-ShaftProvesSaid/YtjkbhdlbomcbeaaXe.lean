import Derived.Test.YtjkbhdlbomcbeaaXd
namespace Go.Proofs.Ytjkbhdlbomcbeaa
open Go.RowKit Go.Shelf Shf

/-- A leaf refutes: it is returned, and one leaf less is left. -/
def LeafEnd (w : World) (rb : Nat) (lv : Int) (t : TypeId) (n : Value) (e : Ending) (w' : World) : Prop :=
  e = .returned (.iface t n) ∧ Mod rb rb w w' ∧ w'.cell? ⟨rb, 0, none⟩ = some (.int .i64 (lv - 1)) ∧ w'.frozen? ⟨rb, 0, none⟩ = false
set_option maxHeartbeats 4000000 in
set_option maxRecDepth 100000 in
theorem refuteLeaf50 {w : World} {P : Int} {jv ov n : Value} {t : TypeId} {rb : Nat} {lv : Int} {ja oa : Option Addr} {jn jc on oc : Nat} (hj : jv = .slice ja jn jc) (ho : ov = .slice oa on oc) (hrb : rb < w.heap.size) (hlv : -1000000 ≤ lv ∧ lv ≤ 1000000) (hc : w.cell? ⟨rb, 0, none⟩ = some (.int .i64 lv)) (hf : w.frozen? ⟨rb, 0, none⟩ = false)
    (hleaf : ∀ W, Below w.heap.size w W → Calls Try.prog 67 #[.agg #[.int .i64 P, jv, ov]] W fun e w' => e = .returned (.iface t n) ∧ Below W.heap.size W w') :
    Calls Try.prog 50 #[.pointer (some ⟨rb, 0, none⟩), .agg #[.int .i64 P, jv, ov]] w (LeafEnd w rb lv t n) := by
  subst hj ho
  have hb0 := Lib.hid (below_alloc1 w (.cells #[.int .i64 P, .slice ja jn jc, .slice oa on oc] 81))
  have hl := Lib.hid (hleaf _ hb0.out)
  have hrb' := Lib.hid hrb
  have hc' := Lib.hid hc
  have hf' := Lib.hid hf
  clear hleaf hrb hc hf
  go_enter Try.func50, Try.ntmps50
  go_wp2_with (
    go_at_call 67; refine (hl.out).mono ?_; rintro e w1 ⟨rfl, hb1⟩
    have hb1' := Lib.hid (below_call hb0.out hb1)
    have c1 := (hb1'.out.cell (p := ⟨rb, 0, none⟩) hrb'.out).trans hc'.out
    have f1 := (hb1'.out.frozen (p := ⟨rb, 0, none⟩) hrb'.out).trans hf'.out
    have c1' := Lib.hid c1
    have f1' := Lib.hid f1
    clear hb1)
  go_ret
  refine ⟨rfl, (Mod.of_below hb1'.out).set rb 0 (.int .i64 (lv - 1)) (.inl rfl), ?_, ?_⟩
  · rw [World.cell?_setCell_same' _ _ _ (by rw [c1'.out]; rfl)]
  · rw [World.frozen?_setCell]; exact f1'.out
end Go.Proofs.Ytjkbhdlbomcbeaa
