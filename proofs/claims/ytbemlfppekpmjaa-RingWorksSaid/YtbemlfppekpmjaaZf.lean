import Derived.Test.YtbemlfppekpmjaaZe
namespace Go.Proofs.Ytbemlfppekpmjaa
open Go.RowKit Rng
def LivesEnd (w : World) (e : Ending) (w' : World) : Prop := e = .returned (.bool true) ∧ Below w.heap.size w w'
theorem w1s : (sendE (WS.start 2) 0 1).1 = 0 := rfl
theorem w2s : (idleE W1 0).1 = 0 := rfl
theorem w3s : (dlvE W2 0).1 = 0 := rfl
theorem w4s : (idleE W3 1).1 = 0 := rfl
theorem w5s : (dlvE W4 0).1 = 0 := rfl
theorem e2s : endB W2 = false := rfl
theorem e5s : endB W5 = true := rfl
theorem p3s : (if inB 1 W3.n then ((W3.hd (1 : Int).toNat).par : Int) - 1 else -1) = 0 := rfl
set_option maxHeartbeats 2000000 in
set_option maxRecDepth 100000 in
theorem lives19 (w : World) : Calls Try.prog 19 #[] w (LivesEnd w) := by
  have hb0 := Lib.hid (below_alloc1 w (.cells #[.int .i64 7] 3))
  have hg := heap_alloc_new w (.cells #[.int .i64 7] 3)
  have hr := Lib.hid (show Reads (w.alloc (.cells #[.int .i64 7] 3)) (.slice (some ⟨w.heap.size, 0, none⟩) 1 1) [7] from ⟨_, 1, rfl, by simp, fun _ => ⟨w.heap.size, 0, rfl, by simp, fun j hj => by
    obtain rfl : j = 0 := by simpa using hj
    exact cell_of_row _ _ 0 _ _ _ hg⟩⟩)
  have hnew := Lib.hid (lvNew hb0.out hr.out)
  clear hg
  go_enter Try.func19, Try.ntmps19
  go_wp2_with (first
    | (go_at_call 14; refine hnew.out.mono ?_; clear hnew; rintro e w1 ⟨rb, rfl, k⟩; have r0 := Lib.hid k; clear k)
    | (go_at_call 22; refine (lvStart r0.out).mono ?_; clear r0; rintro e w1 ⟨rfl, k⟩; have r1 := Lib.hid k; clear k)
    | (go_at_call 25; refine (lvDel1 r1.out).mono ?_; clear r1; rintro e w1 ⟨rfl, k⟩; have r2 := Lib.hid k; clear k)
    | (go_at_call 47; refine (lvLead r2.out).mono ?_; rintro e w1 ⟨rfl, rfl⟩)
    | (go_at_call 25; refine (lvDel2 r2.out).mono ?_; clear r2; rintro e w1 ⟨rfl, k⟩; have r3 := Lib.hid k; clear k)
    | (go_at_call 48; refine (lvSent r3.out).mono ?_; rintro e w1 ⟨rfl, rfl⟩; have r4 := Lib.hid r3.out.1; clear r3)
    | (go_at_call 15; refine (begK r4.out (n := 2) (by decide) (by decide)).mono ?_; clear r4; rintro e w1 ⟨wb, rfl, k⟩; have s0 := Lib.hid k; clear k)
    | (go_at_call 27; refine (s0.out.send 0 1).mono ?_; clear s0; rintro e w1 ⟨rfl, k⟩; rw [w1s]; have s1 := Lib.hid (show WkK w wb W1 w1 from k); clear k)
    | (go_at_call 29; refine (s1.out.idle 0).mono ?_; clear s1; rintro e w1 ⟨rfl, k⟩; rw [w2s]; have s2 := Lib.hid (show WkK w wb W2 w1 from k); clear k)
    | (go_at_call 38; refine s2.out.ended.mono ?_; rintro e w1 ⟨rfl, rfl⟩; rw [e2s])
    | (go_at_call 31; refine (s2.out.deliver 0).mono ?_; clear s2; rintro e w1 ⟨rfl, k⟩; rw [w3s]; have s3 := Lib.hid (show WkK w wb W3 w1 from k); clear k)
    | (go_at_call 40; refine (s3.out.parent 1).mono ?_; rintro e w1 ⟨rfl, rfl⟩; rw [p3s])
    | (go_at_call 29; refine (s3.out.idle 1).mono ?_; clear s3; rintro e w1 ⟨rfl, k⟩; rw [w4s]; have s4 := Lib.hid (show WkK w wb W4 w1 from k); clear k)
    | (go_at_call 31; refine (s4.out.deliver 0).mono ?_; clear s4; rintro e w1 ⟨rfl, k⟩; rw [w5s]; have s5 := Lib.hid (show WkK w wb W5 w1 from k); clear k)
    | (go_at_call 38; refine s5.out.ended.mono ?_; rintro e w1 ⟨rfl, rfl⟩; rw [e5s]))
  go_ret
  exact ⟨rfl, s5.out.1⟩
end Go.Proofs.Ytbemlfppekpmjaa
