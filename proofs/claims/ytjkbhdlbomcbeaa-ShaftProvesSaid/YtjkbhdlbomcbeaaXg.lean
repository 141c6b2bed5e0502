import Derived.Test.YtjkbhdlbomcbeaaXf
namespace Go.Proofs.Ytjkbhdlbomcbeaa
open Go.RowKit Go.Shelf Shf

def RefuseLate (w : World) (k : Nat) (e : Ending) (w' : World) : Prop := ∃ v, e = .returned (.tuple #[v, .int .i64 0]) ∧ OwnN w' w.heap.size v [⟨3, k, 0, 0, 0, 0⟩] ∧ Below w.heap.size w w'
set_option maxHeartbeats 4000000 in
set_option maxRecDepth 100000 in
theorem refuseLate30 {w : World} {v : Value} {P : Int} {js : List J} {os : List (Int × Int)} (h : ShV w v P js os) (h7 : js.length ≤ 7) (h21 : os.length ≤ 21) (hv : validB P js os = true) {k : Nat} (hk : k < (shOf P js os).os.length) (hd : lateO (shOf P js os) k = true) (hno : ∀ j, j < k → lateO (shOf P js os) j = false) (hns : ¬ ∃ S, Sched (shOf P js os) S) :
    Calls Try.prog 30 #[v] w (RefuseLate w k) := by
  obtain ⟨jv, ov, rfl, rj, ro⟩ := h
  obtain ⟨ja, n, jc, rfl⟩ : ∃ a n c, jv = .slice a n c := by obtain ⟨a, c, e, _⟩ := rj; exact ⟨_, _, _, e⟩
  obtain ⟨oa, m, oc, rfl⟩ : ∃ a n c, ov = .slice a n c := by obtain ⟨a, c, e, _⟩ := ro; exact ⟨_, _, _, e⟩
  have hb0 := Lib.hid (below_alloc1 w (.cells #[.int .i64 P, .slice ja n jc, .slice oa m oc] 25))
  have hsh := Lib.hid (fun (W : World) (hb : Below w.heap.size w W) => (show ShV W (.agg #[.int .i64 P, .slice ja n jc, .slice oa m oc]) P js os from ⟨_, _, rfl, rj.below hb, ro.below hb⟩))
  have hn := Lib.hid (new37' (rj.below hb0.out) (ro.below hb0.out) h7 h21 hv)
  obtain ⟨hV, hos⟩ := valid_sh hv
  have hc := Lib.hid (fun (W : World) (hb : Below w.heap.size w W) => canBeDone42' (w := W) (s := shOf P js os) hV.loose (by rw [hos]; exact hsh.out W hb) (show cbd (shOf P js os) = false from Bool.eq_false_iff.2 fun h => hns ((cbd_iff hV.loose).1 h)))
  have hlf := Lib.hid (fun (W : World) (hb : Below w.heap.size w W) => leafLate67 (w := W) (s := shOf P js os) hV.loose (by rw [hos]; exact hsh.out W hb) hk hd hno)
  clear hV hos hv rj ro h7 h21 hk hd hno hns
  go_enter Try.func30, Try.ntmps30
  go_wp2_with (
    first
    | (go_at_call 37; refine (hn.out).mono ?_; rintro e w1 ⟨rfl, hb1⟩
       have hT1 := Lib.hid (Three.new w1 (.int .i64 P) (.slice ja n jc) (.slice oa m oc) 81)
       have hs1 := Lib.hid (show w1.heap.size < (w1.alloc (.cells #[.int .i64 P, .slice ja n jc, .slice oa m oc] 81)).heap.size by simp)
       have hb1' := Lib.hid (below_call (below_call hb0.out hb1) (below_alloc1 _ (.cells #[.int .i64 P, .slice ja n jc, .slice oa m oc] 81)))
       have hc1 := Lib.hid (hc.out _ hb1'.out)
       clear hb1)
    | (go_at_call 42; refine (hc1.out).mono ?_; rintro e w2 ⟨rfl, hb2⟩
       have hb2' := Lib.hid (below_call (below_call hb1'.out hb2) (below_alloc1 _ (.cells #[.int .i64 20000] 96)))
       have hw2 := Lib.hid (show w.heap.size ≤ w2.heap.size from (below_call hb1'.out hb2).size)
       have hT2 := Lib.hid (hT1.out.keep (hb2.trans ((below_alloc1 w2 (.cells #[.int .i64 20000] 96)).mono hb2.size)) hs1.out)
       have hs2 := Lib.hid (Nat.lt_of_lt_of_le hs1.out hb2.size)
       obtain ⟨⟨z0, z1, z2⟩, -⟩ := hT2.out
       have hr2 := Lib.hid (refuteLeaf50 (w := w2.alloc (.cells #[.int .i64 20000] 96)) (P := P) (rb := w2.heap.size) (lv := 20000) (t := 126) (n := .agg #[.int .i64 k]) (jv := .slice ja n jc) (ov := .slice oa m oc) rfl rfl (by simp) (by omega) (by simp) (alloc_fz _ _ _ _) (fun W hb => hlf.out W (below_call hb2'.out hb)))
       clear hb2)
    | (go_at_call 50; refine (hr2.out).mono ?_; rintro e w3 ⟨rfl, hM3, -, -⟩
       have hb3 := Lib.hid (hM3.below hb2'.out hw2.out hw2.out hb2'.out.size)
       have hb4 := Lib.hid (below_call hb3.out (below_alloc1 w3 (.cells #[.slice none 0 0] 100)))
       have ha := Lib.hid (addLate51 (w := w3.alloc (.cells #[.slice none 0 0] 100)) (lb := w3.heap.size) (B := w3.heap.size + 1) (k := k) (v := .slice none 0 0) (ns := []) (Nat.lt_succ_self _) (by simp) (by simp) (alloc_fz _ _ _ _) (World.ownsRow_nil _ _ _ _) (by simp))
       clear hM3)
    | (go_at_call 51; refine (ha.out).mono ?_; rintro e w5 ⟨rfl, hb5, v5, hc5, hf5, hO5, -, -⟩
       obtain ⟨ao, c, rfl, -⟩ := own_cells hO5
       have hO5' := Lib.hid hO5
       have hb5' := Lib.hid hb5
       clear hb5 hf5 hO5))
  go_ret2
  have hb6 : Below w.heap.size w w5 := hb4.out.trans (hb5'.out.mono hb3.out.size)
  exact ⟨_, rfl, own_base hO5'.out (Nat.le_trans hb3.out.size (Nat.le_succ _)), hb6⟩
end Go.Proofs.Ytjkbhdlbomcbeaa
