import Derived.Test.YtjkbhdlbomcbeaaXi
namespace Go.Proofs.Ytjkbhdlbomcbeaa
open Go.RowKit Go.Shelf Shf

@[local go_sem] theorem meth126 (v : Value) (w : World) : (method 259 126 v "bolster/shaft.refutes").run Try.prog w = .ok (76, v) w := by kernel_rfl
set_option maxHeartbeats 4000000 in
set_option maxRecDepth 100000 in
theorem provesLate32 {w : World} {v pv : Value} {P : Int} {js : List J} {os : List (Int × Int)} (h : ShV w v P js os) (h7 : js.length ≤ 7) (h21 : os.length ≤ 21) (hv : validB P js os = true) {k : Nat} (hk : k < (shOf P js os).os.length) (hd : lateO (shOf P js os) k = true) (hp : ReadsNd w pv [⟨3, k, 0, 0, 0, 0⟩]) :
    Calls Try.prog 32 #[v, pv] w fun e w' => e = .returned (.tuple #[.bool true, .int .i64 0]) ∧ Below w.heap.size w w' := by
  obtain ⟨jv, ov, rfl, rj, ro⟩ := h
  obtain ⟨ja, n, jc, rfl⟩ : ∃ a n c, jv = .slice a n c := by obtain ⟨a, c, e, _⟩ := rj; exact ⟨_, _, _, e⟩
  obtain ⟨oa, oc, rfl, -⟩ := ro.at
  have hpr := Lib.hid (fun (W : World) (hb : Below w.heap.size w W) => hp.below hb)
  obtain ⟨pa, pc, rfl, -⟩ := hp
  simp only [List.length_cons, List.length_nil, Nat.zero_add] at hpr ⊢
  obtain ⟨m, hm⟩ : ∃ m, m = os.length := ⟨_, rfl⟩
  have hkm : k < m := by rw [hm]; simpa [shOf] using hk
  rw [← hm] at ro ⊢
  have hb0 := Lib.hid (below_alloc1 w (.cells #[.int .i64 P, .slice ja n jc, .slice oa m oc] 25))
  have hsh := Lib.hid (fun (W : World) (hb : Below w.heap.size w W) => (show ShV W (.agg #[.int .i64 P, .slice ja n jc, .slice oa m oc]) P js os from ⟨_, _, rfl, rj.below hb, ro.below hb⟩))
  have hn := Lib.hid (new37' (rj.below hb0.out) (ro.below hb0.out) h7 h21 hv)
  obtain ⟨hV, hos⟩ := valid_sh hv
  have hlt := Lib.hid (fun (W : World) (hb : Below w.heap.size w W) => late76 (w := W) (s := shOf P js os) hV.loose (by rw [hos]; exact hsh.out W hb) hk hd)
  have hps := Lib.hid (fun (W : World) (hb : Below w.heap.size w W) => parse53 (w := W) (P := P) (ja := ja) (oa := oa) (pa := pa) (n := n) (jc := jc) (m := m) (oc := oc) (q := 1) (pc := pc) (r := .iface 126 (.agg #[.int .i64 k])) (by omega) (fun W3 b ge hR => nodeLate71 (i := 0) (ns := [⟨3, k, 0, 0, 0, 0⟩]) hR (hpr.out W hb) (by simp) rfl rfl hkm))
  clear hV hos hv rj ro h7 h21 hk hd hm
  go_enter Try.func32, Try.ntmps32
  go_wp2_with (
    first
    | (go_at_call 37; refine (hn.out).mono ?_; rintro e w1 ⟨rfl, hb1⟩
       have hT1 := Lib.hid (Three.new w1 (.int .i64 P) (.slice ja n jc) (.slice oa m oc) 81)
       have hs1 := Lib.hid (show w1.heap.size < (w1.alloc (.cells #[.int .i64 P, .slice ja n jc, .slice oa m oc] 81)).heap.size by simp)
       have hb1' := Lib.hid (below_call (below_call hb0.out hb1) (below_alloc1 _ (.cells #[.int .i64 P, .slice ja n jc, .slice oa m oc] 81)))
       have hc1 := Lib.hid (hps.out _ hb1'.out)
       clear hb1)
    | (go_at_call 53; refine (hc1.out).mono ?_; rintro e w2 ⟨rfl, hb2⟩
       have hb2' := Lib.hid (below_call hb1'.out hb2)
       obtain ⟨⟨z0, z1, z2⟩, -⟩ := hT1.out.keep hb2 hs1.out
       have hl2 := Lib.hid (hlt.out _ hb2'.out)
       clear hb2)
    | (go_at_call 76; refine (hl2.out).mono ?_; rintro e w3 ⟨rfl, hb3⟩
       have hb3' := Lib.hid (below_call hb2'.out hb3)
       clear hb3))
  go_ret2
  exact ⟨rfl, hb3'.out⟩
end Go.Proofs.Ytjkbhdlbomcbeaa
