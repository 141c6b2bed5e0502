import Derived.Test.YtjkbhdlbomcbeaaWc
namespace Go.Proofs.Ytjkbhdlbomcbeaa
open Go.RowKit Go.Shelf Shf

/-- What Short answers. -/
def ShortAns (P : Int) (js : List J) (os : List (Int × Int)) (xs : List Int) (en err : Int) : Prop :=
  (validB P js os = false ∧ xs = [] ∧ en = 0 ∧ err = 1) ∨ (validB P js os = true ∧ (((¬ ∃ S, Sched (shOf P js os) S) ∧ xs = [] ∧ en = 0 ∧ err = 5) ∨ (∃ m : Nat, LeastEnd (shOf P js os) m ∧ en = m ∧ xs.length = (shOf P js os).n ∧ First (ending (shOf P js os) m) (fun i => xs.getD i 0) ∧ err = 0)))
def Short22 (w : World) (P : Int) (js : List J) (os : List (Int × Int)) (e : Ending) (w' : World) : Prop := ∃ u xs en err, e = .returned (.tuple #[u, .int .i64 en, .int .i64 err]) ∧ Ints w' w.heap.size u xs ∧ Below w.heap.size w w' ∧ ShortAns P js os xs en err
set_option maxHeartbeats 4000000 in
set_option maxRecDepth 100000 in
theorem short22 {w : World} {v : Value} {P : Int} {js : List J} {os : List (Int × Int)} (h : ShV w v P js os) (h7 : js.length ≤ 7) (h21 : os.length ≤ 21) : Calls Try.prog 22 #[v] w (Short22 w P js os) := by
  obtain ⟨jv, ov, rfl, rj, ro⟩ := h
  obtain ⟨ja, n, jc, rfl⟩ : ∃ a n c, jv = .slice a n c := by obtain ⟨a, c, e, _⟩ := rj; exact ⟨_, _, _, e⟩
  obtain ⟨oa, m, oc, rfl⟩ : ∃ a n c, ov = .slice a n c := by obtain ⟨a, c, e, _⟩ := ro; exact ⟨_, _, _, e⟩
  have hb0 := Lib.hid (below_alloc1 w (.cells #[.int .i64 P, .slice ja n jc, .slice oa m oc] 25))
  have hsh := Lib.hid (fun (W : World) (hb : Below w.heap.size w W) => (show ShV W (.agg #[.int .i64 P, .slice ja n jc, .slice oa m oc]) P js os from ⟨_, _, rfl, rj.below hb, ro.below hb⟩))
  have hnw := fun (d : Bool) (hd : validB P js os = d) => new37' (rj.below hb0.out) (ro.below hb0.out) h7 h21 hd
  cases hv : validB P js os with
  | false =>
    have hn := Lib.hid (hnw false hv)
    have hans := Lib.hid (show ShortAns P js os [] 0 1 from .inl ⟨hv, rfl, rfl, rfl⟩)
    clear hnw hv rj ro h7 h21
    go_enter Try.func22, Try.ntmps22
    go_wp2_with (go_at_call 37; refine (hn.out).mono ?_; rintro e w1 ⟨rfl, hb1⟩; have hb1' := Lib.hid (below_call hb0.out hb1); clear hb1)
    go_ret3
    exact ⟨_, [], 0, 1, rfl, Ints.nil _ _, below_call hb1'.out (below_alloc1 _ _), hans.out⟩
  | true =>
    have hn := Lib.hid (hnw true hv)
    obtain ⟨hV, hos⟩ := valid_sh hv
    have hV' := Lib.hid hV
    have hos' := Lib.hid hos
    have hv' := Lib.hid hv
    have h7' := Lib.hid h7
    obtain ⟨d, hd⟩ : ∃ d, cbd (shOf P js os) = d := ⟨_, rfl⟩
    have hcb := Lib.hid (cbd_some hV.loose hd)
    have hc := Lib.hid (fun (W : World) (hb : Below w.heap.size w W) => canBeDone42' (w := W) (s := shOf P js os) hV.loose (by rw [hos]; exact hsh.out W hb) hd)
    clear hnw hv rj ro h7 h21 hV hos hd
    cases d with
    | false =>
      have hans := Lib.hid (show ShortAns P js os [] 0 5 from .inr ⟨hv'.out, .inl ⟨hcb.out.2 rfl, rfl, rfl, rfl⟩⟩)
      go_enter Try.func22, Try.ntmps22
      go_wp2_with (
        first
        | (go_at_call 37; refine (hn.out).mono ?_; rintro e w1 ⟨rfl, hb1⟩
           have hb1' := Lib.hid (below_call (below_call hb0.out hb1) (below_alloc1 _ (.cells #[.int .i64 P, .slice ja n jc, .slice oa m oc] 81)))
           have hc1 := Lib.hid (hc.out _ hb1'.out)
           clear hb1)
        | (go_at_call 42; refine (hc1.out).mono ?_; rintro e w2 ⟨rfl, hb2⟩; have hb2' := Lib.hid (below_call hb1'.out hb2); clear hb2))
      go_ret3
      exact ⟨_, [], 0, 5, rfl, Ints.nil _ _, hb2'.out, hans.out⟩
    | true =>
      have hsome := Lib.hid (hcb.out.1 rfl)
      have hl := Lib.hid (fun (W : World) (hb : Below w.heap.size w W) => leastEnd44 (w := W) (s := shOf P js os) hV'.out.loose (by rw [hos'.out]; exact hsh.out W hb) hsome.out)
      have hne := Lib.hid (show js ≠ [] from fun e => by have := hV'.out.loose.num.1; rw [show (shOf P js os).n = js.length from rfl, e] at this; simp at this)
      have he := Lib.hid (fun (W : World) (hb : Below w.heap.size w W) (x : Int) => ending45 (w := W) (hsh.out W hb) h7'.out hne.out x)
      have hf := Lib.hid (fun (W : World) (v : Value) (k : Nat) (hk : LeastEnd (shOf P js os) k) (hs : ShV W v P (js.map (capJ (k : Int))) os) => first43 (w := W) (v := v) (s := ending (shOf P js os) k) (loose_ending hV'.out.loose (by omega)) (by
        have : osI (ending (shOf P js os) k) = os := hos'.out
        rw [this]; exact hs) hk.2.1)
      go_enter Try.func22, Try.ntmps22
      go_wp2_with (
        first
        | (go_at_call 37; refine (hn.out).mono ?_; rintro e w1 ⟨rfl, hb1⟩
           have hT1 := Lib.hid (Three.new w1 (.int .i64 P) (.slice ja n jc) (.slice oa m oc) 81)
           have hs1 := Lib.hid (show w1.heap.size < (w1.alloc (.cells #[.int .i64 P, .slice ja n jc, .slice oa m oc] 81)).heap.size by simp)
           have hb1' := Lib.hid (below_call (below_call hb0.out hb1) (below_alloc1 _ (.cells #[.int .i64 P, .slice ja n jc, .slice oa m oc] 81)))
           have hc1 := Lib.hid (hc.out _ hb1'.out)
           clear hb1)
        | (go_at_call 42; refine (hc1.out).mono ?_; rintro e w2 ⟨rfl, hb2⟩
           have hb2' := Lib.hid (below_call hb1'.out hb2)
           have hT2 := Lib.hid (hT1.out.keep hb2 hs1.out)
           have hs2 := Lib.hid (Nat.lt_of_lt_of_le hs1.out hb2.size)
           obtain ⟨⟨z0, z1, z2⟩, -⟩ := hT2.out
           have hl2 := Lib.hid (hl.out _ hb2'.out)
           clear hb2)
        | (go_at_call 44; refine (hl2.out).mono ?_; rintro e w3 ⟨k, rfl, hk, hb3⟩
           have hb3' := Lib.hid (below_call hb2'.out hb3)
           obtain ⟨⟨y0, y1, y2⟩, -⟩ := hT2.out.keep hb3 hs2.out
           have hk' := Lib.hid hk
           have he3 := Lib.hid (he.out _ hb3'.out (k : Int))
           clear hk hb3)
        | (go_at_call 45; refine (he3.out).mono ?_; rintro e w4 ⟨v4, rfl, hv4, hb4⟩
           have hb4' := Lib.hid (below_call hb3'.out hb4)
           have hf4 := Lib.hid (hf.out _ _ k hk'.out hv4)
           clear hv4 hb4)
        | (go_at_call 43; refine (hf4.out).mono ?_; rintro e w5 ⟨u, xs, rfl, hI, hl, hF, hb5⟩
           have hb5' := Lib.hid (below_call hb4'.out hb5)
           have hI' := Lib.hid (hI.base hb4'.out.size)
           have hl' := Lib.hid hl
           have hF' := Lib.hid hF
           clear hI hl hF hb5))
      go_ret3
      exact ⟨_, xs, k, 0, rfl, hI'.out, hb5'.out, .inr ⟨hv'.out, .inr ⟨k, hk'.out, rfl, by rw [hl'.out, ending_n], hF'.out, rfl⟩⟩⟩
end Go.Proofs.Ytjkbhdlbomcbeaa
