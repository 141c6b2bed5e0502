import Derived.Test.YtjkbhdlbomcbeaaZg
import Derived.Test.YtjkbhdlbomcbeaaWd
namespace Go.Proofs.Ytjkbhdlbomcbeaa
open Go.RowKit Go.Shelf Shf

/-- What Overfull answers. -/
def OverAns (P : Int) (js : List J) (os : List (Int × Int)) (f t err : Int) : Prop :=
  (validB P js os = false ∧ f = 0 ∧ t = 0 ∧ err = 1) ∨ (validB P js os = true ∧ ((OverIs P js 0 0 false ∧ f = 0 ∧ t = 0 ∧ err = 5) ∨ (OverIs P js f t true ∧ err = 0)))
def Over26 (w : World) (P : Int) (js : List J) (os : List (Int × Int)) (e : Ending) (w' : World) : Prop := ∃ f t err, e = .returned (.tuple #[.int .i64 f, .int .i64 t, .int .i64 err]) ∧ OverAns P js os f t err ∧ Below w.heap.size w w'
set_option maxHeartbeats 4000000 in
set_option maxRecDepth 100000 in
theorem overfull26 {w : World} {v : Value} {P : Int} {js : List J} {os : List (Int × Int)} (h : ShV w v P js os) (h7 : js.length ≤ 7) (h21 : os.length ≤ 21) : Calls Try.prog 26 #[v] w (Over26 w P js os) := by
  obtain ⟨jv, ov, rfl, rj, ro⟩ := h
  obtain ⟨ja, n, jc, rfl⟩ : ∃ a n c, jv = .slice a n c := by obtain ⟨a, c, e, _⟩ := rj; exact ⟨_, _, _, e⟩
  obtain ⟨oa, m, oc, rfl⟩ : ∃ a n c, ov = .slice a n c := by obtain ⟨a, c, e, _⟩ := ro; exact ⟨_, _, _, e⟩
  have hb0 := Lib.hid (below_alloc1 w (.cells #[.int .i64 P, .slice ja n jc, .slice oa m oc] 25))
  have hsh := Lib.hid (fun (W : World) (hb : Below w.heap.size w W) => (show ShV W (.agg #[.int .i64 P, .slice ja n jc, .slice oa m oc]) P js os from ⟨_, _, rfl, rj.below hb, ro.below hb⟩))
  have hnw := fun (d : Bool) (hd : validB P js os = d) => new37' (rj.below hb0.out) (ro.below hb0.out) h7 h21 hd
  cases hv : validB P js os with
  | false =>
    have hn := Lib.hid (hnw false hv)
    have hans := Lib.hid (show OverAns P js os 0 0 1 from .inl ⟨hv, rfl, rfl, rfl⟩)
    clear hnw hv rj ro h7 h21
    go_enter Try.func26, Try.ntmps26
    go_wp2_with (go_at_call 37; refine (hn.out).mono ?_; rintro e w1 ⟨rfl, hb1⟩; have hb1' := Lib.hid (below_call hb0.out hb1); clear hb1)
    go_ret3
    exact ⟨0, 0, 1, rfl, hans.out, below_call hb1'.out (below_alloc1 _ _)⟩
  | true =>
    have hn := Lib.hid (hnw true hv)
    have hv' := Lib.hid hv
    have hpp := (valid_sh hv).1.loose.power
    have hc := Lib.hid (fun (W : World) (hb : Below w.heap.size w W) => overfull46 (w := W) (hsh.out W hb) h7 hpp (valid_jobs hv))
    clear hnw hv rj ro h7 h21 hpp
    go_enter Try.func26, Try.ntmps26
    go_wp2_with (
      first
      | (go_at_call 37; refine (hn.out).mono ?_; rintro e w1 ⟨rfl, hb1⟩
         have hb1' := Lib.hid (below_call (below_call hb0.out hb1) (below_alloc1 _ (.cells #[.int .i64 P, .slice ja n jc, .slice oa m oc] 81)))
         have hc1 := Lib.hid (hc.out _ hb1'.out)
         clear hb1)
      | (go_at_call 46; refine (hc1.out).mono ?_; rintro e w2 ⟨f, t, ok, rfl, hO, hb2⟩; have hb2' := Lib.hid (below_call hb1'.out hb2); have hO' := Lib.hid hO; clear hb2 hO))
    · rename_i hk
      have hk' : ok = false := by revert hk; cases ok <;> simp
      subst hk'
      go_ret3
      refine ⟨0, 0, 5, rfl, .inr ⟨hv'.out, .inl ⟨?_, rfl, rfl, rfl⟩⟩, hb2'.out⟩
      have h1 := hO'.out
      rcases h1 with ⟨h1, _⟩ | ⟨_, rfl, rfl, h2⟩
      · cases h1
      · exact .inr ⟨rfl, rfl, rfl, h2⟩
    · rename_i hk
      have hk' : ok = true := by revert hk; cases ok <;> simp
      subst hk'
      go_ret3
      exact ⟨f, t, 0, rfl, .inr ⟨hv'.out, .inr ⟨hO'.out, rfl⟩⟩, hb2'.out⟩
end Go.Proofs.Ytjkbhdlbomcbeaa
