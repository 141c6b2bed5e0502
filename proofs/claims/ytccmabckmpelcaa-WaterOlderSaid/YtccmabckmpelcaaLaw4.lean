import Derived.Test.YtccmabckmpelcaaNd
import Derived.Test.YtccmabckmpelcaaLaw3
namespace Go.Proofs.Ytccmabckmpelcaa
open Go.RowKit

/-- The reference's Best is the use that grows, and its worth. -/
theorem best23' {w : World} {u v : Value} {fs : List Int} {gs : List (List Int)} {n : Nat} (hu : Reads w u fs) (hv : ReadsG w v gs) (hn : n = fs.length) (hng : n = gs.length) (h1 : 1 ≤ n) (hfo : FlowOk fs) (hok : GOk gs) :
    Calls Try.prog 23 #[u, v] w fun e w' => ∃ xo xc, e = .returned (.tuple #[.slice xo n xc, .int .i64 (bestW fs gs)]) ∧ Reads w' (.slice xo n xc) (bestU fs gs) ∧ Below w.heap.size w w' := by
  obtain ⟨e1, e2, _⟩ := best_spec hok (by omega) hfo
  rw [e1, e2]
  exact best23 hu hv hn hng h1 hfo hok

set_option maxHeartbeats 4000000 in
set_option maxRecDepth 100000 in
theorem walk4 {w : World} {a b : Value} {xs : List Int} {xss : List (List Int)} (hf : InRow w a xs) (hg : InRows w b xss) :
    Calls Try.prog 4 #[.agg #[a, b]] w fun e w' => e = .returned (.bool true) ∧ Below w.heap.size w w' := by
  obtain ⟨ao, ac, rfl, _⟩ := hf.2.2
  have hg' := Lib.hid hg
  obtain ⟨bo, bc, rfl, _⟩ := hg
  have hf' := Lib.hid hf
  clear hf
  go_enter Try.func4, Try.ntmps4
  go_wp2_with fail
  have hb0 := below_alloc1 w (.cells #[.slice ao xs.length ac, .slice bo xss.length bc] 25)
  refine (few15' (hf'.out.below hb0) (hg'.out.below hb0)).mono ?_
  rintro e w1 ⟨uo, uc, vo, vc, fs, gs, n, m, rfl, hn, hm, hn9, hm9, hriv, hb1⟩
  have hb1 := Lib.hid (below_call hb0 hb1)
  have hriv' := Lib.hid hriv
  have hn' := Lib.hid hn
  have hm' := Lib.hid hm
  clear hriv hn hm hb0
  by_cases hr : rivB fs gs = true
  · obtain ⟨h1, h8, hfl, hfo, hok, _⟩ := rivB_facts hr
    obtain rfl : m = n := by rw [hm'.out, hn'.out, hfl]
    have h1' : 1 ≤ m := by rw [hn'.out]; exact h1
    have hfl' := Lib.hid hfl
    have hfo' := Lib.hid hfo
    have hok' := Lib.hid hok
    clear hfl hfo hok
    go_wp2_with fail
    refine (best22' hriv'.out hr hm'.out).mono ?_
    rintro e w2 ⟨xo, xc, rfl, hx, hb2⟩
    have hx' := Lib.hid hx
    have hrv2 := Lib.hid (hriv'.out.below hb2)
    have hB2 := Lib.hid (below_call hb1.out hb2)
    clear hx hb2
    go_wp2_with fail
    refine (river18 hrv2.out.1 hrv2.out.2.1 hrv2.out.2.2.1 hrv2.out.2.2.2.1 hrv2.out.2.2.2.2).mono ?_
    rw [hr]
    rintro e w3 ⟨rfl, hb3⟩
    have hx3 := Lib.hid (hx'.out.below hb3)
    have hrv3 := Lib.hid (hrv2.out.below hb3)
    have hB3 := Lib.hid (below_call hB2.out hb3)
    clear hb3
    go_wp2_with fail
    refine (best23' hrv3.out.1 hrv3.out.2.1 hn'.out hm'.out h1' hfo'.out hok'.out).mono ?_
    rintro e w4 ⟨yo, yc, rfl, hy, hb4⟩
    have hx4 := Lib.hid (hx3.out.below hb4)
    have hy4 := Lib.hid hy
    have hB4 := Lib.hid (below_call hB3.out hb4)
    have hbl := Lib.hid (show (bestU fs gs).length ≤ 1000000 by rw [(bestU_ok hfl'.out).1, ← hm'.out]; omega)
    obtain ⟨Q, hQ⟩ : ∃ Q, Q = bestW fs gs := ⟨_, rfl⟩
    rw [← hQ]
    clear hy hb4 hQ
    have hQQ : (Q == Q) = true := by simp
    go_wp2_with fail
    refine (same24 hx4.out hy4.out hbl.out).mono ?_
    rw [sameL_self]
    rintro e w5 ⟨rfl, hb5⟩
    go_wp2_with fail
    refine (lives20 w5).mono ?_
    rintro e w6 ⟨rfl, hb6⟩
    go_wp2_with fail
    go_ret
    exact ⟨rfl, below_call (below_call hB4.out hb5) hb6⟩
  · have hr1 : rivB fs gs = false := by simpa using hr
    go_wp2_with fail
    refine (best22_bad hriv'.out hr1).mono ?_
    rintro e w2 ⟨rfl, hb2⟩
    have hrv2 := Lib.hid (hriv'.out.below hb2)
    have hB2 := Lib.hid (below_call hb1.out hb2)
    clear hb2 hr
    go_wp2_with fail
    refine (river18 hrv2.out.1 hrv2.out.2.1 hrv2.out.2.2.1 hrv2.out.2.2.2.1 hrv2.out.2.2.2.2).mono ?_
    rw [hr1]
    rintro e w3 ⟨rfl, hb3⟩
    go_wp2_with fail
    refine (lives20 w3).mono ?_
    rintro e w4 ⟨rfl, hb4⟩
    go_wp2_with fail
    go_ret
    exact ⟨rfl, below_call (below_call hB2.out hb3) hb4⟩
end Go.Proofs.Ytccmabckmpelcaa
