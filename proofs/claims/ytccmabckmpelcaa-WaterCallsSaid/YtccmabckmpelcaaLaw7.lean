import Derived.Test.YtccmabckmpelcaaEb
import Derived.Test.YtccmabckmpelcaaEc
namespace Go.Proofs.Ytccmabckmpelcaa
open Go.RowKit

theorem cut16i {w : World} {u : Value} {xs : List Int} (h : InRow w u xs) (m : Nat) (hm : m ≤ 100) :
    Calls Try.prog 16 #[u, .int .i64 m] w fun e w' => ∃ uo uc us n, e = .returned (.slice uo n uc) ∧ n = us.length ∧ n ≤ m ∧ Reads w' (.slice uo n uc) us ∧ Below w.heap.size w w' := by
  refine (cut16 h m hm).mono ?_
  rintro e w1 ⟨v, rfl, hv, hb⟩
  have hr := hv.shape
  obtain ⟨uo, uc, rfl, _⟩ := hv.shape
  exact ⟨uo, uc, _, _, rfl, rfl, by rw [List.length_take]; omega, hr, hb⟩

set_option maxHeartbeats 4000000 in
set_option maxRecDepth 100000 in
theorem walk7 {w : World} {a b c : Value} {xs ys zs : List Int} (hx : InRow w a xs) (hy : InRow w b ys) (hz : InRow w c zs) :
    Calls Try.prog 7 #[a, b, c] w fun e w' => e = .returned (.bool true) ∧ Below w.heap.size w w' := by
  have hx' := Lib.hid hx
  have hy' := Lib.hid hy
  have hz' := Lib.hid hz
  obtain ⟨_, _, ao, ac, rfl, _⟩ := hx
  obtain ⟨_, _, bo, bc, rfl, _⟩ := hy
  obtain ⟨_, _, co, cc, rfl, _⟩ := hz
  go_enter Try.func7, Try.ntmps7
  go_wp2_with fail
  refine (cut16i hx'.out 9 (by omega)).mono ?_
  rintro e w1 ⟨fo, fc, fs, n, rfl, hn, hn9, hf, hb1⟩
  have hf' := Lib.hid hf
  have hn' := Lib.hid hn
  clear hf hn
  go_wp2_with fail
  refine (cut16i (hy'.out.below hb1) 9 (by omega)).mono ?_
  rintro e w2 ⟨ro, rc, rs, m, rfl, hm, hm9, hr, hb2⟩
  have hr' := Lib.hid hr
  have hm' := Lib.hid hm
  have hb12 := below_call hb1 hb2
  clear hr hm
  go_wp2_with fail
  refine (cut16i (hz'.out.below hb12) 9 (by omega)).mono ?_
  rintro e w3 ⟨go, gc, ag, q, rfl, hq, hq9, hg, hb3⟩
  have hq' := Lib.hid hq
  have hg3 := Lib.hid hg
  have hf3 := Lib.hid ((hf'.out.below hb2).below hb3)
  have hr3 := Lib.hid (hr'.out.below hb3)
  have hB := Lib.hid (below_call hb12 hb3)
  clear hg hq hb1 hb2 hb3 hb12
  by_cases hok : rightsB fs rs ag = true
  · have hfl : fs.length = n := hn'.out.symm
    go_wp2_with fail
    obtain ⟨us, hus⟩ : ∃ us, us = served fs rs ag fs.length := ⟨_, rfl⟩
    have hul := Lib.hid (show us.length = n by rw [hus, served_len, ← hn'.out])
    have hus' := Lib.hid hus
    clear hus
    refine (calls34 hf3.out hr3.out hg3.out hok).mono ?_
    rw [← hus'.out]
    rintro e w4 ⟨x, rfl, hx4, hb4⟩
    have hf4 := Lib.hid (hf3.out.below hb4)
    have hr4 := Lib.hid (hr3.out.below hb4)
    have hg4 := Lib.hid (hg3.out.below hb4)
    obtain ⟨xo, xc, rfl, _, _⟩ := id hx4
    rw [hul.out] at hx4 ⊢
    have hx4' := Lib.hid hx4
    clear hx4
    go_wp2_with fail
    refine (rights35 hf4.out hr4.out hg4.out (by rw [← hn'.out]; omega) (by rw [← hm'.out]; omega) (by rw [← hq'.out]; omega)).mono ?_
    rw [hok]
    rintro e w5 ⟨rfl, hb5⟩
    go_wp2_with fail
    refine (calls36 (hf4.out.below hb5) (hr4.out.below hb5) (hg4.out.below hb5) hok).mono ?_
    rw [← hus'.out]
    rintro e w6 ⟨y, rfl, hy6, hb6⟩
    obtain ⟨yo, yc, rfl, _, _⟩ := id hy6
    rw [hul.out] at hy6 ⊢
    have hy6' := Lib.hid hy6
    clear hy6
    go_wp2_with fail
    refine (same24 ((hx4'.out.below hb5).below hb6) hy6'.out (by rw [hul.out]; omega)).mono ?_
    rw [sameL_self]
    rintro e w7 ⟨rfl, hb7⟩
    go_wp2_with fail
    refine (lives20 w7).mono ?_
    rintro e w8 ⟨rfl, hb8⟩
    go_wp2_with fail
    go_ret
    exact ⟨rfl, below_call (below_call (below_call (below_call (below_call hB.out hb4) hb5) hb6) hb7) hb8⟩
  · have hok1 : rightsB fs rs ag = false := by simpa using hok
    clear hok
    go_wp2_with fail
    refine (calls34_bad hf3.out hr3.out hg3.out (by rw [← hn'.out]; omega) (by rw [← hm'.out]; omega) (by rw [← hq'.out]; omega) hok1).mono ?_
    rintro e w4 ⟨rfl, rfl⟩
    go_wp2_with fail
    refine (rights35 hf3.out hr3.out hg3.out (by rw [← hn'.out]; omega) (by rw [← hm'.out]; omega) (by rw [← hq'.out]; omega)).mono ?_
    rw [hok1]
    rintro e w5 ⟨rfl, hb5⟩
    go_wp2_with fail
    refine (lives20 w5).mono ?_
    rintro e w8 ⟨rfl, hb8⟩
    go_wp2_with fail
    go_ret
    exact ⟨rfl, below_call (below_call hB.out hb5) hb8⟩
end Go.Proofs.Ytccmabckmpelcaa
