import Derived.Test.YtccmabckmpelcaaOc
namespace Go.Proofs.Ytccmabckmpelcaa
open Go.RowKit

set_option maxHeartbeats 4000000 in
set_option maxRecDepth 100000 in
theorem walk6 {w : World} {a b : Value} {xs : List Int} {xss : List (List Int)} (hf : InRow w a xs) (hg : InRows w b xss) :
    Calls Try.prog 6 #[.agg #[a, b]] w fun e w' => e = .returned (.bool true) ∧ Below w.heap.size w w' := by
  obtain ⟨ao, ac, rfl, _⟩ := hf.2.2
  have hg' := Lib.hid hg
  obtain ⟨bo, bc, rfl, _⟩ := hg
  have hf' := Lib.hid hf
  clear hf
  go_enter Try.func6, Try.ntmps6
  go_wp2_with fail
  have hb0 := below_alloc1 w (.cells #[.slice ao xs.length ac, .slice bo xss.length bc] 25)
  refine (few15' (hf'.out.below hb0) (hg'.out.below hb0)).mono ?_
  rintro e w1 ⟨uo, uc, vo, vc, fs, gs, n, m, rfl, hn, hm, hn9, hm9, hriv, hb1⟩
  have hb1 := Lib.hid (below_call hb0 hb1)
  have hriv' := Lib.hid hriv
  have hn' := Lib.hid hn
  have hm' := Lib.hid hm
  clear hriv hn hm hb0
  by_cases hr : rivB fs gs = true
  · obtain ⟨h1, h8, hfl, hfo, hok, _⟩ := rivB_facts hr
    obtain rfl : m = n := by rw [hm'.out, hn'.out, hfl]
    have hfo' := Lib.hid hfo
    have hok' := Lib.hid hok
    clear hfo hok
    go_wp2_with fail
    refine (shares30' hriv'.out hr hm'.out).mono ?_
    rintro e w2 ⟨xo, xc, rfl, hx, hb2⟩
    have hx' := Lib.hid hx
    have hrv2 := Lib.hid (hriv'.out.below hb2)
    have hB2 := Lib.hid (below_call hb1.out hb2)
    clear hx hb2
    go_wp2_with fail
    refine (prices31' hrv2.out hr hm'.out).mono ?_
    rintro e w3 ⟨yo, yc, rfl, hy, hb3⟩
    have hx3 := Lib.hid (hx'.out.below hb3)
    have hy3 := Lib.hid hy
    have hrv3 := Lib.hid (hrv2.out.below hb3)
    have hB3 := Lib.hid (below_call hB2.out hb3)
    clear hy hb3
    go_wp2_with fail
    refine (river18 hrv3.out.1 hrv3.out.2.1 hrv3.out.2.2.1 hrv3.out.2.2.2.1 hrv3.out.2.2.2.2).mono ?_
    rw [hr]
    rintro e w4 ⟨rfl, hb4⟩
    have hx4 := Lib.hid (hx3.out.below hb4)
    have hy4 := Lib.hid (hy3.out.below hb4)
    have hrv4 := Lib.hid (hrv3.out.below hb4)
    have hB4 := Lib.hid (below_call hB3.out hb4)
    clear hb4
    go_wp2_with fail
    refine (shares32 hrv4.out.1 hrv4.out.2.1 hn'.out hm'.out hfo'.out hok'.out).mono ?_
    rintro e w5 ⟨z, rfl, hz, hb5⟩
    have hx5 := Lib.hid (hx4.out.below hb5)
    have hy5 := Lib.hid (hy4.out.below hb5)
    have hz5 := Lib.hid hz
    have hrv5 := Lib.hid (hrv4.out.below hb5)
    have hB5 := Lib.hid (below_call hB4.out hb5)
    clear hz hb5
    go_wp2_with fail
    refine (same24 hx5.out hz5.out (by rw [sharesK_len]; omega)).mono ?_
    rw [sameL_self]
    rintro e w6 ⟨rfl, hb6⟩
    have hy6 := Lib.hid (hy5.out.below hb6)
    have hrv6 := Lib.hid (hrv5.out.below hb6)
    have hB6 := Lib.hid (below_call hB5.out hb6)
    clear hb6
    go_wp2_with fail
    refine (prices33 hrv6.out.1 hrv6.out.2.1 hr hn'.out hm'.out).mono ?_
    rintro e w7 ⟨z7, rfl, hz, hb7⟩
    have hy7 := Lib.hid (hy6.out.below hb7)
    have hz7 := Lib.hid hz
    have hB7 := Lib.hid (below_call hB6.out hb7)
    clear hz hb7
    go_wp2_with fail
    refine (same24 hy7.out hz7.out (by rw [pricesK_len]; omega)).mono ?_
    rw [sameL_self]
    rintro e w8 ⟨rfl, hb8⟩
    have hB8 := Lib.hid (below_call hB7.out hb8)
    clear hb8
    go_wp2_with fail
    refine (lives20 w8).mono ?_
    rintro e w9 ⟨rfl, hb9⟩
    go_wp2_with fail
    go_ret
    exact ⟨rfl, below_call hB8.out hb9⟩
  · have hr1 : rivB fs gs = false := by simpa using hr
    go_wp2_with fail
    refine (shares30_bad hriv'.out hr1).mono ?_
    rintro e w2 ⟨rfl, hb2⟩
    have hrv2 := Lib.hid (hriv'.out.below hb2)
    have hB2 := Lib.hid (below_call hb1.out hb2)
    clear hb2 hr
    go_wp2_with fail
    refine (prices31_bad hrv2.out hr1).mono ?_
    rintro e w3 ⟨rfl, hb3⟩
    have hrv3 := Lib.hid (hrv2.out.below hb3)
    have hB3 := Lib.hid (below_call hB2.out hb3)
    clear hb3
    go_wp2_with fail
    refine (river18 hrv3.out.1 hrv3.out.2.1 hrv3.out.2.2.1 hrv3.out.2.2.2.1 hrv3.out.2.2.2.2).mono ?_
    rw [hr1]
    rintro e w4 ⟨rfl, hb4⟩
    have hB4 := Lib.hid (below_call hB3.out hb4)
    clear hb4
    go_wp2_with fail
    refine (lives20 w4).mono ?_
    rintro e w5 ⟨rfl, hb5⟩
    go_wp2_with fail
    go_ret
    exact ⟨rfl, below_call hB4.out hb5⟩
end Go.Proofs.Ytccmabckmpelcaa
