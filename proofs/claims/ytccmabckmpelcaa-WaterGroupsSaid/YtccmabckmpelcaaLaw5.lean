import Derived.Test.YtccmabckmpelcaaOd
namespace Go.Proofs.Ytccmabckmpelcaa
open Go.RowKit

set_option maxHeartbeats 4000000 in
set_option maxRecDepth 100000 in
theorem walk5 {w : World} {a b c : Value} {xs ys : List Int} {xss : List (List Int)} (hf : InRow w a xs) (hg : InRows w b xss) (hy : InRow w c ys) :
    Calls Try.prog 5 #[.agg #[a, b], c] w fun e w' => e = .returned (.bool true) ∧ Below w.heap.size w w' := by
  obtain ⟨ao, ac, rfl, _⟩ := hf.2.2
  have hg' := Lib.hid hg
  obtain ⟨bo, bc, rfl, _⟩ := hg
  have hf' := Lib.hid hf
  have hy' := Lib.hid hy
  obtain ⟨_, _, co, cc, rfl, _⟩ := hy
  clear hf
  go_enter Try.func5, Try.ntmps5
  go_wp2_with fail
  have hb0 := below_alloc1 w (.cells #[.slice ao xs.length ac, .slice bo xss.length bc] 25)
  refine (few15' (hf'.out.below hb0) (hg'.out.below hb0)).mono ?_
  rintro e w1 ⟨uo, uc, vo, vc, fs, gs, n, g, rfl, hn, hgn, hn9, hg9, hriv, hb1⟩
  have hb1 := below_call hb0 hb1
  have hriv' := Lib.hid hriv
  have hn' := Lib.hid hn
  have hgn' := Lib.hid hgn
  clear hriv hn hgn
  go_wp2_with fail
  refine (cut16' (hy'.out.below hb1) 9 (by omega)).mono ?_
  rintro e w2 ⟨zo, zc, ps, m, rfl, hm, hm9, hps, hb2⟩
  have hm' := Lib.hid hm
  have hps' := Lib.hid hps
  have hrv2 := Lib.hid (hriv'.out.below hb2)
  have hB2 := Lib.hid (below_call hb1 hb2)
  clear hm hps hb1 hb2 hb0
  by_cases hr : rivB fs gs = true
  · obtain ⟨h1, h8, hfl, hfo, hok, _⟩ := rivB_facts hr
    obtain rfl : g = n := by rw [hgn'.out, hn'.out, hfl]
    have h1' : 1 ≤ g := by rw [hn'.out]; exact h1
    have hfo' := Lib.hid hfo
    have hok' := Lib.hid hok
    clear hfo hok hfl
    by_cases hp : grpFrom g 0 ps = true
    · have hpl := grp_len hp
      have he := Lib.hid (gErr_ok (ps := ps) hr (by rw [← hn'.out]; exact hp))
      have hgp := Lib.hid (show grpFrom fs.length 0 ps = true by rw [← hn'.out]; exact hp)
      have hp' := Lib.hid hp
      have hfn := Lib.hid (show Al fs gs (inG ps) fs.length = Al fs gs (inG ps) g by rw [← hn'.out])
      obtain ⟨X, hX⟩ : ∃ X, X = Al fs gs (inG ps) g := ⟨_, rfl⟩
      obtain ⟨Y, hY⟩ : ∃ Y, Y = asp fs gs (inG ps) := ⟨_, rfl⟩
      rw [← hX] at hfn
      have hX' := Lib.hid hX
      have hY' := Lib.hid hY
      clear hX hY hp
      go_wp2_with fail
      refine (alone25 hrv2.out hr hps'.out hgp.out).mono ?_
      rw [hfn.out]
      rintro e w3 ⟨rfl, hb3⟩
      have hrv3 := Lib.hid (hrv2.out.below hb3)
      have hps3 := Lib.hid (hps'.out.below hb3)
      have hB3 := Lib.hid (below_call hB2.out hb3)
      clear hb3
      go_wp2_with fail
      refine (aspires26 hrv3.out hr hps3.out hgp.out (by rw [← hn'.out]; omega) he.out).mono ?_
      rw [← hY'.out]
      rintro e w4 ⟨rfl, hb4⟩
      have hrv4 := Lib.hid (hrv3.out.below hb4)
      have hps4 := Lib.hid (hps3.out.below hb4)
      have hB4 := Lib.hid (below_call hB3.out hb4)
      clear hb4
      go_wp2_with fail
      refine (river18 hrv4.out.1 hrv4.out.2.1 hrv4.out.2.2.1 hrv4.out.2.2.2.1 hrv4.out.2.2.2.2).mono ?_
      rw [hr]
      rintro e w5 ⟨rfl, hb5⟩
      have hrv5 := Lib.hid (hrv4.out.below hb5)
      have hps5 := Lib.hid (hps4.out.below hb5)
      have hB5 := Lib.hid (below_call hB4.out hb5)
      clear hb5
      go_wp2_with fail
      refine (group27 hps5.out (by rw [← hm'.out]; omega) g h1' (by omega)).mono ?_
      rw [hp'.out]
      rintro e w6 ⟨rfl, hb6⟩
      have hrv6 := Lib.hid (hrv5.out.below hb6)
      have hps6 := Lib.hid (hps5.out.below hb6)
      have hB6 := Lib.hid (below_call hB5.out hb6)
      clear hb6
      have eX : (X == X) = true := by simp
      have eY : (Y == Y) = true := by simp
      go_wp2_with fail
      refine (alone28 hrv6.out.1 hrv6.out.2.1 hps6.out hn'.out hgn'.out hfo'.out hok'.out hp'.out).mono ?_
      rw [← hX'.out]
      rintro e w7 ⟨rfl, hb7⟩
      have hrv7 := Lib.hid (hrv6.out.below hb7)
      have hps7 := Lib.hid (hps6.out.below hb7)
      have hB7 := Lib.hid (below_call hB6.out hb7)
      clear hb7
      go_wp2_with fail
      refine (aspires29 hrv7.out.1 hrv7.out.2.1 hps7.out hn'.out hgn'.out h1' hfo'.out hok'.out hp'.out).mono ?_
      rw [← hY'.out]
      rintro e w8 ⟨rfl, hb8⟩
      have hB8 := Lib.hid (below_call hB7.out hb8)
      clear hb8
      go_wp2_with fail
      refine (lives20 w8).mono ?_
      rintro e w9 ⟨rfl, hb9⟩
      go_wp2_with fail
      go_ret
      exact ⟨rfl, below_call hB8.out hb9⟩
    · have hp1 : grpFrom g 0 ps = false := by simpa using hp
      have he := Lib.hid (show gErr fs gs ps = 2 by unfold gErr; rw [if_neg (by rw [hr]; simp), if_pos (by rw [← hn'.out]; exact hp1)])
      have hp' := Lib.hid hp1
      clear hp hp1
      go_wp2_with fail
      refine (alone25_bad hrv2.out hps'.out (by rw [← hm'.out]; omega) he.out (.inr rfl)).mono ?_
      rintro e w3 ⟨rfl, hb3⟩
      have hrv3 := Lib.hid (hrv2.out.below hb3)
      have hps3 := Lib.hid (hps'.out.below hb3)
      have hB3 := Lib.hid (below_call hB2.out hb3)
      clear hb3
      go_wp2_with fail
      refine (aspires26_bad hrv3.out hps3.out (by rw [← hm'.out]; omega) he.out (.inr rfl)).mono ?_
      rintro e w4 ⟨rfl, hb4⟩
      have hrv4 := Lib.hid (hrv3.out.below hb4)
      have hps4 := Lib.hid (hps3.out.below hb4)
      have hB4 := Lib.hid (below_call hB3.out hb4)
      clear hb4
      go_wp2_with fail
      refine (river18 hrv4.out.1 hrv4.out.2.1 hrv4.out.2.2.1 hrv4.out.2.2.2.1 hrv4.out.2.2.2.2).mono ?_
      rw [hr]
      rintro e w5 ⟨rfl, hb5⟩
      have hps5 := Lib.hid (hps4.out.below hb5)
      have hB5 := Lib.hid (below_call hB4.out hb5)
      clear hb5
      go_wp2_with fail
      refine (group27 hps5.out (by rw [← hm'.out]; omega) g h1' (by omega)).mono ?_
      rw [hp'.out]
      rintro e w6 ⟨rfl, hb6⟩
      have hB6 := Lib.hid (below_call hB5.out hb6)
      clear hb6
      go_wp2_with fail
      refine (lives20 w6).mono ?_
      rintro e w9 ⟨rfl, hb9⟩
      go_wp2_with fail
      go_ret
      exact ⟨rfl, below_call hB6.out hb9⟩
  · have hr1 : rivB fs gs = false := by simpa using hr
    have he := Lib.hid (show gErr fs gs ps = 1 by unfold gErr; rw [if_pos hr1])
    clear hr
    go_wp2_with fail
    refine (alone25_bad hrv2.out hps'.out (by rw [← hm'.out]; omega) he.out (.inl rfl)).mono ?_
    rintro e w3 ⟨rfl, hb3⟩
    have hrv3 := Lib.hid (hrv2.out.below hb3)
    have hps3 := Lib.hid (hps'.out.below hb3)
    have hB3 := Lib.hid (below_call hB2.out hb3)
    clear hb3
    go_wp2_with fail
    refine (aspires26_bad hrv3.out hps3.out (by rw [← hm'.out]; omega) he.out (.inl rfl)).mono ?_
    rintro e w4 ⟨rfl, hb4⟩
    have hrv4 := Lib.hid (hrv3.out.below hb4)
    have hB4 := Lib.hid (below_call hB3.out hb4)
    clear hb4
    go_wp2_with fail
    refine (river18 hrv4.out.1 hrv4.out.2.1 hrv4.out.2.2.1 hrv4.out.2.2.2.1 hrv4.out.2.2.2.2).mono ?_
    rw [hr1]
    rintro e w5 ⟨rfl, hb5⟩
    have hB5 := Lib.hid (below_call hB4.out hb5)
    clear hb5
    go_wp2_with fail
    refine (lives20 w5).mono ?_
    rintro e w9 ⟨rfl, hb9⟩
    go_wp2_with fail
    go_ret
    exact ⟨rfl, below_call hB5.out hb9⟩
end Go.Proofs.Ytccmabckmpelcaa
