import Derived.Test.YtccmabckmpelcaaSa
import Derived.Test.YtccmabckmpelcaaLx
namespace Go.Proofs.Ytccmabckmpelcaa
open Go.RowKit

set_option maxHeartbeats 40000000 in
set_option maxRecDepth 100000 in
theorem walk11 {w : World} {a b : Value} {xs : List Int} {xss : List (List Int)} (hf : InRow w a xs) (hg : InRows w b xss) :
    Calls Try.prog 11 #[.agg #[a, b]] w fun e w' => e = .returned (.bool true) ∧ Below w.heap.size w w' := by
  obtain ⟨ao, ac, rfl, _⟩ := hf.2.2
  have hg' := Lib.hid hg
  obtain ⟨bo, bc, rfl, _⟩ := hg
  have hf' := Lib.hid hf
  clear hf
  go_enter Try.func11, Try.ntmps11
  go_wp2_with fail
  have hb0 := below_alloc1 w (.cells #[.slice ao xs.length ac, .slice bo xss.length bc] 25)
  refine (made37' (hf'.out.below hb0) (hg'.out.below hb0) 8 (by omega) (by omega)).mono ?_
  rintro e w1 ⟨uo, uc, vo, vc, fs, gs, n, rfl, hn, hfn, h1, h8, hr, hriv, hb1⟩
  have hb1 := below_call hb0 hb1
  obtain ⟨_, _, hfl, hfo, hok, _⟩ := rivB_facts hr
  have hriv' := Lib.hid hriv
  have hn' := Lib.hid hn
  have hfl' := Lib.hid hfl
  have hfn' := Lib.hid hfn
  have hok' := Lib.hid hok
  clear hriv hn hfl hok hfo hfn
  go_wp2_with fail
  refine (best22' hriv'.out hr hn'.out).mono ?_
  rintro e w2 ⟨xo, xc, rfl, hx, hb2⟩
  have hxl := Lib.hid (show (bestU fs gs).length = n by rw [(bestU_ok hfl'.out).1, hn'.out])
  have hx' := Lib.hid hx
  clear hx
  go_wp2_with fail
  refine (prices31' (hriv'.out.below hb2) hr hn'.out).mono ?_
  rintro e w3 ⟨po, pc, rfl, hp, hb3⟩
  have hpl := Lib.hid (show (pricesK fs gs n).length = n by rw [pricesK_len])
  have hps' := Lib.hid hp
  clear hp
  go_wp2_with fail
  refine (lives20 w3).mono ?_
  rintro e w4 ⟨rfl, hb4⟩
  have hB := below_call (below_call (below_call hb1 hb2) hb3) hb4
  have hrv4 := Lib.hid (((hriv'.out.below hb2).below hb3).below hb4)
  have hx4 := Lib.hid ((hx'.out.below hb3).below hb4)
  have hp4 := Lib.hid (hps'.out.below hb4)
  go_wp2_with fail
  go_loopw [10] (fun i wr => ∃ (k : Nat), k ≤ n ∧ i = .int .i64 k ∧ Below w4.heap.size w4 wr) (fun i _ => n - (intOf i).toNat)
  case atStart => exact ⟨0, Nat.zero_le _, rfl, Below.refl _ _⟩
  case round =>
    obtain ⟨k, hk, rfl, hb⟩ := hrel
    by_cases hlt : k < n
    · obtain ⟨q1, q2, q3, q4⟩ := price_facts hr (i := k) (by rw [← hn'.out]; exact hlt)
      have huk := (bestU_ok hfl'.out).2 k (by rw [hxl.out]; exact hlt)
      have hmono : 0 < k → (pricesK fs gs n).getD k 0 ≤ (pricesK fs gs n).getD (k - 1) 0 := fun h0 => by
        rw [pricesK_at _ _ _ _ hlt, pricesK_at _ _ _ _ (by omega)]
        have := (price_facts hr (i := k - 1) (by rw [← hn'.out]; omega)).2.1 k (by omega) (by rw [← hn'.out]; exact hlt)
        omega
      obtain ⟨g1, o1, e1, hg1, hc1⟩ := hx4.out.at hxl.out hlt
      obtain ⟨g2, o2, e2, hg2, hc2⟩ := hp4.out.at hpl.out hlt
      obtain ⟨g3, o3, e3, hg3, ro, rc, hc3, hrow⟩ := hrv4.out.2.1.at hn'.out.symm hlt
      subst e1
      subst e2
      subst e3
      have c1 := (hb.cell (p := ⟨g1, o1 + k, none⟩) hg1).trans (hc1 k hlt)
      have c2 := (hb.cell (p := ⟨g2, o2 + k, none⟩) hg2).trans (hc2 k hlt)
      have c2' : 0 < k → wr.cell? ⟨g2, o2 + (k - 1), none⟩ = some (.int .i64 ((pricesK fs gs n).getD (k - 1) 0)) := fun h0 => (hb.cell (p := ⟨g2, o2 + (k - 1), none⟩) hg2).trans (hc2 (k - 1) (by omega))
      have c3 := (hb.cell (p := ⟨g3, o3 + k, none⟩) hg3).trans hc3
      rw [← pricesK_at fs gs n k hlt] at q1 q3 q4
      unfold L at q3 q4
      obtain ⟨U, hU⟩ : ∃ U : Nat, (U : Int) = (bestU fs gs).getD k 0 := ⟨((bestU fs gs).getD k 0).toNat, by omega⟩
      rw [← hU] at c1 q3 q4 huk
      obtain ⟨P, hP⟩ : ∃ P, P = (pricesK fs gs n).getD k 0 := ⟨_, rfl⟩
      obtain ⟨P', hP'⟩ : ∃ P, P = (pricesK fs gs n).getD (k - 1) 0 := ⟨_, rfl⟩
      rw [← hP] at c2 q1 q3 q4 hmono
      rw [← hP'] at c2' hmono
      obtain ⟨l, hl⟩ : ∃ l, l = gs.getD k [] := ⟨_, rfl⟩
      obtain ⟨m, hm⟩ : ∃ m, m = l.length := ⟨_, rfl⟩
      have hm20 : m ≤ 20 := by have := (gain_at (hok'.out.2 k (by rw [← hn'.out]; exact hlt))).1; rw [← hl] at this; omega
      unfold mg at q3 q4
      rw [← hl] at c3 q3 q4 huk hrow
      rw [← hm] at c3 huk hrow
      obtain ⟨_, huk⟩ := huk
      have hum : U ≤ m := by omega
      rw [Int.toNat_natCast] at q4
      have c4 : 0 < U → ∃ g4 o4, ro = some ⟨g4, o4, none⟩ ∧ wr.cell? ⟨g4, o4 + (U - 1), none⟩ = some (.int .i64 (l.getD (U - 1) 0)) ∧ P ≤ l.getD (U - 1) 0 := fun h0 => by
        obtain ⟨g4, o4, e4, hg4, hc4⟩ := hrow.at hm.symm (k := U - 1) (by omega)
        have := q3 (by omega)
        rw [show ((U : Int) - 1).toNat = U - 1 by omega] at this
        exact ⟨g4, o4, e4, (hb.cell (p := ⟨g4, o4 + (U - 1), none⟩) hg4).trans (hc4 (U - 1) (by omega)), this⟩
      have c5 : U < m → ∃ g4 o4, ro = some ⟨g4, o4, none⟩ ∧ wr.cell? ⟨g4, o4 + U, none⟩ = some (.int .i64 (l.getD U 0)) := fun h0 => by
        obtain ⟨g4, o4, e4, hg4, hc4⟩ := hrow.at hm.symm (k := U) h0
        exact ⟨g4, o4, e4, (hb.cell (p := ⟨g4, o4 + U, none⟩) hg4).trans (hc4 U h0)⟩
      obtain ⟨Y, hY⟩ : ∃ Y, Y = l.getD U 0 := ⟨_, rfl⟩
      obtain ⟨X, hX⟩ : ∃ X, X = l.getD (U - 1) 0 := ⟨_, rfl⟩
      rw [← hY] at q4 c5
      rw [← hX] at c4
      clear hc1 hc2 hc3 hrow q2 q3 hU hP hP' hl hm hY hX huk
      have e6 : ((U : Int) == (m : Int)) = decide (U = m) := by rw [Bool.eq_iff_iff]; simp; omega
      have d0 : ¬ (m < U) := by omega
      by_cases hk0 : 0 < k
      · have c2'' := c2' hk0
        have hmono' := hmono hk0
        have hk1 : (1 : Int) ≤ k := by omega
        have wak : IntKind.i64.wrap ((k : Int) - 1) = (k : Int) - 1 := IntWalk.i64_in _ (by omega)
        have wbk : 0 ≤ (k : Int) - 1 := by omega
        have wck : (k : Int) - 1 < n := by omega
        have wdk : ((k : Int) - 1).toNat = k - 1 := by omega
        clear c2' hmono
        by_cases hU0 : 0 < U
        · obtain ⟨g4, o4, rfl, c4a, hPX⟩ := c4 hU0
          have hU1 : (1 : Int) ≤ U := by omega
          have waU : IntKind.i64.wrap ((U : Int) - 1) = (U : Int) - 1 := IntWalk.i64_in _ (by omega)
          have wbU : 0 ≤ (U : Int) - 1 := by omega
          have wcU : (U : Int) - 1 < m := by omega
          have wdU : ((U : Int) - 1).toNat = U - 1 := by omega
          by_cases hUm : U < m
          · obtain ⟨g5, o5, e5, c5a⟩ := c5 hUm
            have e7 : g4 = g5 ∧ o4 = o5 := by simp only [Option.some.injEq, Addr.mk.injEq, and_true] at e5; exact e5
            obtain ⟨rfl, rfl⟩ := e7
            have hYP := q4
            clear c4 c5 e5
            go_wp2
            refine wp_region_quiet_lit (by kernel_rfl) (lex9' rfl) ?_
            simp only [List.append]
            repeat (first | go_big_quiet_step (fail) | quiet_step (fail))
            refine wpQuiet_nil ?_
            intro _ hw'
            obtain ⟨nq, hw''⟩ := hw'
            subst hw''
            go_wp2
            exact ⟨⟨k + 1, by omega, by go_num, below_drewN hb _⟩, by simp [intOf]; omega⟩
          · clear c4 c5 q4
            go_wp2
            refine wp_region_quiet_lit (by kernel_rfl) (lex9' rfl) ?_
            simp only [List.append]
            repeat (first | go_big_quiet_step (fail) | quiet_step (fail))
            refine wpQuiet_nil ?_
            intro _ hw'
            obtain ⟨nq, hw''⟩ := hw'
            subst hw''
            go_wp2
            exact ⟨⟨k + 1, by omega, by go_num, below_drewN hb _⟩, by simp [intOf]; omega⟩
        · by_cases hUm : U < m
          · obtain ⟨g5, o5, rfl, c5a⟩ := c5 hUm
            clear c4 c5
            go_wp2
            refine wp_region_quiet_lit (by kernel_rfl) (lex9' rfl) ?_
            simp only [List.append]
            repeat (first | go_big_quiet_step (fail) | quiet_step (fail))
            refine wpQuiet_nil ?_
            intro _ hw'
            obtain ⟨nq, hw''⟩ := hw'
            subst hw''
            go_wp2
            exact ⟨⟨k + 1, by omega, by go_num, below_drewN hb _⟩, by simp [intOf]; omega⟩
          · clear c4 c5 q4
            go_wp2
            refine wp_region_quiet_lit (by kernel_rfl) (lex9' rfl) ?_
            simp only [List.append]
            repeat (first | go_big_quiet_step (fail) | quiet_step (fail))
            refine wpQuiet_nil ?_
            intro _ hw'
            obtain ⟨nq, hw''⟩ := hw'
            subst hw''
            go_wp2
            exact ⟨⟨k + 1, by omega, by go_num, below_drewN hb _⟩, by simp [intOf]; omega⟩
      · clear c2' hmono
        by_cases hU0 : 0 < U
        · obtain ⟨g4, o4, rfl, c4a, hPX⟩ := c4 hU0
          have hU1 : (1 : Int) ≤ U := by omega
          have waU : IntKind.i64.wrap ((U : Int) - 1) = (U : Int) - 1 := IntWalk.i64_in _ (by omega)
          have wbU : 0 ≤ (U : Int) - 1 := by omega
          have wcU : (U : Int) - 1 < m := by omega
          have wdU : ((U : Int) - 1).toNat = U - 1 := by omega
          by_cases hUm : U < m
          · obtain ⟨g5, o5, e5, c5a⟩ := c5 hUm
            have e7 : g4 = g5 ∧ o4 = o5 := by simp only [Option.some.injEq, Addr.mk.injEq, and_true] at e5; exact e5
            obtain ⟨rfl, rfl⟩ := e7
            have hYP := q4
            clear c4 c5 e5
            go_wp2
            refine wp_region_quiet_lit (by kernel_rfl) (lex9' rfl) ?_
            simp only [List.append]
            repeat (first | go_big_quiet_step (fail) | quiet_step (fail))
            refine wpQuiet_nil ?_
            intro _ hw'
            obtain ⟨nq, hw''⟩ := hw'
            subst hw''
            go_wp2
            exact ⟨⟨k + 1, by omega, by go_num, below_drewN hb _⟩, by simp [intOf]; omega⟩
          · clear c4 c5 q4
            go_wp2
            refine wp_region_quiet_lit (by kernel_rfl) (lex9' rfl) ?_
            simp only [List.append]
            repeat (first | go_big_quiet_step (fail) | quiet_step (fail))
            refine wpQuiet_nil ?_
            intro _ hw'
            obtain ⟨nq, hw''⟩ := hw'
            subst hw''
            go_wp2
            exact ⟨⟨k + 1, by omega, by go_num, below_drewN hb _⟩, by simp [intOf]; omega⟩
        · by_cases hUm : U < m
          · obtain ⟨g5, o5, rfl, c5a⟩ := c5 hUm
            clear c4 c5
            go_wp2
            refine wp_region_quiet_lit (by kernel_rfl) (lex9' rfl) ?_
            simp only [List.append]
            repeat (first | go_big_quiet_step (fail) | quiet_step (fail))
            refine wpQuiet_nil ?_
            intro _ hw'
            obtain ⟨nq, hw''⟩ := hw'
            subst hw''
            go_wp2
            exact ⟨⟨k + 1, by omega, by go_num, below_drewN hb _⟩, by simp [intOf]; omega⟩
          · clear c4 c5 q4
            go_wp2
            refine wp_region_quiet_lit (by kernel_rfl) (lex9' rfl) ?_
            simp only [List.append]
            repeat (first | go_big_quiet_step (fail) | quiet_step (fail))
            refine wpQuiet_nil ?_
            intro _ hw'
            obtain ⟨nq, hw''⟩ := hw'
            subst hw''
            go_wp2
            exact ⟨⟨k + 1, by omega, by go_num, below_drewN hb _⟩, by simp [intOf]; omega⟩
    · go_wp2
      go_ret
      exact ⟨rfl, below_call hB hb⟩
end Go.Proofs.Ytccmabckmpelcaa
