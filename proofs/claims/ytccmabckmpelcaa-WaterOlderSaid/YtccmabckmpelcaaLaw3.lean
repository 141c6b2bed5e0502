import Derived.Test.YtccmabckmpelcaaDa
namespace Go.Proofs.Ytccmabckmpelcaa
open Go.RowKit

theorem few_riv {w : World} {B : Nat} {u v : Value} {xs : List Int} {xss : List (List Int)} (hu : Ints w B u (xs.take 9)) (hv : OwnG w B v (fewG xss (min xss.length 9))) : Riv w u v (xs.take 9) (fewG xss (min xss.length 9)) := by
  refine ⟨hu.shape, hv.shape, by rw [List.length_take]; omega, by rw [fewG_len _ _ (by omega)]; omega, fun j hj => ?_⟩
  rw [fewG_len _ _ (by omega)] at hj
  unfold fewG
  rw [List.getD_eq_getElem?_getD, List.getElem?_map]
  cases h : (xss.take (min xss.length 9))[j]? with
  | none => simp
  | some l => simp; omega

/-- What `few` returns: a river of at most nine places, valid or not. -/
theorem few15' {w : World} {u v : Value} {xs : List Int} {xss : List (List Int)} (hf : InRow w u xs) (hg : InRows w v xss) :
    Calls Try.prog 15 #[.agg #[u, v]] w fun e w' => ∃ uo uc vo vc fs gs n m, e = .returned (.tuple #[.slice uo n uc, .slice vo m vc]) ∧ n = fs.length ∧ m = gs.length ∧ n ≤ 9 ∧ m ≤ 9 ∧ Riv w' (.slice uo n uc) (.slice vo m vc) fs gs ∧ Below w.heap.size w w' := by
  refine (few15 hf hg).mono ?_
  rintro e w1 ⟨u', v', rfl, hu, hv, hb⟩
  have hr := few_riv hu hv
  obtain ⟨uo, uc, rfl, _⟩ := hu.shape
  obtain ⟨vo, vc, rfl, _⟩ := hv.shape
  exact ⟨uo, uc, vo, vc, _, _, _, _, rfl, rfl, rfl, by rw [List.length_take]; omega, by rw [fewG_len _ _ (by omega)]; omega, hr, hb⟩
theorem cut16' {w : World} {u : Value} {xs : List Int} (h : InRow w u xs) (m : Nat) (hm : m ≤ 100) :
    Calls Try.prog 16 #[u, .int .i64 m] w fun e w' => ∃ uo uc us n, e = .returned (.slice uo n uc) ∧ n = us.length ∧ n ≤ m ∧ Reads w' (.slice uo n uc) us ∧ Below w.heap.size w w' := by
  refine (cut16 h m hm).mono ?_
  rintro e w1 ⟨v, rfl, hv, hb⟩
  have hr := hv.shape
  obtain ⟨uo, uc, rfl, _⟩ := hv.shape
  exact ⟨uo, uc, _, _, rfl, rfl, by rw [List.length_take]; omega, hr, hb⟩

set_option maxHeartbeats 4000000 in
set_option maxRecDepth 100000 in
theorem walk3 {w : World} {a b c : Value} {xs ys : List Int} {xss : List (List Int)} (hf : InRow w a xs) (hg : InRows w b xss) (hy : InRow w c ys) :
    Calls Try.prog 3 #[.agg #[a, b], c] w fun e w' => e = .returned (.bool true) ∧ Below w.heap.size w w' := by
  obtain ⟨ao, ac, rfl, _⟩ := hf.2.2
  have hg' := Lib.hid hg
  obtain ⟨bo, bc, rfl, _⟩ := hg
  have hf' := Lib.hid hf
  have hy' := Lib.hid hy
  obtain ⟨_, _, co, cc, rfl, _⟩ := hy
  clear hf
  go_enter Try.func3, Try.ntmps3
  go_wp2_with fail
  have hb0 := below_alloc1 w (.cells #[.slice ao xs.length ac, .slice bo xss.length bc] 25)
  refine (few15' (hf'.out.below hb0) (hg'.out.below hb0)).mono ?_
  rintro e w1 ⟨uo, uc, vo, vc, fs, gs, n, g, rfl, hn, hgn, hn9, hg9, hriv, hb1⟩
  have hb1 := below_call hb0 hb1
  have hriv' := Lib.hid hriv
  have hn' := Lib.hid hn
  have hgn' := Lib.hid hgn
  clear hriv hn hgn
  go_wp2_with fail
  refine (cut16' (hy'.out.below hb1) 9 (by omega)).mono ?_
  rintro e w2 ⟨zo, zc, us, m, rfl, hm, hm9, hus, hb2⟩
  have hm' := Lib.hid hm
  have hus' := Lib.hid hus
  clear hm hus
  go_wp2_with fail
  refine (worth17 (hriv'.out.below hb2) hus'.out (by rw [← hm'.out]; omega)).mono ?_
  obtain ⟨W, hW⟩ : ∃ W, W = wVal fs gs us := ⟨_, rfl⟩
  obtain ⟨E, hE⟩ : ∃ E, E = wErr fs gs us := ⟨_, rfl⟩
  rw [← hW, ← hE]
  have hW' := Lib.hid hW
  have hE' := Lib.hid hE
  clear hW hE
  rintro e w3 ⟨rfl, hb3⟩
  have hrv3 := Lib.hid ((hriv'.out.below hb2).below hb3)
  have hus3 := Lib.hid (hus'.out.below hb3)
  have hB3 := Lib.hid (below_call (below_call hb1 hb2) hb3)
  clear hb1 hb2 hb3
  go_wp2_with fail
  refine (river18 hrv3.out.1 hrv3.out.2.1 hrv3.out.2.2.1 hrv3.out.2.2.2.1 hrv3.out.2.2.2.2).mono ?_
  rintro e w4 ⟨rfl, hb4⟩
  have hus4 := Lib.hid (hus3.out.below hb4)
  have hrv4 := Lib.hid (hrv3.out.below hb4)
  have hB4 := Lib.hid (below_call hB3.out hb4)
  clear hb4
  by_cases hr : rivB fs gs = true
  · obtain ⟨_, h8, hfl, hfo, hok, _⟩ := rivB_facts hr
    have hfl' := Lib.hid hfl
    have hfo' := Lib.hid hfo
    have hok' := Lib.hid hok
    clear hfl hfo hok
    rw [hr]
    by_cases hl : m = n
    · have hEq := Lib.hid (show E = if negB us = true then 2 else if poss 0 fs us = false then 5 else 0 by
        rw [hE'.out]; unfold wErr
        rw [if_neg (by rw [hr]; simp), if_neg (by rw [← hm'.out, ← hn'.out, hl]; simp)])
      have hWq := Lib.hid (show W = if E = 0 then worthL gs us else 0 by rw [hW'.out, hE'.out]; rfl)
      have hl' := Lib.hid hl
      have hne : ((m : Int) != (n : Int)) = false := by simp [hl]
      clear hl
      go_wp2_with fail
      go_loop [10, 11] (fun bv i => ∃ (k : Nat) (B : Int), k ≤ m ∧ i = .int .i64 k ∧ bv = .int .i64 B ∧ Hid ((B = 0 ∧ negB us = negB (us.drop k)) ∨ (B = 2 ∧ negB us = true))) (fun _ i => m - (intOf i).toNat)
      case atStart => exact ⟨0, 0, Nat.zero_le _, rfl, rfl, Lib.hid (.inl ⟨rfl, rfl⟩)⟩
      case round =>
        obtain ⟨k, B, hk, rfl, rfl, hinv⟩ := hrel
        rcases hinv.out with ⟨hB, hneg⟩ | ⟨hB, hneg⟩
        · subst hB
          have hneg' := Lib.hid hneg
          clear hneg hinv
          by_cases hlt : k < m
          · obtain ⟨g1, o1, rfl, hg1, hc⟩ := hus4.out.at hm'.out.symm hlt
            have c1 := hc k hlt
            have hd := Lib.hid (drop_cons us k (by rw [← hm'.out]; exact hlt))
            obtain ⟨x, hx⟩ : ∃ x, x = us.getD k 0 := ⟨_, rfl⟩
            rw [← hx] at c1 hd
            clear hc hx
            by_cases hx0 : x < 0
            · have hf := Lib.hid (show negB us = true by rw [hneg'.out, hd.out, negB_cons]; simp [hx0])
              go_wp2
              go_round
              case rel => exact ⟨k + 1, 2, by omega, by go_num, rfl, Lib.hid (.inr ⟨rfl, hf.out⟩)⟩
              case measure => simp [intOf]; omega
            · have hf := Lib.hid (show negB us = negB (us.drop (k + 1)) by rw [hneg'.out, hd.out, negB_cons]; simp [hx0])
              go_wp2
              go_round
              case rel => exact ⟨k + 1, 0, by omega, by go_num, rfl, Lib.hid (.inl ⟨rfl, hf.out⟩)⟩
              case measure => simp [intOf]; omega
          · have hf := Lib.hid (show negB us = false by rw [hneg'.out, drop_end _ _ (by rw [← hm'.out]; omega)]; rfl)
            have hnn := Lib.hid (negB_nn hf.out)
            go_wp2_with fail
            refine (possible19 hrv4.out.1 hus4.out (by rw [← hm'.out, ← hn'.out, hl'.out]) hfo'.out hnn.out).mono ?_
            rintro e w5 ⟨rfl, rfl⟩
            by_cases hp : poss 0 fs us = true
            · have hE0 : E = 0 := by rw [hEq.out, if_neg (by rw [hf.out]; simp), if_neg (by rw [hp]; simp)]
              have hW0 : W = worthL gs us := by rw [hWq.out, if_pos hE0]
              subst hE0
              rw [hp]
              go_wp2_with fail
              refine (worth21 hrv4.out.2.1 hus4.out (by rw [← hm'.out, hl'.out, hn'.out, hfl'.out]) hok'.out hnn.out).mono ?_
              rw [← hW0]
              clear hW0
              rintro e w6 ⟨rfl, hb6⟩
              have hWW : (W == W) = true := by simp
              go_wp2_with fail
              refine (lives20 w6).mono ?_
              rintro e w7 ⟨rfl, hb7⟩
              go_wp2_with fail
              go_ret
              exact ⟨rfl, below_call (below_call hB4.out hb6) hb7⟩
            · have hp1 : poss 0 fs us = false := by simpa using hp
              have hE0 : E = 5 := by rw [hEq.out, if_neg (by rw [hf.out]; simp), if_pos hp1]
              have hW0 : W = 0 := by rw [hWq.out, hE0]; rfl
              subst hE0 hW0
              rw [hp1]
              go_wp2_with fail
              refine (lives20 _).mono ?_
              rintro e w7 ⟨rfl, hb7⟩
              go_wp2_with fail
              go_ret
              exact ⟨rfl, below_call hB4.out hb7⟩
        · subst hB
          have hE0 : E = 2 := by rw [hEq.out, if_pos hneg]
          have hW0 : W = 0 := by rw [hWq.out, hE0]; rfl
          subst hE0 hW0
          clear hneg hinv
          by_cases hlt : k < m
          all_goals
            go_wp2_with fail
            refine (lives20 _).mono ?_
            rintro e w7 ⟨rfl, hb7⟩
            go_wp2_with fail
            go_ret
            exact ⟨rfl, below_call hB4.out hb7⟩
    · have hE0 : E = 2 := by
        rw [hE'.out]; unfold wErr
        rw [if_neg (by rw [hr]; simp), if_pos (by rw [← hm'.out, ← hn'.out]; exact hl)]
      have hW0 : W = 0 := by rw [hW'.out]; unfold wVal; rw [if_neg (by rw [← hE'.out, hE0]; simp)]
      have hne : ((m : Int) != (n : Int)) = true := by simp; omega
      subst hE0 hW0
      clear hl
      go_wp2_with fail
      go_loop [10, 11] (fun bv i => ∃ (k : Nat), k ≤ m ∧ i = .int .i64 k ∧ bv = .int .i64 2) (fun _ i => m - (intOf i).toNat)
      case atStart => exact ⟨0, Nat.zero_le _, rfl, rfl⟩
      case round =>
        obtain ⟨k, hk, rfl, rfl⟩ := hrel
        by_cases hlt : k < m
        all_goals
          go_wp2_with fail
          refine (lives20 _).mono ?_
          rintro e w7 ⟨rfl, hb7⟩
          go_wp2_with fail
          go_ret
          exact ⟨rfl, below_call hB4.out hb7⟩
  · have hr1 : rivB fs gs = false := by simpa using hr
    have hE0 : E = 1 := by rw [hE'.out]; unfold wErr; rw [if_pos hr1]
    have hW0 : W = 0 := by rw [hW'.out]; unfold wVal; rw [if_neg (by rw [← hE'.out, hE0]; simp)]
    rw [hr1]
    subst hE0 hW0
    clear hr
    go_wp2_with fail
    go_loop [10, 11] (fun bv i => ∃ (k : Nat), k ≤ m ∧ i = .int .i64 k ∧ bv = .int .i64 1) (fun _ i => m - (intOf i).toNat)
    case atStart => exact ⟨0, Nat.zero_le _, rfl, rfl⟩
    case round =>
      obtain ⟨k, hk, rfl, rfl⟩ := hrel
      by_cases hlt : k < m
      all_goals
        go_wp2_with fail
        refine (lives20 _).mono ?_
        rintro e w7 ⟨rfl, hb7⟩
        go_wp2_with fail
        go_ret
        exact ⟨rfl, below_call hB4.out hb7⟩
end Go.Proofs.Ytccmabckmpelcaa
