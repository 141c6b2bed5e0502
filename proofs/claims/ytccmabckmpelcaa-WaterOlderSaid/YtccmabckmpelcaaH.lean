import Derived.Test.YtccmabckmpelcaaG
namespace Go.Proofs.Ytccmabckmpelcaa
open Go.RowKit

theorem rivB_facts {fs : List Int} {gs : List (List Int)} (h : rivB fs gs = true) : 1 ≤ fs.length ∧ fs.length ≤ 8 ∧ fs.length = gs.length ∧ FlowOk fs ∧ GOk gs ∧ (∀ j, j < fs.length → fs.getD j 0 ≤ 30) := by
  unfold rivB flowB at h
  simp only [Bool.and_eq_true, decide_eq_true_eq] at h
  obtain ⟨⟨⟨⟨h1, h2⟩, h3⟩, h4⟩, h5⟩ := h
  have ha : ∀ j, j < fs.length → 0 ≤ fs.getD j 0 ∧ fs.getD j 0 ≤ 30 := by
    intro j hj
    unfold amt at h3
    rw [List.all_eq_true] at h3
    have := h3 (fs.getD j 0) (by rw [List.getD_eq_getElem?_getD, List.getElem?_eq_getElem hj]; exact List.getElem_mem _)
    simp only [Bool.and_eq_true, decide_eq_true_eq] at this
    exact this
  refine ⟨h1, h2, h4.symm, ⟨by omega, fun j hj => by have := ha j hj; omega⟩, ⟨by omega, fun j hj => ?_⟩, fun j hj => (ha j hj).2⟩
  unfold allG at h5
  rw [List.all_eq_true] at h5
  exact h5 _ (by rw [List.getD_eq_getElem?_getD, List.getElem?_eq_getElem hj]; exact List.getElem_mem _)

theorem rivRes_yes {b : Bool} {u v : Value} (h : b = true) : rivRes b u v = .returned (.tuple #[.agg #[u, v], .int .i64 0]) := by rw [h]; rfl
theorem rivRes_no {b : Bool} {u v : Value} (h : b = false) : rivRes b u v = .returned (.tuple #[.agg #[.slice none 0 0, .slice none 0 0], .int .i64 1]) := by rw [h]; rfl

/-- A river as it came: not too great for the machine. -/
def Riv (w : World) (u v : Value) (fs : List Int) (gs : List (List Int)) : Prop := Reads w u fs ∧ ReadsG w v gs ∧ fs.length ≤ 1000000 ∧ gs.length ≤ 1000000 ∧ ∀ j, j < gs.length → (gs.getD j []).length ≤ 1000000
theorem Riv.below {w w' : World} {u v : Value} {fs : List Int} {gs : List (List Int)} (h : Riv w u v fs gs) (hb : Below w.heap.size w w') : Riv w' u v fs gs := ⟨h.1.below hb, h.2.1.below hb, h.2.2⟩
theorem Riv.river {w : World} {u v : Value} {fs : List Int} {gs : List (List Int)} (h : Riv w u v fs gs) :
    Calls Try.prog 39 #[u, v] w fun e w' => e = rivRes (rivB fs gs) u v ∧ Below w.heap.size w w' := river39 h.1 h.2.1 h.2.2.1 h.2.2.2.1 h.2.2.2.2

set_option maxHeartbeats 1000000 in
set_option maxRecDepth 100000 in
theorem best22_bad {w : World} {u v : Value} {fs : List Int} {gs : List (List Int)} (h : Riv w u v fs gs) (hr : rivB fs gs = false) :
    Calls Try.prog 22 #[u, v] w fun e w' => e = .returned (.tuple #[.slice none 0 0, .int .i64 0, .int .i64 1]) ∧ Below w.heap.size w w' := by
  have h' := Lib.hid h
  obtain ⟨fo, fc, rfl, _, _⟩ := h.1
  obtain ⟨go, gc, rfl, _, _⟩ := h.2.1
  clear h
  go_enter Try.func22, Try.ntmps22
  go_wp2_with fail
  refine h'.out.river.mono ?_
  rw [rivRes_no hr]
  rintro e w1 ⟨rfl, hb1⟩
  go_wp2_with fail
  go_ret3
  exact ⟨rfl, hb1.alloc hb1.size _⟩

set_option maxHeartbeats 1000000 in
set_option maxRecDepth 100000 in
theorem best22 {w : World} {u v : Value} {fs : List Int} {gs : List (List Int)} (h : Riv w u v fs gs) (hr : rivB fs gs = true) :
    Calls Try.prog 22 #[u, v] w fun e w' => ∃ x, e = .returned (.tuple #[x, .int .i64 (bestW fs gs), .int .i64 0]) ∧ Reads w' x (bestU fs gs) ∧ Below w.heap.size w w' := by
  obtain ⟨_, _, hfl, hfo, hok, _⟩ := rivB_facts hr
  have h' := Lib.hid h
  obtain ⟨fo, fc, rfl, _, _⟩ := h.1
  obtain ⟨go, gc, rfl, _, _⟩ := h.2.1
  clear h
  have hfo' := Lib.hid hfo
  have hok' := Lib.hid hok
  have hfl' := Lib.hid hfl
  clear hfo hok hfl
  go_enter Try.func22, Try.ntmps22
  go_wp2_with fail
  refine h'.out.river.mono ?_
  rw [rivRes_yes hr]
  rintro e w1 ⟨rfl, hb1⟩
  go_wp2_with fail
  have hb2 : Below w.heap.size w (w1.alloc (.cells #[.slice fo fs.length fc, .slice go gs.length gc] 57)) := hb1.alloc hb1.size _
  have h2 := h'.out.below hb2
  refine (best44 h2.1 h2.2.1 hfl'.out hfo'.out hok'.out).mono ?_
  rintro e w2 ⟨x, rfl, hx, hb3⟩
  go_wp2_with fail
  go_ret3
  exact ⟨_, rfl, hx, below_call hb2 hb3⟩

/-! ## Worth -/
def negB (us : List Int) : Bool := us.any fun v => decide (v < 0)
theorem negB_cons (x : Int) (l : List Int) : negB (x :: l) = (decide (x < 0) || negB l) := by simp [negB]
theorem negB_nn {us : List Int} (h : negB us = false) : NonNeg us := by
  intro j hj
  unfold negB at h
  rw [List.any_eq_false] at h
  have := h (us.getD j 0) (by rw [List.getD_eq_getElem?_getD, List.getElem?_eq_getElem hj]; exact List.getElem_mem _)
  simp at this ⊢; omega
def wErr (fs : List Int) (gs : List (List Int)) (us : List Int) : Int :=
  if rivB fs gs = false then 1 else if us.length ≠ fs.length then 2 else if negB us = true then 2 else if poss 0 fs us = false then 5 else 0
def wVal (fs : List Int) (gs : List (List Int)) (us : List Int) : Int := if wErr fs gs us = 0 then worthL gs us else 0

theorem ret_ii {a b c d : Int} (h : a = c) (k : b = d) : Ending.returned (.tuple #[.int .i64 a, .int .i64 b]) = .returned (.tuple #[.int .i64 c, .int .i64 d]) := by rw [h, k]

set_option maxHeartbeats 2000000 in
set_option maxRecDepth 100000 in
theorem worth17 {w : World} {u v z : Value} {fs us : List Int} {gs : List (List Int)} (h : Riv w u v fs gs) (hz : Reads w z us) (hul : us.length ≤ 1000000) :
    Calls Try.prog 17 #[u, v, z] w fun e w' => e = .returned (.tuple #[.int .i64 (wVal fs gs us), .int .i64 (wErr fs gs us)]) ∧ Below w.heap.size w w' := by
  have h' := Lib.hid h
  have hz' := Lib.hid hz
  obtain ⟨fo, fc, rfl, _, _⟩ := h.1
  obtain ⟨go, gc, rfl, _, _⟩ := h.2.1
  obtain ⟨uo, uc, rfl, _, h2⟩ := hz
  clear h
  by_cases hr : rivB fs gs = true
  · by_cases hl : us.length = fs.length
    · obtain ⟨_, _, hfl, hfo, hok, _⟩ := rivB_facts hr
      obtain ⟨n, hn⟩ : ∃ n, n = us.length := ⟨_, rfl⟩
      rw [← hn] at hz' h2 hul ⊢
      rw [← hn] at hl
      have hf9 := hfo.1
      rw [← hl] at hf9
      have hfo' := Lib.hid hfo
      have hok' := Lib.hid hok
      have hfl' := Lib.hid hfl
      have hn' := Lib.hid hn
      have hl' := Lib.hid hl
      have h2' := Lib.hid h2
      clear hfo hok hfl hn h2
      rw [← hl] at h' ⊢
      clear hl
      have heq := Lib.hid (show wErr fs gs us = if negB us = true then 2 else if poss 0 fs us = false then 5 else 0 by
        unfold wErr; rw [if_neg (by rw [hr]; simp), if_neg (by rw [← hn'.out, ← hl'.out]; simp)])
      have hvq := Lib.hid (show wVal fs gs us = if wErr fs gs us = 0 then worthL gs us else 0 from rfl)
      go_enter Try.func17, Try.ntmps17
      go_wp2_with fail
      refine h'.out.river.mono ?_
      rw [rivRes_yes hr]
      rintro e w1 ⟨rfl, hb1⟩
      go_wp2_with fail
      have hb2 : Below w.heap.size w (w1.alloc (.cells #[.slice fo n fc, .slice go gs.length gc] 57)) := hb1.alloc hb1.size _
      go_loop [28] (fun i => ∃ k : Nat, k ≤ n ∧ i = .int .i64 k ∧ Hid (negB us = negB (us.drop k))) (fun i => n - (intOf i).toNat)
      case atStart => exact ⟨0, Nat.zero_le _, rfl, Lib.hid rfl⟩
      case round =>
        obtain ⟨k, hk, rfl, hj⟩ := hrel
        by_cases hlt : k < n
        · have e1 := hn'.out
          obtain ⟨g, o, rfl, hg, hc1⟩ := h2'.out (fun e => by rw [e] at e1; simp at e1; omega)
          have c1 := (hb2.cell (p := ⟨g, o + k, none⟩) hg).trans (hc1 k (by omega))
          have hd := Lib.hid (drop_cons us k (by omega))
          obtain ⟨x, hx⟩ : ∃ x, x = us.getD k 0 := ⟨_, rfl⟩
          rw [← hx] at c1
          have hx' := Lib.hid hx
          clear hc1 e1 hx
          by_cases hneg : x < 0
          · have hf := Lib.hid (show negB us = true by rw [hj.out, hd.out, negB_cons, ← hx'.out]; simp [hneg])
            go_wp2
            go_ret2
            exact ⟨ret_ii (by rw [hvq.out, heq.out, if_pos hf.out]; rfl) (by rw [heq.out, if_pos hf.out]), hb2⟩
          · have hf := Lib.hid (show negB us = negB (us.drop (k + 1)) by rw [hj.out, hd.out, negB_cons, ← hx'.out]; simp [hneg])
            go_wp2
            go_round
            case rel => exact ⟨k + 1, by omega, by go_num, hf⟩
            case measure => simp [intOf]; omega
        · have hf := Lib.hid (show negB us = false by rw [hj.out, drop_end _ _ (by rw [← hn'.out]; omega)]; rfl)
          have hnn := Lib.hid (negB_nn hf.out)
          go_wp2_with fail
          refine (possible40 (h'.out.below hb2).1 (hz'.out.below hb2) (by rw [← hn'.out, ← hl'.out]) hfo'.out hnn.out).mono ?_
          rintro e w2 ⟨rfl, rfl⟩
          by_cases hp : poss 0 fs us = true
          · have he0 := Lib.hid (show wErr fs gs us = 0 by rw [heq.out, if_neg (by rw [hf.out]; simp), if_neg (by rw [hp]; simp)])
            rw [hp]
            go_wp2_with fail
            refine (worth41 (h'.out.below hb2).1 (h'.out.below hb2).2.1 (hz'.out.below hb2) (by rw [← hn'.out, hl'.out, hfl'.out]) hok'.out hnn.out).mono ?_
            rintro e w3 ⟨rfl, hb3⟩
            go_wp2_with fail
            go_ret2
            exact ⟨ret_ii (by rw [hvq.out, he0.out]; rfl) he0.out.symm, below_call hb2 hb3⟩
          · have hp1 : poss 0 fs us = false := by simpa using hp
            have he0 := Lib.hid (show wErr fs gs us = 5 by rw [heq.out, if_neg (by rw [hf.out]; simp), if_pos hp1])
            rw [hp1]
            go_wp2_with fail
            go_ret2
            exact ⟨ret_ii (by rw [hvq.out, he0.out]; rfl) he0.out.symm, hb2⟩
    · have he0 := Lib.hid (show wErr fs gs us = 2 by unfold wErr; rw [if_neg (by rw [hr]; simp), if_pos hl])
      have hvq := Lib.hid (show wVal fs gs us = 0 by unfold wVal; rw [he0.out]; rfl)
      have hb2 : ((us.length : Int) != (fs.length : Int)) = true := by simp; omega
      go_enter Try.func17, Try.ntmps17
      go_wp2_with fail
      refine h'.out.river.mono ?_
      rw [rivRes_yes hr]
      rintro e w1 ⟨rfl, hb1⟩
      go_wp2_with fail
      go_ret2
      exact ⟨ret_ii hvq.out.symm he0.out.symm, hb1.alloc hb1.size _⟩
  · have hr1 : rivB fs gs = false := by simpa using hr
    have he0 := Lib.hid (show wErr fs gs us = 1 by unfold wErr; rw [if_pos hr1])
    have hvq := Lib.hid (show wVal fs gs us = 0 by unfold wVal; rw [he0.out]; rfl)
    go_enter Try.func17, Try.ntmps17
    go_wp2_with fail
    refine h'.out.river.mono ?_
    rw [rivRes_no hr1]
    rintro e w1 ⟨rfl, hb1⟩
    go_wp2_with fail
    go_ret2
    exact ⟨ret_ii hvq.out.symm he0.out.symm, hb1.alloc hb1.size _⟩

/-! ## Groups -/
def grpFrom (n : Int) : Int → List Int → Bool
  | _, [] => true
  | m, p :: r => decide (m ≤ p) && decide (p < n) && grpFrom n (p + 1) r

set_option maxHeartbeats 1000000 in
set_option maxRecDepth 100000 in
theorem group56 {w : World} {v : Value} {xs : List Int} (hv : Reads w v xs) (hl : xs.length ≤ 1000000) (N : Nat) (hN : N ≤ 1000000) :
    Calls Try.prog 56 #[v, .int .i64 N] w fun e w' => e = .returned (.bool (grpFrom N 0 xs)) ∧ w = w' := by
  obtain ⟨ao, c, rfl, _, h1⟩ := hv
  obtain ⟨n, hn⟩ : ∃ n, n = xs.length := ⟨_, rfl⟩
  rw [← hn] at hl ⊢
  have h1' := Lib.hid h1
  have hn' := Lib.hid hn
  clear h1 hn
  go_enter Try.func56, Try.ntmps56
  go_wp2
  go_loop [5, 10] (fun m i => ∃ (k : Nat) (most : Int), k ≤ n ∧ i = .int .i64 k ∧ m = .int .i64 most ∧ 0 ≤ most ∧ Hid (grpFrom N 0 xs = grpFrom N most (xs.drop k))) (fun _ i => n - (intOf i).toNat)
  case atStart => exact ⟨0, 0, Nat.zero_le _, rfl, rfl, by omega, Lib.hid rfl⟩
  case round =>
    obtain ⟨k, most, hk, rfl, rfl, hm0, hj⟩ := hrel
    by_cases hlt : k < n
    · obtain ⟨g, o, rfl, hg, hc1⟩ := h1'.out (fun e => by have := hn'.out; rw [e] at this; simp at this; omega)
      have c1 := hc1 k (by rw [← hn'.out]; exact hlt)
      have hd := Lib.hid (drop_cons xs k (by rw [← hn'.out]; exact hlt))
      clear hc1
      obtain ⟨x, hx⟩ : ∃ x, x = xs.getD k 0 := ⟨_, rfl⟩
      rw [← hx] at c1
      have hx' := Lib.hid hx
      clear hx
      by_cases ha : x < most
      · have hf := Lib.hid (show grpFrom N 0 xs = false by rw [hj.out, hd.out, grpFrom, ← hx'.out]; simp [show ¬ most ≤ x by omega])
        go_wp2
        go_ret
        exact ⟨ret_b hf.out.symm, rfl⟩
      · by_cases hb : (N : Int) ≤ x
        · have hf := Lib.hid (show grpFrom N 0 xs = false by rw [hj.out, hd.out, grpFrom, ← hx'.out]; simp [show ¬ x < N by omega])
          go_wp2
          go_ret
          exact ⟨ret_b hf.out.symm, rfl⟩
        · have hf := Lib.hid (show grpFrom N 0 xs = grpFrom N (x + 1) (xs.drop (k + 1)) by rw [hj.out, hd.out, grpFrom, ← hx'.out]; simp [show most ≤ x by omega, show x < N by omega])
          go_wp2
          go_round
          case rel => exact ⟨k + 1, x + 1, by omega, by go_num, rfl, by omega, hf⟩
          case measure => simp [intOf]; omega
    · have hf := Lib.hid (show grpFrom N 0 xs = true by rw [hj.out, drop_end _ _ (by rw [← hn'.out]; omega)]; rfl)
      go_wp2
      go_ret
      exact ⟨ret_b hf.out.symm, rfl⟩
end Go.Proofs.Ytccmabckmpelcaa
