import Derived.Test.YtpcjigdmfchbdaaDoorR
namespace Go.Proofs.YtpcjigdmfchbdaaDoor
open Go.RowKit Go.Shelf Cl
attribute [local go_sem] Oper.semAt_some
def cmpI (a b : Int) : Int := if a < b then -1 else if b < a then 1 else 0
set_option maxRecDepth 100000 in
theorem nan103 {w : World} (a : Int) : Calls Tryd.prog 103 #[.int .i64 a] w fun e w' => e = .returned (.bool false) ∧ w = w' := by
  go_enter Tryd.func103, Tryd.ntmps103
  go_wp2
  go_ret
  exact ⟨by simp, rfl⟩
set_option maxRecDepth 100000 in
theorem cmp90 {w : World} (a b : Int) : Calls Tryd.prog 90 #[.int .i64 a, .int .i64 b] w fun e w' => e = .returned (.int .i64 (cmpI a b)) ∧ w = w' := by
  have hn := Lib.hid (fun (w : World) (a : Int) => nan103 (w := w) a)
  by_cases h1 : a < b
  · have hf := Lib.hid (show cmpI a b = -1 by unfold cmpI; rw [if_pos h1])
    go_enter Tryd.func90, Tryd.ntmps90
    go_wp2_with (first
        | (go_at_call 103; refine (hn.out _ _).mono ?_; rintro e w1 ⟨rfl, rfl⟩))
    go_ret
    exact ⟨ret_i hf.out.symm, rfl⟩
  · by_cases h2 : b < a
    · have hf := Lib.hid (show cmpI a b = 1 by unfold cmpI; rw [if_neg h1, if_pos h2])
      go_enter Tryd.func90, Tryd.ntmps90
      go_wp2_with (first
          | (go_at_call 103; refine (hn.out _ _).mono ?_; rintro e w1 ⟨rfl, rfl⟩))
      go_ret
      exact ⟨ret_i hf.out.symm, rfl⟩
    · have hf := Lib.hid (show cmpI a b = 0 by unfold cmpI; rw [if_neg h1, if_neg h2])
      have h3 : decide (a < b) = false := by simpa using h1
      have h4 : decide (b < a) = false := by simpa using h2
      go_enter Tryd.func90, Tryd.ntmps90
      go_wp2_with (first
          | (go_at_call 103; refine (hn.out _ _).mono ?_; rintro e w1 ⟨rfl, rfl⟩))
      go_ret
      exact ⟨ret_i hf.out.symm, rfl⟩
/-- The lexicographic order of two lists. -/
def cmpL : List Int → List Int → Int
  | [], [] => 0
  | [], _ :: _ => -1
  | _ :: _, [] => 1
  | x :: xs, y :: ys => if cmpI x y = 0 then cmpL xs ys else cmpI x y
theorem cmpL_done {xs ys : List Int} {k : Nat} (h1 : xs.length ≤ k) : cmpL (xs.drop k) (ys.drop k) = if xs.length < ys.length ∧ k < ys.length then -1 else 0 := by
  rw [List.drop_eq_nil_of_le h1]
  by_cases h : k < ys.length
  · rw [drop_cons ys k h, if_pos ⟨by omega, h⟩]; rfl
  · rw [List.drop_eq_nil_of_le (by omega), if_neg (by omega)]; rfl
set_option maxHeartbeats 2000000 in
set_option maxRecDepth 100000 in
theorem compare77 {w : World} {u v : Value} {xs ys : List Int} (hu : Reads w u xs) (hv : Reads w v ys) (hl : xs.length ≤ 1000000) :
    Calls Tryd.prog 77 #[u, v] w fun e w' => e = .returned (.int .i64 (cmpL xs ys)) ∧ w = w' := by
  obtain ⟨ao, c, rfl, _, h1⟩ := hu
  obtain ⟨bo, d, rfl, _, h2⟩ := hv
  obtain ⟨n, hn⟩ : ∃ n, n = xs.length := ⟨_, rfl⟩
  obtain ⟨m, hm⟩ : ∃ n, n = ys.length := ⟨_, rfl⟩
  rw [← hn] at hl ⊢
  rw [← hm]
  have hc := Lib.hid (fun (w : World) (a b : Int) => cmp90 (w := w) a b)
  have hn' := Lib.hid hn
  have hm' := Lib.hid hm
  have h1' := Lib.hid h1
  have h2' := Lib.hid h2
  clear hn hm h1 h2
  go_enter Tryd.func77, Tryd.ntmps77
  go_wp2
  go_loop [11] (fun i => ∃ k : Nat, k ≤ n ∧ k ≤ m ∧ i = .int .i64 k ∧ Hid (cmpL xs ys = cmpL (xs.drop k) (ys.drop k))) (fun i => n - (intOf i).toNat)
  case atStart => exact ⟨0, Nat.zero_le _, Nat.zero_le _, rfl, Lib.hid rfl⟩
  case round =>
    obtain ⟨k, hk, hkm, rfl, hj⟩ := hrel
    by_cases hlt : k < n
    · have e1 := hn'.out
      obtain ⟨g, o, rfl, hg, hc1⟩ := h1'.out (fun e => by rw [e] at e1; simp at e1; omega)
      have c1 := hc1 k (by omega)
      have hd1 := Lib.hid (drop_cons xs k (by omega))
      clear hc1 e1
      obtain ⟨x, hx⟩ : ∃ x, x = xs.getD k 0 := ⟨_, rfl⟩
      rw [← hx] at c1 hd1
      clear hx
      by_cases hmt : k < m
      · have e2 := hm'.out
        obtain ⟨f, p, rfl, hf, hc2⟩ := h2'.out (fun e => by rw [e] at e2; simp at e2; omega)
        have c2 := hc2 k (by omega)
        have hd2 := Lib.hid (drop_cons ys k (by omega))
        clear hc2 e2
        obtain ⟨y, hy⟩ : ∃ x, x = ys.getD k 0 := ⟨_, rfl⟩
        rw [← hy] at c2 hd2
        clear hy
        have hs := Lib.hid (show cmpL xs ys = if cmpI x y = 0 then cmpL (xs.drop (k + 1)) (ys.drop (k + 1)) else cmpI x y by rw [hj.out, hd1.out, hd2.out]; rfl)
        by_cases hz : cmpI x y = 0
        · have hs' := Lib.hid (show cmpL xs ys = cmpL (xs.drop (k + 1)) (ys.drop (k + 1)) by rw [hs.out, if_pos hz])
          go_wp2_with (first
              | (go_at_call 90; refine (hc.out _ _ _).mono ?_; rintro e w1 ⟨rfl, rfl⟩; rw [hz]))
          go_round
          case rel => exact ⟨k + 1, by omega, by omega, by go_num, hs'⟩
          case measure => simp [intOf]; omega
        · have hs' := Lib.hid (show cmpL xs ys = cmpI x y by rw [hs.out, if_neg hz])
          have hz' : (cmpI x y != 0) = true := by simp [hz]
          go_wp2_with (first
              | (go_at_call 90; refine (hc.out _ _ _).mono ?_; rintro e w1 ⟨rfl, rfl⟩))
          go_ret
          exact ⟨ret_i hs'.out.symm, rfl⟩
      · have hs := Lib.hid (show cmpL xs ys = 1 by
          have e0 : ys.drop k = [] := List.drop_eq_nil_of_le (by have := hm'.out; omega)
          rw [hj.out, hd1.out, e0]; rfl)
        go_wp2
        go_ret
        exact ⟨ret_i hs.out.symm, rfl⟩
    · have hkn : k = n := by omega
      have hs := Lib.hid (show cmpL xs ys = if n < m then -1 else 0 by
        rw [hj.out, cmpL_done (by rw [← hn'.out]; omega), ← hn'.out, ← hm'.out, hkn]; by_cases h : n < m <;> simp [h])
      by_cases hnm : n < m
      · have hs' := Lib.hid (show cmpL xs ys = -1 by rw [hs.out, if_pos hnm])
        go_wp2
        go_ret
        exact ⟨ret_i hs'.out.symm, rfl⟩
      · have hs' := Lib.hid (show cmpL xs ys = 0 by rw [hs.out, if_neg hnm])
        go_wp2
        go_ret
        exact ⟨ret_i hs'.out.symm, rfl⟩
set_option maxRecDepth 100000 in
set_option maxHeartbeats 1000000 in
theorem preferred54 {w : World} (hT : Tab w) {n : Nat} {L : Atts} (hD : OkD n L) :
    Calls Tryd.prog 54 #[.agg (csD n L)] w (SetsEnd w (prefs n L)) := by
  have hb1 := Lib.hid (below_alloc1 w (.cells (csD n L) 74))
  have hd0 := Lib.hid (DAt.new w n L 74)
  have hs := Lib.hid (sets55c (w := w.alloc (.cells (csD n L) 74)) hD (q := comB n L) (fun W S hS hW => complete57 (hT.call (below_call hb1.out hW)) hD (lt12 hD.nn hS)))
  have hlt := Lib.hid (show ∀ x ∈ sets n (comB n L), x < 4096 from fun x hx => lt12 hD.nn (mem_sets.1 hx).1)
  have hlen := Lib.hid (show (sets n (comB n L)).length ≤ 4096 from Nat.le_trans (filter_range_le _ _) (pow12 hD.nn))
  have hg := Lib.hid (fun (W : World) (B : Nat) (v : Value) (h : OwnU W B v (sets n (comB n L))) => show Calls Tryd.prog 60 #[v, .func (.func 78) #[] #[]] W (SetsEnd W (prefs n L)) from greatest60i (m := id) h hlt.out (fun _ h => h) hlen.out (fun W S _ _ => id78))
  clear hT hD
  go_enter Tryd.func54, Tryd.ntmps54
  go_wp2_with (first
      | (refine wl74 rfl _ rfl rfl hd0.out ?_)
      | (go_at_call 55; refine (hs.out).mono ?_; rintro e w1 ⟨v, rfl, ho, hb⟩; have ho' := Lib.hid ho; have hb' := Lib.hid (below_call hb1.out hb); clear hb ho)
      | (go_at_call 60; refine (hg.out _ _ _ ho'.out).mono ?_; rintro e w2 ⟨v2, rfl, ho, hb⟩; have ho2 := Lib.hid (ho.base (Nat.le_trans hb'.out.size (Nat.le_refl _))); have hb2 := Lib.hid (below_call hb'.out hb); clear hb ho))
  go_ret
  exact ⟨_, rfl, ho2.out, hb2.out⟩
end Go.Proofs.YtpcjigdmfchbdaaDoor
