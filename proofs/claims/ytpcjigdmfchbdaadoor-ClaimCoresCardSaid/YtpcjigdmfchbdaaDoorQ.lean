import Derived.Test.YtpcjigdmfchbdaaDoorP
namespace Go.Proofs.YtpcjigdmfchbdaaDoor
open Go.RowKit Go.Shelf Cl

theorem OwnU.parts {w : World} {B : Nat} {v : Value} {xs : List Nat} (h : OwnU w B v xs) (hne : xs ≠ []) : ∃ g cap, v = .slice (some ⟨g, 0, none⟩) xs.length cap ∧ B ≤ g ∧ g < w.heap.size ∧
    ∀ j, j < xs.length → w.cell? ⟨g, j, none⟩ = some (.int .u64 (xs.getD j 0 : Int)) := by
  obtain ⟨ao, c, rfl, hc, h1⟩ := own_cells h
  obtain ⟨g, rfl, hB, hg, hcl⟩ := h1 (fun e => hne (List.length_eq_zero_iff.1 e))
  refine ⟨g, c, rfl, hB, hg, fun j hj => hcl j _ ?_⟩
  rw [List.getElem?_map, List.getElem?_eq_getElem hj, List.getD_eq_getElem?_getD, List.getElem?_eq_getElem hj]; rfl
theorem OwnU.len {w : World} {B : Nat} {v : Value} {xs : List Nat} (h : OwnU w B v xs) : ∃ ao c, v = .slice ao xs.length c ∧ xs.length ≤ c := by
  obtain ⟨ao, c, rfl, hc, _⟩ := own_cells h
  exact ⟨ao, c, rfl, hc⟩
def abv (m o : Nat) : Bool := o != m && (o ||| m == o)
theorem bne_cast (a b : Nat) : (!((a : Int) == (b : Int))) = (a != b) := by rw [cast_beq]; rfl
set_option maxHeartbeats 1000000 in
theorem above81 {w : World} {g m o : Nat} (hm : m < 4096) (ho : o < 4096) (hc : w.cell? ⟨g, 0, none⟩ = some (.int .u64 (m : Int))) :
    Calls Tryd.prog 81 #[.int .u64 (o : Int), .pointer (some ⟨g, 0, none⟩)] w fun e w' => e = .returned (.bool (abv m o)) ∧ w = w' := by
  have hk := Lib.hid (fun (W : World) => contains66 (w := W) ho hm)
  have hfin : abv m o = (o != m && (o ||| m == o)) := rfl
  rw [hfin]
  clear hfin hm ho
  generalize (o ||| m == o) = X at hk ⊢
  by_cases h : o = m
  · subst h
    have e : (o != o && X) = false := by simp
    rw [e]
    go_enter Tryd.func81, Tryd.ntmps81
    go_wp2_with (first | (go_at_call 66; refine (hk.out _).mono ?_; rintro e w1 ⟨rfl, rfl⟩))
    go_ret
    exact ⟨rfl, rfl⟩
  · have e : (o != m && X) = X := by simp [h]
    rw [e]
    have hne : ¬ (o : Int) = (m : Int) := by omega
    have hfin := Lib.hid (show ((o : Int) != (m : Int) && X) = X by simp only [bne, cast_beq, beq_eq_false_iff_ne.2 h]; rfl)
    go_enter Tryd.func81, Tryd.ntmps81
    go_wp2_with (first | (go_at_call 66; refine (hk.out _).mono ?_; rintro e w1 ⟨rfl, rfl⟩))
    go_ret
    exact ⟨ret_b hfin.out, rfl⟩
set_option maxRecDepth 100000 in
set_option maxHeartbeats 1000000 in
theorem index91 {w : World} {B g m : Nat} {v : Value} {xs : List Nat} (hx : OwnU w B v xs) (hxs : ∀ j, xs.getD j 0 < 4096) (hm : m < 4096) (hl : xs.length ≤ 4096) (hc : w.cell? ⟨g, 0, none⟩ = some (.int .u64 (m : Int))) :
    Calls Tryd.prog 91 #[v, .func (.func 81) #[] #[.pointer (some ⟨g, 0, none⟩)]] w fun e w' => (∃ r : Int, e = .returned (.int .i64 r) ∧ Hid (decide (0 ≤ r) = xs.any (abv m))) ∧ w = w' := by
  have hk := Lib.hid (fun (o : Nat) (ho : o < 4096) => above81 (w := w) hm ho hc)
  have hx' := Lib.hid hx
  have hxs' := Lib.hid hxs
  obtain ⟨ao, c, rfl, hcl⟩ := hx.len
  obtain ⟨N, hN⟩ : ∃ N, N = xs.length := ⟨_, rfl⟩
  have hN' := Lib.hid hN
  rw [← hN] at hl ⊢
  clear hx hxs hc hm hcl hN
  go_enter Tryd.func91, Tryd.ntmps91
  go_wp2_with fail
  go_loop [8] (fun p => ∃ k : Nat, k ≤ N ∧ p = .int .i64 (k : Int) ∧ Hid (∀ j, j < k → abv m (xs.getD j 0) = false)) (fun p => N - (intOf p).toNat)
  case atStart => exact ⟨0, Nat.zero_le _, rfl, Lib.hid (fun j hj => absurd hj (Nat.not_lt_zero j))⟩
  case round =>
    obtain ⟨k, hk2, rfl, hno⟩ := hrel
    by_cases hlt : k < N
    · obtain ⟨g2, cap, e1, _, hg2, hcell⟩ := hx'.out.parts (fun e => by have := hN'.out; rw [e] at this; simp at this; omega)
      have ck := hcell k (by rw [← hN'.out]; exact hlt)
      obtain ⟨rfl, rfl⟩ : ao = some ⟨g2, 0, none⟩ ∧ c = cap := by injection e1 with a _ b; exact ⟨a, b⟩
      have hA := Lib.hid (hk.out (xs.getD k 0) (hxs'.out k))
      have hmem := Lib.hid (show xs.getD k 0 ∈ xs from by rw [List.getD_eq_getElem?_getD, List.getElem?_eq_getElem (by rw [← hN'.out]; exact hlt)]; exact List.getElem_mem _)
      have hi1 : (k : Int) < N := by omega
      clear hcell e1
      cases hq : abv m (xs.getD k 0)
      · have hfin := Lib.hid (show ∀ j, j < k + 1 → abv m (xs.getD j 0) = false from fun j hj => by
          rcases Nat.lt_succ_iff_lt_or_eq.1 hj with h | h
          · exact hno.out j h
          · rw [h]; exact hq)
        rw [hq] at hA
        clear hq
        generalize xs.getD k 0 = y at ck hA
        go_wp2_with (first | (go_at_call 81; refine (hA.out).mono ?_; rintro e w2 ⟨rfl, rfl⟩))
        go_round
        case rel => exact ⟨k + 1, by omega, by go_num, hfin⟩
        case measure => simp [intOf]; omega
      · have hfin := Lib.hid (show xs.any (abv m) = true from List.any_eq_true.2 ⟨_, hmem.out, hq⟩)
        rw [hq] at hA
        clear hq hmem
        generalize xs.getD k 0 = y at ck hA
        go_wp2_with (first | (go_at_call 81; refine (hA.out).mono ?_; rintro e w2 ⟨rfl, rfl⟩))
        go_ret
        exact ⟨⟨_, rfl, Lib.hid (by rw [hfin.out]; exact decide_eq_true (by omega))⟩, rfl⟩
    · obtain rfl : k = N := by omega
      have hfin := Lib.hid (show xs.any (abv m) = false from by
        rw [List.any_eq_false]
        intro y hy
        obtain ⟨j, hj, rfl⟩ := List.getElem_of_mem hy
        have := hno.out j (by rw [hN'.out]; exact hj)
        rw [List.getD_eq_getElem?_getD, List.getElem?_eq_getElem hj] at this
        simpa using this)
      clear hno
      go_wp2
      go_ret
      exact ⟨⟨_, rfl, Lib.hid (by rw [hfin.out]; rfl)⟩, rfl⟩
set_option maxHeartbeats 1000000 in
theorem contains82 {w : World} {B g m : Nat} {v : Value} {xs : List Nat} (hx : OwnU w B v xs) (hxs : ∀ j, xs.getD j 0 < 4096) (hm : m < 4096) (hl : xs.length ≤ 4096) (hc : w.cell? ⟨g, 0, none⟩ = some (.int .u64 (m : Int))) :
    Calls Tryd.prog 82 #[v, .func (.func 81) #[] #[.pointer (some ⟨g, 0, none⟩)]] w fun e w' => e = .returned (.bool (xs.any (abv m))) ∧ w = w' := by
  have hk := Lib.hid (index91 hx hxs hm hl hc)
  clear hx hxs hm hl hc
  go_enter Tryd.func82, Tryd.ntmps82
  go_wp2_with (first | (go_at_call 91; refine (hk.out).mono ?_; rintro e w2 ⟨⟨r, rfl, hr⟩, rfl⟩))
  go_ret
  exact ⟨ret_b hr.out, rfl⟩
end Go.Proofs.YtpcjigdmfchbdaaDoor
