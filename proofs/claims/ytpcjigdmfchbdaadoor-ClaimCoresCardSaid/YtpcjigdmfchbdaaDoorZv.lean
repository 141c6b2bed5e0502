import Derived.Test.YtpcjigdmfchbdaaDoorZr
import Derived.Laws.StructEq
import Derived.BigQuiet
namespace Go.Proofs.YtpcjigdmfchbdaaDoor
open Go.RowKit Go.Shelf Cl

theorem eq58 (a b c d : Int) (w : World) : (Op.equalIn 10000 58 (.agg #[.int .i64 a, .int .i64 b]) (.agg #[.int .i64 c, .int .i64 d])).run Tryd.prog w = .ok (a == c && b == d) w := by
  have u3 := Tryd.underlying3
  have a3 := Tryd.isAgg3
  have z3 := Tryd.sizeOf3
  have hS : Tryd.prog.underlying 58 = some (.struct (Tryd.prog.fieldsOf 58)) := by kernel_rfl
  have hp : Tryd.prog.stoodInHeld 58 = false := by kernel_rfl
  rw [show (10000 : Nat) = 9999 + 1 from rfl, run_equalIn_agg w 9999 58 _ _ hS hp]
  simp only [Program.fieldsOf, Tryd.underlying58]
  go_simp
  by_cases h1 : a = c <;> simp [h1]
  by_cases h2 : b = d <;> simp [h2]
theorem guard58 : Tryd.prog.eqGuardType Tryd.prog.depth 58 = false := by kernel_rfl
/-- Whether a pair is among some. -/
def hasP (ps : List (Int × Int)) (a b : Int) : Bool := ps.any fun p => p.1 == a && p.2 == b
theorem hasP_none {ps : List (Int × Int)} {a b : Int} (h : ∀ j, j < ps.length → ¬ ((ps.getD j (0, 0)).1 = a ∧ (ps.getD j (0, 0)).2 = b)) : false = hasP ps a b := by
  symm
  unfold hasP
  rw [List.any_eq_false]
  intro x hx
  obtain ⟨i, hi, rfl⟩ := List.getElem_of_mem hx
  have := h i hi
  rw [List.getD_eq_getElem?_getD, List.getElem?_eq_getElem hi] at this
  simpa using this
theorem hasP_some {ps : List (Int × Int)} {a b : Int} {j : Nat} (hj : j < ps.length) (h : (ps.getD j (0, 0)).1 = a ∧ (ps.getD j (0, 0)).2 = b) : true = hasP ps a b := by
  symm
  unfold hasP
  rw [List.any_eq_true]
  refine ⟨ps.getD j (0, 0), ?_, by rw [h.1, h.2]; simp⟩
  rw [List.getD_eq_getElem?_getD, List.getElem?_eq_getElem hj]
  exact List.getElem_mem _
set_option maxRecDepth 100000 in
set_option maxHeartbeats 4000000 in
theorem has70 {w : World} {v : Value} {ps : List (Int × Int)} {a b : Int} (hp : ReadsP w v ps) (hl : ps.length ≤ 1000000) :
    Calls Tryd.prog 70 #[v, .agg #[.int .i64 a, .int .i64 b]] w (BoolEnd w (hasP ps a b)) := by
  obtain ⟨ao, c, rfl, h1⟩ := hp.at
  obtain ⟨n, hn⟩ : ∃ n, n = ps.length := ⟨_, rfl⟩
  rw [← hn] at hl ⊢
  have hn' := Lib.hid hn
  have h1' := Lib.hid h1
  clear h1 hp
  have hgd := guard58
  have hb0 := Lib.hid (below_alloc1 w (.cells #[.int .i64 a, .int .i64 b] 58))
  clear hn
  go_enter Tryd.func70, Tryd.ntmps70
  go_wp2
  obtain ⟨W0, hW0⟩ : ∃ W0, W0 = w.alloc (.cells #[.int .i64 a, .int .i64 b] 58) := ⟨_, rfl⟩
  have k0 := Lib.hid (show W0.cell? ⟨w.heap.size, 0, none⟩ = some (.int .i64 a) from by rw [hW0, World.cell?_alloc_at (hn := rfl)]; rfl)
  have k1 := Lib.hid (show W0.cell? ⟨w.heap.size, 1, none⟩ = some (.int .i64 b) from by rw [hW0, World.cell?_alloc_at (hn := rfl)]; rfl)
  have hs0 := Lib.hid (show w.heap.size < W0.heap.size from by rw [hW0]; simp)
  rw [← hW0] at hb0 ⊢
  clear hW0
  go_loopw [9] (fun i wr => ∃ k : Nat, k ≤ n ∧ i = .int .i64 k ∧ Hid (∀ j, j < k → ¬ ((ps.getD j (0, 0)).1 = a ∧ (ps.getD j (0, 0)).2 = b)) ∧ Hid (Below W0.heap.size W0 wr)) (fun i _ => n - (intOf i).toNat)
  case atStart => exact ⟨0, Nat.zero_le _, rfl, Lib.hid (fun j hj => absurd hj (Nat.not_lt_zero j)), Lib.hid (Below.refl _ _)⟩
  case round =>
    obtain ⟨k, hk, rfl, hno, hbk⟩ := hrel
    have hend := Lib.hid (below_call hb0.out hbk.out)
    by_cases hlt : k < n
    · obtain ⟨g, o, rfl, hg, hc⟩ := h1'.out (fun e => by have e1 := hn'.out; rw [e] at e1; simp at e1; omega)
      obtain ⟨q1, q2⟩ := hc k (by rw [← hn'.out]; exact hlt)
      have hgW : g < W0.heap.size := by have := hs0.out; omega
      have c1 := (hend.out.cell (p := ⟨g, o + k * 2, none⟩) hg).trans q1
      have c2 := (hend.out.cell (p := ⟨g, o + k * 2 + 1, none⟩) hg).trans q2
      have d1 := (hbk.out.cell (p := ⟨w.heap.size, 0, none⟩) hs0.out).trans k0.out
      have d2 := (hbk.out.cell (p := ⟨w.heap.size, 1, none⟩) hs0.out).trans k1.out
      have hyes := Lib.hid (fun h => hasP_some (ps := ps) (a := a) (b := b) (j := k) (by rw [← hn'.out]; exact hlt) h)
      have hnx := Lib.hid (show ¬ ((ps.getD k (0, 0)).1 = a ∧ (ps.getD k (0, 0)).2 = b) → ∀ j, j < k + 1 → ¬ ((ps.getD j (0, 0)).1 = a ∧ (ps.getD j (0, 0)).2 = b) from fun h j hj => by
        rcases Nat.lt_succ_iff_lt_or_eq.1 hj with h2 | h2
        · exact hno.out j h2
        · rw [h2]; exact h)
      generalize (ps.getD k (0, 0)).1 = x at c1 hyes hnx
      generalize (ps.getD k (0, 0)).2 = y at c2 hyes hnx
      have hki : (k : Int) < n := by omega
      have hn3 := Lib.hid (fun (u1 u2 : Value) => below_call hend.out (below_alloc1 wr (.cells #[u1, u2] 58)))
      have hbk3 := Lib.hid (fun (u1 u2 : Value) => below_call hbk.out (below_alloc1 wr (.cells #[u1, u2] 58)))
      have hsw := hend.out.size
      have hlw : w.heap.size < wr.heap.size := Nat.lt_of_lt_of_le hs0.out hbk.out.size
      have d1' := ((below_alloc1 wr (.cells #[.int .i64 x, .int .i64 y] 58)).cell (p := ⟨w.heap.size, 0, none⟩) hlw).trans d1
      have d2' := ((below_alloc1 wr (.cells #[.int .i64 x, .int .i64 y] 58)).cell (p := ⟨w.heap.size, 1, none⟩) hlw).trans d2
      clear hc q1 q2
      by_cases hxy : x = a ∧ y = b
      · have heq : ∀ w : World, (Op.equalIn 10000 58 (.agg #[.int .i64 x, .int .i64 y]) (.agg #[.int .i64 a, .int .i64 b])).run Tryd.prog w = .ok true w := fun w => by
          rw [eq58]; obtain ⟨rfl, rfl⟩ := hxy; simp
        have hfin := Lib.hid (hyes.out hxy)
        clear hxy
        go_wp2
        go_ret
        exact ⟨ret_b hfin.out, hn3.out _ _⟩
      · have heq : ∀ w : World, (Op.equalIn 10000 58 (.agg #[.int .i64 x, .int .i64 y]) (.agg #[.int .i64 a, .int .i64 b])).run Tryd.prog w = .ok false w := fun w => by
          rw [eq58]
          congr 1
          rw [Bool.eq_false_iff]
          intro hc
          simp at hc
          exact hxy hc
        have hfin := Lib.hid (hnx.out hxy)
        clear hxy
        go_wp2
        go_roundw
        case rel => exact ⟨k + 1, by omega, by go_num, hfin, Lib.hid (hbk3.out _ _)⟩
        case measure => simp [intOf]; omega
    · obtain rfl : k = n := by omega
      have hfin := Lib.hid (hasP_none (ps := ps) (a := a) (b := b) (fun j hj => hno.out j (by rw [hn'.out]; exact hj)))
      go_wp2
      go_ret
      exact ⟨ret_b hfin.out, hend.out⟩

def idlP (ps : List (Int × Int)) (a b : Int) : Bool := !(a == b) && (hasP ps a a && (hasP ps b a || hasP ps b b))
set_option maxRecDepth 100000 in
set_option maxHeartbeats 4000000 in
theorem idle71 {w : World} {v : Value} {ps : List (Int × Int)} {a b : Int} (hp : ReadsP w v ps) (hl : ps.length ≤ 1000000) :
    Calls Tryd.prog 71 #[v, .agg #[.int .i64 a, .int .i64 b]] w (BoolEnd w (idlP ps a b)) := by
  have hgd := guard58
  have h70 := Lib.hid (fun (W : World) (x y : Int) (h : Below w.heap.size w W) => has70 (a := x) (b := y) (hp.below h) hl)
  have hend := Lib.hid (show idlP ps a b = (!(a == b) && (hasP ps a a && (hasP ps b a || hasP ps b b))) from rfl)
  clear hp hl
  go_enter Tryd.func71, Tryd.ntmps71
  go_upto_region 2 with fail
  obtain ⟨W0, hW0⟩ : ∃ W0, W0 = (w.alloc (.cells #[.int .i64 a, .int .i64 b] 58)).alloc (.cells #[.int .i64 b, .int .i64 a] 58) := ⟨_, rfl⟩
  have hbA := Lib.hid (show Below w.heap.size w W0 from by rw [hW0]; exact ((below_alloc1 w _).alloc (by simp) _))
  have hs0 : w.heap.size + 1 < W0.heap.size := by rw [hW0]; simp
  have k0 : W0.cell? ⟨w.heap.size, 0, none⟩ = some (.int .i64 a) := by
    rw [hW0]
    exact ((below_alloc1 (w.alloc (.cells #[.int .i64 a, .int .i64 b] 58)) _).cell (p := ⟨w.heap.size, 0, none⟩) (by simp)).trans (by rw [World.cell?_alloc_at (hn := rfl)]; rfl)
  have k1 : W0.cell? ⟨w.heap.size, 1, none⟩ = some (.int .i64 b) := by
    rw [hW0]
    exact ((below_alloc1 (w.alloc (.cells #[.int .i64 a, .int .i64 b] 58)) _).cell (p := ⟨w.heap.size, 1, none⟩) (by simp)).trans (by rw [World.cell?_alloc_at (hn := rfl)]; rfl)
  have l0 : W0.cell? ⟨w.heap.size + 1, 0, none⟩ = some (.int .i64 b) := by
    rw [hW0, World.cell?_alloc_at (hn := by simp)]; rfl
  have l1 : W0.cell? ⟨w.heap.size + 1, 1, none⟩ = some (.int .i64 a) := by
    rw [hW0, World.cell?_alloc_at (hn := by simp)]; rfl
  rw [← hW0]
  clear hW0
  generalize w.heap.size = B0 at k0 k1 l0 l1 hs0 ⊢
  by_cases hab : a = b
  · have heq : ∀ w : World, (Op.equalIn 10000 58 (.agg #[.int .i64 b, .int .i64 a]) (.agg #[.int .i64 a, .int .i64 b])).run Tryd.prog w = .ok true w := fun w => by
      rw [eq58]; subst hab; simp
    have hfin := Lib.hid (show false = idlP ps a b from by rw [hend.out, hab]; simp)
    clear hab
    go_wp2
    go_ret
    exact ⟨ret_b hfin.out, hbA.out⟩
  · have heq : ∀ w : World, (Op.equalIn 10000 58 (.agg #[.int .i64 b, .int .i64 a]) (.agg #[.int .i64 a, .int .i64 b])).run Tryd.prog w = .ok false w := fun w => by
      rw [eq58]
      congr 1
      rw [Bool.eq_false_iff]
      intro hc
      simp at hc
      exact hab hc.1.symm
    have hab' := Lib.hid (show (!(a == b)) = true from by simp [hab])
    clear hab
    have hB0 := Lib.hid hs0
    clear hs0
    cases h1 : hasP ps a a
    · have h1' := Lib.hid h1
      have hfin := Lib.hid (show false = idlP ps a b from by rw [hend.out, hab', h1]; rfl)
      clear h1
      go_wp2_with (go_at_call 70; refine (h70.out _ _ _ hbA.out).mono ?_; rw [h1'.out]; rintro e w1 ⟨rfl, hb⟩; have hb1 := Lib.hid (below_call hbA.out hb); clear hb)
      go_ret
      exact ⟨ret_b hfin.out, hb1.out⟩
    · cases h2 : hasP ps b a
      · cases h3 : hasP ps b b
        all_goals
          have h1' := Lib.hid h1
          have h2' := Lib.hid h2
          have h3' := Lib.hid h3
          have hfin := Lib.hid (show _ = idlP ps a b from (by rw [hend.out, hab', h1, h2, h3]))
          clear h1 h2 h3
          go_wp2_with (first
            | (go_at_call 70; refine (h70.out _ _ _ hbA.out).mono ?_; rw [h1'.out]; rintro e w1 ⟨rfl, hb⟩; have hb1 := Lib.hid (below_call hbA.out hb); replace k0 := (hb.cell (p := ⟨B0, 0, none⟩) (by have := hB0.out; simp; omega)).trans k0; replace k1 := (hb.cell (p := ⟨B0, 1, none⟩) (by have := hB0.out; simp; omega)).trans k1; replace l0 := (hb.cell (p := ⟨B0 + 1, 0, none⟩) (by have := hB0.out; simp; omega)).trans l0; replace l1 := (hb.cell (p := ⟨B0 + 1, 1, none⟩) (by have := hB0.out; simp; omega)).trans l1; have hB1 := Lib.hid (Nat.lt_of_lt_of_le hB0.out hb.size); clear hb hbA)
            | (go_at_call 70; refine (h70.out _ _ _ hb1.out).mono ?_; rw [h2'.out]; rintro e w2 ⟨rfl, hb⟩; have hb2 := Lib.hid (below_call hb1.out hb); replace k0 := (hb.cell (p := ⟨B0, 0, none⟩) (by have := hB1.out; simp; omega)).trans k0; replace k1 := (hb.cell (p := ⟨B0, 1, none⟩) (by have := hB1.out; simp; omega)).trans k1; clear hb hb1)
            | (go_at_call 70; refine (h70.out _ _ _ hb2.out).mono ?_; rw [h3'.out]; rintro e w3 ⟨rfl, hb⟩; have hb3 := Lib.hid (below_call hb2.out hb); clear hb hb2))
          go_ret
          exact ⟨ret_b hfin.out, hb3.out⟩
      · have h1' := Lib.hid h1
        have h2' := Lib.hid h2
        have hfin := Lib.hid (show true = idlP ps a b from by rw [hend.out, hab', h1, h2]; rfl)
        clear h1 h2
        go_wp2_with (first
          | (go_at_call 70; refine (h70.out _ _ _ hbA.out).mono ?_; rw [h1'.out]; rintro e w1 ⟨rfl, hb⟩; have hb1 := Lib.hid (below_call hbA.out hb); replace k0 := (hb.cell (p := ⟨B0, 0, none⟩) (by have := hB0.out; simp; omega)).trans k0; replace k1 := (hb.cell (p := ⟨B0, 1, none⟩) (by have := hB0.out; simp; omega)).trans k1; replace l0 := (hb.cell (p := ⟨B0 + 1, 0, none⟩) (by have := hB0.out; simp; omega)).trans l0; replace l1 := (hb.cell (p := ⟨B0 + 1, 1, none⟩) (by have := hB0.out; simp; omega)).trans l1; have hB1 := Lib.hid (Nat.lt_of_lt_of_le hB0.out hb.size); clear hb hbA)
          | (go_at_call 70; refine (h70.out _ _ _ hb1.out).mono ?_; rw [h2'.out]; rintro e w2 ⟨rfl, hb⟩; have hb2 := Lib.hid (below_call hb1.out hb); clear hb hb1))
        go_ret
        exact ⟨ret_b hfin.out, hb2.out⟩
end Go.Proofs.YtpcjigdmfchbdaaDoor
