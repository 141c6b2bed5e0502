import Derived.Test.YtccmabckmpelcaaJa
import Derived.Test.YtccmabckmpelcaaHc
import Derived.Deep.RegionHeld3
import Derived.Deep.RegionLaw
namespace Go.Proofs.Ytccmabckmpelcaa
open Go.RowKit

/-- append(s, y) of one int, in a region that draws its order. -/
theorem step_app_int {ops : Array Oper} {o : Oper} {a : Act} {K : Act → World → Prop} {Q : Exit → Act → World → Prop} {E : Prop} {w : World} {B : Nat} {v : Value} {xs : List Int} {y : Int}
    (hgd : o.guard = none) (s x : Operand)
    (ho : o.op = .call { callee := .builtin .append, args := #[s, x], argTypes := #[22, 22] }) (ad : Addr) (hx : a.eval x = .slice (some ad) 1 1) (hs : a.eval s = v)
    (hc : w.cell? ad = some (.int .i64 y)) (hown : Ints w B v xs) (hlen : xs.length ≤ 1000000) (hB : B ≤ w.heap.size)
    (h : ∀ v' w', Ints w' B v' (xs ++ [y]) → Below B w w' → K (a.put o.dst v') w') : if Region.wanted o (yielded ops a.tmps) = true then Oper.wp Try.prog o a w K Q else E := by
  have hw : Region.wanted o (yielded ops a.tmps) = true := by simp [Region.wanted, hgd]
  rw [if_pos hw]
  obtain ⟨i0, hi, hz0, hz1, hz2⟩ := info_parts info3
  refine wp_append_own w s x 22 ho B 3 i0 (.int .i64 0) 1 8 Try.underlying22 hi hz0 hz1 hz2 rfl (by decide) v xs.length (xs.map (Value.int .i64)) hs hown ad 1 1 [.int .i64 y] hx rfl ?_ ?_ ?_ ?_ hB ?_
  · intro j u hu
    cases j with
    | zero => simp at hu; subst hu; exact hc
    | succ j => simp at hu
  · intro u hu; simp at hu; subst hu; rfl
  · unfold maxLen; omega
  · omega
  · intro v' w' h2 h3 h4
    refine h v' w' ?_ ?_
    · unfold Ints; simpa using h2
    · exact (Below.refl B w).grown h3 hB (fun k hk => (World.ownsRow.lt hown k hk).1)

/-! ## A group out of the bits of a number -/
theorem sumOf_yes {u : Nat → Int} {n k : Nat} {p : List Int} (_ : Places n k p) : sumOf u (inG (p ++ [(k : Int)])) (k + 1) = sumOf u (inG p) k + u k := by
  unfold sumOf
  rw [S]
  have e1 : inG (p ++ [(k : Int)]) k = true := by rw [inG_snoc]; simp
  rw [S_congr (v := fun j => if inG p j then u j else 0) (fun i hi => by rw [inG_snoc, show decide (i = k) = false by simp; omega, Bool.or_false]), e1]
  rfl
theorem sumOf_no {u : Nat → Int} {n k : Nat} {p : List Int} (h : Places n k p) : sumOf u (inG p) (k + 1) = sumOf u (inG p) k := by
  unfold sumOf
  rw [S, h.not]
  simp
theorem sumOf_all {u : Nat → Int} {p : List Int} {n : Nat} (h : ∀ j, j < n → inG p j = true) : sumOf u (inG p) n = S u n := by
  unfold sumOf
  exact S_congr fun i hi => by rw [h i hi]; rfl
theorem share_bd {fs : List Int} {gs : List (List Int)} (hok : GOk gs) {j : Nat} (hj : j < gs.length) : -180000 ≤ share fs gs j ∧ share fs gs j ≤ 180000 := by
  have h1 := bestW_bd (hok.part 0 (j + 1) (by omega)) (part fs 0 (j + 1))
  have h2 := bestW_bd (hok.part 0 j (by omega)) (part fs 0 j)
  unfold share row
  omega
theorem shares_at (fs : List Int) (gs : List (List Int)) (n j : Nat) (h : j < n) : (sharesK fs gs n).getD j 0 = share fs gs j := by
  unfold sharesK share sh row
  simp [List.getD_eq_getElem?_getD, h]
theorem part_all {α : Type} (l : List α) : part l 0 l.length = l := by unfold part; simp
theorem row_all {fs : List Int} {gs : List (List Int)} (h : fs.length = gs.length) : row fs gs 0 gs.length = bestW fs gs := by
  unfold row
  rw [part_all]
  rw [← h, part_all]
theorem Places.mask {n : Nat} {p : List Int} (h : Places n n p) : (fun j => inG p j && decide (j < n)) = inG p := by
  funext j
  by_cases e : inG p j = true
  · have : (j : Int) < n := h.2.1 _ (by unfold inG at e; simpa using e)
    rw [e]; simp; omega
  · rw [Bool.not_eq_true] at e
    rw [e]; rfl
/-- W2 of one group. -/
theorem fair_both {fs : List Int} {gs : List (List Int)} (hok : GOk gs) (hfl : fs.length = gs.length) (hf : FlowOk fs) {p : List Int} {n : Nat} (hn : n = gs.length) (h : Places n n p) :
    Al fs gs (inG p) n ≤ sumOf (share fs gs) (inG p) n ∧ sumOf (share fs gs) (inG p) n ≤ asp fs gs (inG p) := by
  have h1 := fair_low hok hfl hf (inG p) n (by omega)
  have h2 := fair_high hok hfl hf (inG p) n (by omega)
  rw [h.mask] at h2
  exact ⟨h1, h2⟩
/-- The bit of a place. -/
def bitZ (x k : Nat) : Int := bits BinOp.and IntKind.i64 ((x : Int) / 2 ^ k) 1
/-- The loop that makes a group out of the bits of `x`, and the sum of its numbers. -/
def GrpRel (n x : Nat) (u : Nat → Int) (wo : World) (gv sv i : Value) (wr : World) : Prop :=
  ∃ (k : Nat) (p : List Int) (s : Int), k ≤ n ∧ i = .int .i64 k ∧ sv = .int .i64 s ∧ -200000 * (k : Int) ≤ s ∧ s ≤ 200000 * (k : Int) ∧ Ints wr wo.heap.size gv p ∧ Hid (Places n k p) ∧ Hid (s = sumOf u (inG p) k) ∧ Hid (∀ j, j < k → inG p j = (bitZ x j == 1)) ∧ Below wo.heap.size wo wr
theorem below_alloc1' {w wr : World} (h : w.heap.size ≤ wr.heap.size) (u : Obj) : Below w.heap.size wr (wr.alloc u) := (Below.refl _ _).alloc h _
theorem wrap_pow : ∀ n, n ≤ 6 → wrap64 ((2 : Int) ^ n) = ((2 ^ n : Nat) : Int) := by decide +kernel
theorem pow_bd : ∀ n, 1 ≤ n → n ≤ 6 → 2 ≤ 2 ^ n ∧ 2 ^ n ≤ 64 := by
  intro n h1 h2
  have : n = 1 ∨ n = 2 ∨ n = 3 ∨ n = 4 ∨ n = 5 ∨ n = 6 := by omega
  rcases this with rfl | rfl | rfl | rfl | rfl | rfl <;> decide
theorem bits_full : ∀ n, n ≤ 6 → ∀ j, j < n → bitZ (2 ^ n - 1) j = 1 := by decide
theorem bits_low : ∀ n, n ≤ 6 → ∀ k, k ≤ n → ∀ j, j < n → (bitZ (2 ^ k - 1) j == 1) = decide (j < k) := by decide
end Go.Proofs.Ytccmabckmpelcaa
