import Derived.Test.YtccmabckmpelcaaKa
import Derived.Test.YtccmabckmpelcaaEa
namespace Go.Proofs.Ytccmabckmpelcaa
open Go.RowKit

theorem upTo_snoc (k : Nat) : upTo (k + 1) = upTo k ++ [(k : Int)] := by unfold upTo; rw [List.range_succ]; simp
theorem Places.ups {n : Nat} : ∀ k, k ≤ n → Places n k (upTo k) := by
  intro k
  induction k with
  | zero => intro _; exact Places.nil n
  | succ k ih => intro h; rw [upTo_snoc]; exact (ih (by omega)).snoc (by omega)
theorem Places.more {n k : Nat} {l : List Int} (h : Places n k l) : ∀ d, Places n (k + d) l := by
  intro d
  induction d with
  | zero => exact h
  | succ d ih => exact ih.up
theorem Places.ups_n {n k : Nat} (h : k ≤ n) : Places n n (upTo k) := by
  have := (Places.ups (n := n) k h).more (n - k)
  rwa [show k + (n - k) = n by omega] at this
theorem inG_ups (k : Nat) : inG (upTo k) = before k := by
  funext j
  unfold inG before
  rw [Bool.eq_iff_iff]
  simp only [decide_eq_true_eq, upTo_mem]
  omega
theorem sumOf_before {u : Nat → Int} {k n : Nat} (h : k ≤ n) : sumOf u (before k) n = S u k := by
  unfold sumOf
  rw [S_tail_zero h (fun j j1 _ => by unfold before; rw [if_neg]; simp; omega)]
  exact S_congr fun i hi => by unfold before; simp [hi]
/-- All groups get what they should by the numbers `os`: those of the bits of the numbers below `x`. -/
def Within (fs : List Int) (gs : List (List Int)) (n : Nat) (u : Nat → Int) (x : Nat) : Prop :=
  ∀ x', x' < x → ∀ p, Places n n p → (∀ j, j < n → inG p j = (bitZ x' j == 1)) → Al fs gs (inG p) n ≤ sumOf u (inG p) n ∧ sumOf u (inG p) n ≤ asp fs gs (inG p)
theorem Within.zero (fs : List Int) (gs : List (List Int)) (n : Nat) (u : Nat → Int) : Within fs gs n u 0 := fun x' h => by omega
theorem mem_ext_places {n : Nat} {p q : List Int} (hp : Places n n p) (hq : Places n n q) (h : ∀ j, j < n → inG p j = inG q j) : inG p = inG q := by
  rw [← hp.mask, ← hq.mask]
  funext j
  by_cases e : j < n
  · rw [h j e]
  · simp [e]
theorem Within.next {fs : List Int} {gs : List (List Int)} {n : Nat} {u : Nat → Int} {x : Nat} (h : Within fs gs n u x) {p : List Int} (hp : Places n n p) (hb : ∀ j, j < n → inG p j = (bitZ x j == 1))
    (h1 : Al fs gs (inG p) n ≤ sumOf u (inG p) n) (h2 : sumOf u (inG p) n ≤ asp fs gs (inG p)) : Within fs gs n u (x + 1) := by
  intro x' hx' q hq hqb
  by_cases e : x' = x
  · subst e
    rw [mem_ext_places hq hp (fun j hj => by rw [hqb j hj, hb j hj])]
    exact ⟨h1, h2⟩
  · exact h x' (by omega) q hq hqb
/-- W2: no other numbers do what shares do. -/
theorem only_shares {fs : List Int} {gs : List (List Int)} (hok : GOk gs) (hfl : fs.length = gs.length) (hf : FlowOk fs) {n : Nat} (hn : n = gs.length) (h6 : n ≤ 6) {u : Nat → Int} (h : Within fs gs n u (2 ^ n)) :
    ∀ j, j < n → u j = share fs gs j := by
  have h1 : ∀ k, k ≤ n → S u k = row fs gs 0 k := by
    intro k hk
    have hlt : 2 ^ k - 1 < 2 ^ n := by
      have h2 : 2 ^ k ≤ 2 ^ n := Nat.pow_le_pow_right (by omega) hk
      have h3 : 0 < 2 ^ k := Nat.two_pow_pos k
      omega
    obtain ⟨a1, a2⟩ := h (2 ^ k - 1) hlt (upTo k) (Places.ups_n hk) (fun j hj => by rw [inG_ups, bits_low n h6 k hk j hj]; rfl)
    rw [inG_ups, sumOf_before hk] at a1 a2
    rw [Al_before hk] at a1
    rw [asp_before hok hfl hf (by omega)] at a2
    omega
  intro j hj
  have e1 := h1 (j + 1) (by omega)
  have e2 := h1 j (by omega)
  rw [S, e2] at e1
  unfold share
  omega
/-- The loop that makes other numbers. -/
def OthRel (n : Nat) (u : Nat → Int) (wo : World) (ov sv i : Value) (wr : World) : Prop :=
  ∃ (k : Nat) (os : List Int) (b : Bool), k ≤ n ∧ i = .int .i64 k ∧ sv = .bool b ∧ Ints wr wo.heap.size ov os ∧ Hid (os.length = k) ∧ Hid (∀ j, j < k → -180003 ≤ os.getD j 0 ∧ os.getD j 0 ≤ 180003) ∧ Hid (b = true ↔ ∀ j, j < k → os.getD j 0 = u j) ∧ Below wo.heap.size wo wr
theorem getD_snoc (us : List Int) (v : Int) (j : Nat) : (us ++ [v]).getD j 0 = if j < us.length then us.getD j 0 else if j = us.length then v else 0 := by
  by_cases h : j < us.length
  · rw [if_pos h, List.getD_eq_getElem?_getD, List.getElem?_append_left h, List.getD_eq_getElem?_getD]
  · rw [if_neg h, List.getD_eq_getElem?_getD, List.getElem?_append_right (by omega)]
    by_cases e : j = us.length
    · subst e; simp
    · rw [if_neg e, List.getElem?_eq_none (by simp; omega)]; rfl
theorem oth_next {os : List Int} {k : Nat} {u : Nat → Int} {b c : Bool} {V : Int} (hl : os.length = k) (hbd : ∀ j, j < k → -180003 ≤ os.getD j 0 ∧ os.getD j 0 ≤ 180003) (hb : b = true ↔ ∀ j, j < k → os.getD j 0 = u j)
    (hv : -180003 ≤ V ∧ V ≤ 180003) (hc : c = (b && V == u k)) :
    (os ++ [V]).length = k + 1 ∧ (∀ j, j < k + 1 → -180003 ≤ (os ++ [V]).getD j 0 ∧ (os ++ [V]).getD j 0 ≤ 180003) ∧ (c = true ↔ ∀ j, j < k + 1 → (os ++ [V]).getD j 0 = u j) := by
  refine ⟨by rw [List.length_append, hl]; rfl, fun j hj => ?_, ?_⟩
  · rw [getD_snoc, hl]
    by_cases e : j < k
    · rw [if_pos e]; exact hbd j e
    · rw [if_neg e, if_pos (by omega)]; exact hv
  · rw [hc]
    simp only [Bool.and_eq_true, beq_iff_eq, hb]
    constructor
    · intro ⟨h1, h2⟩ j hj
      rw [getD_snoc, hl]
      by_cases e : j < k
      · rw [if_pos e]; exact h1 j e
      · obtain rfl : j = k := by omega
        rw [if_neg e, if_pos rfl]; exact h2
    · intro h
      refine ⟨fun j hj => ?_, ?_⟩
      · have := h j (by omega); rw [getD_snoc, hl, if_pos hj] at this; exact this
      · have := h k (by omega); rw [getD_snoc, hl, if_neg (by omega), if_pos rfl] at this; exact this
end Go.Proofs.Ytccmabckmpelcaa
