import Derived.Test.YtccmabckmpelcaaUa
import Derived.Test.YtccmabckmpelcaaTc
import Derived.Test.YtccmabckmpelcaaOc
namespace Go.Proofs.Ytccmabckmpelcaa
open Go.RowKit

theorem st_three {w : World} {B : Nat} {a b c : Value} {xs ys zs : List Int} (ha : Ints w B a xs) (hb : Ints w B b ys) (hc : Ints w B c zs) (h1 : Dis a b) (h2 : Dis a c) (h3 : Dis b c) (hB : B ≤ w.heap.size) : St w w B [(a, xs), (b, ys), (c, zs)] [] := by
  refine St.start (fun i v us hi => ?_) (fun i j v us u ts hij hi hj => ?_) hB
  · match i, hi with
    | 0, hi => simp at hi; obtain ⟨rfl, rfl⟩ := hi; exact ha
    | 1, hi => simp at hi; obtain ⟨rfl, rfl⟩ := hi; exact hb
    | 2, hi => simp at hi; obtain ⟨rfl, rfl⟩ := hi; exact hc
    | i + 3, hi => simp at hi
  · match i, j, hi, hj with
    | 0, 0, _, _ => exact absurd rfl hij
    | 1, 1, _, _ => exact absurd rfl hij
    | 2, 2, _, _ => exact absurd rfl hij
    | 0, 1, hi, hj => simp at hi hj; obtain ⟨rfl, rfl⟩ := hi; obtain ⟨rfl, rfl⟩ := hj; exact h1
    | 1, 0, hi, hj => simp at hi hj; obtain ⟨rfl, rfl⟩ := hi; obtain ⟨rfl, rfl⟩ := hj; exact h1.symm
    | 0, 2, hi, hj => simp at hi hj; obtain ⟨rfl, rfl⟩ := hi; obtain ⟨rfl, rfl⟩ := hj; exact h2
    | 2, 0, hi, hj => simp at hi hj; obtain ⟨rfl, rfl⟩ := hi; obtain ⟨rfl, rfl⟩ := hj; exact h2.symm
    | 1, 2, hi, hj => simp at hi hj; obtain ⟨rfl, rfl⟩ := hi; obtain ⟨rfl, rfl⟩ := hj; exact h3
    | 2, 1, hi, hj => simp at hi hj; obtain ⟨rfl, rfl⟩ := hi; obtain ⟨rfl, rfl⟩ := hj; exact h3.symm
    | i + 3, j, hi, _ => simp at hi
    | i, j + 3, _, hj => simp at hj
theorem ints_set_dis {w : World} {B g n c j : Nat} {u y : Value} {xs : List Int} (h : Ints w B u xs) (hd : Dis u (.slice (some ⟨g, 0, none⟩) n c)) : Ints (w.setCell ⟨g, j, none⟩ y) B u xs := by
  refine ⟨h.1, ?_⟩
  rcases h.2 with hn | ⟨b, cap, cur, rfl, hB, hb, rest⟩
  · exact .inl hn
  · have hbg : b ≠ g := fun e => hd b rfl (by rw [e]; rfl)
    exact .inr ⟨b, cap, cur, rfl, hB, by rw [heap_setCell_other w ⟨g, j, none⟩ b _ hbg]; exact hb, rest⟩
/-- Numbers from nothing to a bound. -/
def Rng (xs : List Int) (m : Int) : Prop := ∀ j, j < xs.length → 0 ≤ xs.getD j 0 ∧ xs.getD j 0 ≤ m
theorem Rng.snoc {xs : List Int} {m x : Int} (h : Rng xs m) (h0 : 0 ≤ x) (h1 : x ≤ m) : Rng (xs ++ [x]) m := by
  intro j hj
  rw [getD_snoc]
  split
  · rename_i e; exact h j e
  · split <;> omega
theorem Rng.amt : ∀ {xs : List Int}, Rng xs 30 → amt xs = true := by
  intro xs
  induction xs with
  | nil => intro _; rfl
  | cons x xs ih =>
    intro h
    rw [amt_cons, ih (fun j hj => by simpa using h (j + 1) (by simpa using hj))]
    have := h 0 (by simp)
    simp only [List.getD_cons_zero] at this
    simp [this.1, this.2]
theorem Rng.up {xs : List Int} {m m' : Int} (h : Rng xs m) (hm : m ≤ m') : Rng xs m' := fun j hj => by have := h j hj; omega
theorem Rng.flow {xs : List Int} (h : Rng xs 30) (hl : xs.length ≤ 8) : FlowOk xs := ⟨by omega, fun j hj => by have := h j hj; omega⟩
theorem rights_of {fs rs ag : List Int} {n : Nat} (hn : fs.length = n) (h1 : 1 ≤ n) (h8 : n ≤ 8) (hr : rs.length = n) (hf : Rng fs 30) (hg : Rng rs 30) (ha : agesB ag n = true) : rightsB fs rs ag = true := by
  unfold rightsB flowB
  rw [hf.amt, hg.amt, hn, ha, hr]
  simp [h1, h8]
/-- The loop that makes the arguments. -/
def Old1 (wx : World) (B n Z : Nat) (fv rv av iv : Value) (wr : World) : Prop :=
  ∃ (k : Nat) (F R : List Int), k ≤ n ∧ iv = .int .i64 (k : Int) ∧ Hid (Ints wr B fv F) ∧ Hid (Ints wr B rv R) ∧ Hid (Ints wr B av (ageL n Z k)) ∧ Hid (Dis fv rv ∧ Dis fv av ∧ Dis rv av) ∧ Hid (F.length = k ∧ R.length = k ∧ Rng F 29 ∧ Rng R 30) ∧ B ≤ wr.heap.size ∧ Below B wx wr
end Go.Proofs.Ytccmabckmpelcaa
