import Derived.Test.YtccmabckmpelcaaRb
import Derived.Test.YtccmabckmpelcaaDa
namespace Go.Proofs.Ytccmabckmpelcaa
open Go.RowKit

/-! ## The reference's tables -/
theorem mx_congr {h h' : Nat → Int} : ∀ n, (∀ k, k ≤ n → h k = h' k) → mx h n = mx h' n := by
  intro n
  induction n with
  | zero => intro hk; exact hk 0 (Nat.le_refl _)
  | succ n ih => intro hk; rw [mx, mx, ih (fun k h => hk k (by omega)), hk (n + 1) (Nat.le_refl _)]
def mxb (h : Nat → Int) : Nat → Int
  | 0 => 0
  | k + 1 => max (mxb h k) (h k)
theorem mxb_mx {h : Nat → Int} : ∀ n, (∀ k, k ≤ n → 0 ≤ h k) → mxb h (n + 1) = mx h n := by
  intro n
  induction n with
  | zero => intro hk; have := hk 0 (Nat.le_refl _); rw [mxb, mxb, mx]; omega
  | succ n ih => intro hk; rw [mxb, ih (fun k h => hk k (by omega)), mx]
theorem mxb_bd {h : Nat → Int} {b : Int} (hb : 0 ≤ b) : ∀ n, (∀ k, k < n → h k ≤ b) → 0 ≤ mxb h n ∧ mxb h n ≤ b := by
  intro n
  induction n with
  | zero => intro _; exact ⟨Int.le_refl _, hb⟩
  | succ n ih => intro hk; have := ih (fun k h => hk k (by omega)); have := hk n (by omega); rw [mxb]; omega
/-- The place in a table of at most `T`. -/
def jAt (T : Nat) (f w : Int) (x : Nat) : Nat := (min (T : Int) (w + f - x)).toNat
def hMost (tb : List Int) (T : Nat) (g : List Int) (f w : Int) (x : Nat) : Int := gainTo g x + tb.getD (jAt T f w x) 0
def mostF (tb : List Int) (T : Nat) (g : List Int) (f w : Int) : Int := mx (hMost tb T g f w) (min g.length (w + f).toNat)
/-- The table of the places from one on, for at most `T` pieces. -/
def tbl (T : Nat) : List Int → List (List Int) → List Int
  | f :: fs, g :: gs => (List.range (T + 1)).map fun (w : Nat) => mostF (tbl T fs gs) T g f (w : Int)
  | _, _ => List.replicate (T + 1) 0
theorem tbl_nil (T : Nat) (gs : List (List Int)) : tbl T [] gs = List.replicate (T + 1) 0 := by cases gs <;> rfl
theorem tbl_nil2 (T : Nat) (fs : List Int) : tbl T fs [] = List.replicate (T + 1) 0 := by cases fs <;> rfl
theorem V_nil (gs : List (List Int)) (w : Int) : V [] gs w = 0 := by cases gs <;> rfl
theorem tbl_len (T : Nat) (fs : List Int) (gs : List (List Int)) : (tbl T fs gs).length = T + 1 := by
  cases fs <;> cases gs <;> simp [tbl]
theorem tbl_at (T : Nat) (f : Int) (fs : List Int) (g : List Int) (gs : List (List Int)) (w : Nat) (h : w ≤ T) : (tbl T (f :: fs) (g :: gs)).getD w 0 = mostF (tbl T fs gs) T g f (w : Int) := by
  rw [tbl]; simp [List.getD_eq_getElem?_getD, show w < T + 1 by omega]
theorem tbl_bd (T : Nat) : ∀ (fs : List Int) (gs : List (List Int)), (∀ j, j < gs.length → gainB (gs.getD j []) = true) → ∀ j, 0 ≤ (tbl T fs gs).getD j 0 ∧ (tbl T fs gs).getD j 0 ≤ 20000 * (gs.length : Int) := by
  intro fs
  induction fs with
  | nil => intro gs _ j; rw [tbl_nil, zeros_at]; omega
  | cons f fs ih =>
    intro gs hg j
    cases gs with
    | nil => rw [tbl_nil2, zeros_at]; simp
    | cons g gs =>
      by_cases hj : j ≤ T
      · rw [tbl_at _ _ _ _ _ _ hj]
        have hi := ih gs (fun j hj => by simpa using hg (j + 1) (by simpa using hj))
        have hg0 := gainTo_bd (hg 0 (by simp))
        simp only [List.getD_cons_zero] at hg0
        unfold mostF
        obtain ⟨k, _, e⟩ := mx_at (hMost (tbl T fs gs) T g f (j : Int)) (min g.length ((j : Int) + f).toNat)
        rw [e]
        unfold hMost
        have h1 := hi (jAt T f (j : Int) k)
        have h2 := hg0 k
        simp only [List.length_cons]
        omega
      · rw [List.getD_eq_getElem?_getD, List.getElem?_eq_none (by rw [tbl_len]; omega)]
        simp
        omega
/-- Where the table is great enough, it tells the greatest worth. -/
theorem tbl_V (T : Nat) : ∀ (fs : List Int) (gs : List (List Int)) (w : Nat), fs.length = gs.length → (∀ j, j < fs.length → 0 ≤ fs.getD j 0) → (w : Int) + fs.sum ≤ T → (tbl T fs gs).getD w 0 = V fs gs w := by
  intro fs
  induction fs with
  | nil => intro gs w hl _ _; rw [tbl_nil, zeros_at, V_nil]
  | cons f fs ih =>
    intro gs w hl hf hw
    cases gs with
    | nil => simp at hl
    | cons g gs =>
      rw [List.sum_cons] at hw
      have hf0 : 0 ≤ f := by simpa using hf 0 (by simp)
      have hft : ∀ j, j < fs.length → 0 ≤ fs.getD j 0 := fun j hj => by simpa using hf (j + 1) (by simpa using hj)
      have hs0 : 0 ≤ fs.sum := by
        clear ih hl hw hf
        induction fs with
        | nil => simp
        | cons a l ih2 =>
          have h1 := hft 0 (by simp)
          have h2 := ih2 (fun j hj => by simpa using hft (j + 1) (by simpa using hj))
          simp only [List.getD_cons_zero] at h1
          rw [List.sum_cons]; omega
      rw [tbl_at _ _ _ _ _ _ (by omega), V_cons]
      unfold mostF
      refine mx_congr _ fun k hk => ?_
      unfold hMost term jAt
      congr 1
      rw [show min (T : Int) ((w : Int) + f - k) = (((w : Int) + f - k).toNat : Int) by omega, Int.toNat_natCast]
      have := ih gs ((w : Int) + f - k).toNat (by simpa using hl) hft (by omega)
      rw [this]
      congr 1
      omega
end Go.Proofs.Ytccmabckmpelcaa
