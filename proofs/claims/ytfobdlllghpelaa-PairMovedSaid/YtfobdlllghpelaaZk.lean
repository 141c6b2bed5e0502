import Derived.Test.YtfobdlllghpelaaZa
import Derived.BigQuiet
namespace Go.Proofs.Ytfobdlllghpelaa
open Go.RowKit Go.Shelf Pair
attribute [local go_sem] Oper.semAt_some

def prOk (v : Int) : Bool := decide (-1000000000 ≤ v) && decide (v ≤ 1000000000)
def prAll (l : List Int) : Bool := l.all prOk
theorem prAll_cons (x : Int) (l : List Int) : prAll (x :: l) = (prOk x && prAll l) := by simp [prAll]
/-- `n` numbers in the range of prices. -/
def prB (n : Nat) (l : List Int) : Bool := prAll l && decide ((l.length : Int) = (n : Int))

set_option maxHeartbeats 2000000 in
set_option maxRecDepth 100000 in
theorem arePrices66 {w : World} {v : Value} {xs : List Int} (hv : Reads w v xs) (hl : xs.length ≤ 1000) (n : Nat) :
    Calls Try.prog 66 #[v, .int .i64 n] w fun e w' => e = .returned (.bool (prB n xs)) ∧ w = w' := by
  obtain ⟨ao, c, rfl, hc, h1⟩ := hv
  obtain ⟨m, hm⟩ : ∃ m, m = xs.length := ⟨_, rfl⟩
  have hR := Lib.hid (show prB n xs = (prAll xs && decide ((m : Int) = (n : Int))) by rw [hm]; rfl)
  rw [← hm] at hl ⊢
  have h1' := Lib.hid h1
  have hm' := Lib.hid hm
  clear h1 hm hc
  go_enter Try.func66, Try.ntmps66
  go_wp2_with fail
  go_loop [9] (fun i => ∃ k : Nat, k ≤ m ∧ i = .int .i64 k ∧ Hid (prAll xs = prAll (xs.drop k))) (fun i => m - (intOf i).toNat)
  case atStart => exact ⟨0, Nat.zero_le _, rfl, Lib.hid rfl⟩
  case round =>
    obtain ⟨k, hk, rfl, hj⟩ := hrel
    by_cases hlt : k < m
    · have hkl : k < xs.length := by rw [← hm'.out]; exact hlt
      obtain ⟨g, o, rfl, hg, hc1⟩ := h1'.out (fun e => by rw [e] at hkl; simp at hkl)
      have c1 := hc1 k hkl
      have hd := Lib.hid (drop_cons xs k hkl)
      obtain ⟨x, hx⟩ : ∃ x, x = xs.getD k 0 := ⟨_, rfl⟩
      rw [← hx] at c1 hd
      clear hc1 hx
      by_cases hx1 : x < -1000000000
      · have hf := Lib.hid (show prB n xs = false by rw [hR.out, hj.out, hd.out, prAll_cons, prOk, decide_eq_false (by omega : ¬ -1000000000 ≤ x)]; rfl)
        go_wp2_with fail
        go_ret
        exact ⟨ret_b hf.out.symm, rfl⟩
      · by_cases hx2 : 1000000000 < x
        · have hf := Lib.hid (show prB n xs = false by rw [hR.out, hj.out, hd.out, prAll_cons, prOk, decide_eq_false (by omega : ¬ x ≤ 1000000000)]; simp)
          go_wp2_with fail
          go_ret
          exact ⟨ret_b hf.out.symm, rfl⟩
        · have hf := Lib.hid (show prAll xs = prAll (xs.drop (k + 1)) by rw [hj.out, hd.out, prAll_cons, prOk, decide_eq_true (by omega : -1000000000 ≤ x), decide_eq_true (by omega : x ≤ 1000000000)]; rfl)
          go_wp2_with fail
          go_round
          case rel => exact ⟨k + 1, by omega, by go_num, hf⟩
          case measure => simp [intOf]; omega
    · have hf := Lib.hid (show prB n xs = ((m : Int) == (n : Int)) by
        rw [hR.out, hj.out, drop_end xs k (by rw [← hm'.out]; omega)]
        show (true && decide ((m : Int) = (n : Int))) = _
        rw [Bool.true_and]; rfl)
      go_wp2_with fail
      go_ret
      exact ⟨ret_b hf.out.symm, rfl⟩

set_option maxHeartbeats 2000000 in
set_option maxRecDepth 100000 in
theorem prices33 {w : World} {v : Value} {xs : List Int} (hv : Reads w v xs) (hl : xs.length ≤ 1000) (n : Nat) :
    Calls Try.prog 33 #[v, .int .i64 n] w fun e w' => e = .returned (.bool (prB n xs)) ∧ w = w' := by
  obtain ⟨ao, c, rfl, hc, h1⟩ := hv
  obtain ⟨m, hm⟩ : ∃ m, m = xs.length := ⟨_, rfl⟩
  have hR := Lib.hid (show prB n xs = (prAll xs && decide ((m : Int) = (n : Int))) by rw [hm]; rfl)
  rw [← hm] at hl ⊢
  have h1' := Lib.hid h1
  have hm' := Lib.hid hm
  have hin := Lib.hid (fun (w : World) (v : Int) => in53 (w := w) v (-1000000000) 1000000000)
  clear h1 hm hc
  go_enter Try.func33, Try.ntmps33
  go_wp2_with fail
  go_loop [5] (fun i => ∃ k : Nat, k ≤ m ∧ i = .int .i64 k ∧ Hid (prAll xs = prAll (xs.drop k))) (fun i => m - (intOf i).toNat)
  case atStart => exact ⟨0, Nat.zero_le _, rfl, Lib.hid rfl⟩
  case round =>
    obtain ⟨k, hk, rfl, hj⟩ := hrel
    by_cases hlt : k < m
    · have hkl : k < xs.length := by rw [← hm'.out]; exact hlt
      obtain ⟨g, o, rfl, hg, hc1⟩ := h1'.out (fun e => by rw [e] at hkl; simp at hkl)
      have c1 := hc1 k hkl
      have hd := Lib.hid (drop_cons xs k hkl)
      obtain ⟨x, hx⟩ : ∃ x, x = xs.getD k 0 := ⟨_, rfl⟩
      rw [← hx] at c1 hd
      clear hc1 hx
      have hinx := Lib.hid (hin.out w x)
      obtain ⟨b, hb⟩ : ∃ b, b = (decide (-1000000000 ≤ x) && decide (x ≤ 1000000000)) := ⟨_, rfl⟩
      rw [← hb] at hinx
      have hbe := Lib.hid (show prAll (xs.drop k) = (b && prAll (xs.drop (k + 1))) by rw [hd.out, prAll_cons, prOk, hb])
      clear hb
      cases b with
      | false =>
        have hf := Lib.hid (show prB n xs = false by rw [hR.out, hj.out, hbe.out]; simp)
        go_wp2_with fail
        refine (hinx.out).mono ?_
        rintro e w1 ⟨rfl, rfl⟩
        go_wp2_with fail
        go_ret
        exact ⟨ret_b hf.out.symm, rfl⟩
      | true =>
        have hf := Lib.hid (show prAll xs = prAll (xs.drop (k + 1)) by rw [hj.out, hbe.out]; simp)
        go_wp2_with fail
        refine (hinx.out).mono ?_
        rintro e w1 ⟨rfl, rfl⟩
        go_wp2_with fail
        go_round
        case rel => exact ⟨k + 1, by omega, by go_num, hf⟩
        case measure => simp [intOf]; omega
    · have hf := Lib.hid (show prB n xs = ((m : Int) == (n : Int)) by
        rw [hR.out, hj.out, drop_end xs k (by rw [← hm'.out]; omega)]
        show (true && decide ((m : Int) = (n : Int))) = _
        rw [Bool.true_and]; rfl)
      go_wp2_with fail
      go_ret
      exact ⟨ret_b hf.out.symm, rfl⟩

theorem prB_at {n : Nat} {l : List Int} (h : prB n l = true) : l.length = n ∧ ∀ i, i < n → -1000000000 ≤ l.getD i 0 ∧ l.getD i 0 ≤ 1000000000 := by
  simp only [prB, Bool.and_eq_true, decide_eq_true_eq] at h
  refine ⟨by omega, fun i hi => ?_⟩
  have hl : i < l.length := by omega
  have := List.all_eq_true.1 h.1 l[i] (List.getElem_mem hl)
  simp only [prOk, Bool.and_eq_true, decide_eq_true_eq] at this
  rw [List.getD_eq_getElem?_getD, List.getElem?_eq_getElem hl]
  exact this
/-- The pairs of one row, from a column on, cost at least their two numbers. -/
def rowPr (cs : List (List Int)) (a : Int) (L : List Int) (i : Nat) (js : List Nat) : Bool := js.all fun j => decide (a + L.getD j 0 ≤ costAt cs i j)
def allPr (cs : List (List Int)) (n : Nat) (R L : List Int) (is : List Nat) : Bool := is.all fun i => rowPr cs (R.getD i 0) L i (List.range' 0 n)
def totPr (R L : List Int) : Nat → Int
  | 0 => 0
  | k + 1 => totPr R L k + (R.getD k 0 + L.getD k 0)
/-- Whether numbers are prices for a sum. -/
def pvB (cs : List (List Int)) (n : Nat) (R L : List Int) (s : Int) : Bool := allPr cs n R L (List.range' 0 n) && decide (s ≤ totPr R L n)
theorem rowPr_cons (cs : List (List Int)) (a : Int) (L : List Int) (i j : Nat) (js : List Nat) : rowPr cs a L i (j :: js) = (decide (a + L.getD j 0 ≤ costAt cs i j) && rowPr cs a L i js) := by simp [rowPr]
theorem allPr_cons (cs : List (List Int)) (n : Nat) (R L : List Int) (i : Nat) (is : List Nat) : allPr cs n R L (i :: is) = (rowPr cs (R.getD i 0) L i (List.range' 0 n) && allPr cs n R L is) := by simp [allPr]
theorem totPr_bd {n : Nat} {R L : List Int} (hR : ∀ i, i < n → -1000000000 ≤ R.getD i 0 ∧ R.getD i 0 ≤ 1000000000) (hL : ∀ i, i < n → -1000000000 ≤ L.getD i 0 ∧ L.getD i 0 ≤ 1000000000) :
    ∀ k, k ≤ n → -2000000000 * (k : Int) ≤ totPr R L k ∧ totPr R L k ≤ 2000000000 * (k : Int)
  | 0, _ => ⟨by show _ ≤ (0 : Int); omega, by show (0 : Int) ≤ _; omega⟩
  | k + 1, h => by
    obtain ⟨h1, h2⟩ := totPr_bd hR hL k (by omega)
    have h3 := hR k (by omega)
    have h4 := hL k (by omega)
    unfold totPr
    omega
end Go.Proofs.Ytfobdlllghpelaa
