import Derived.Test.YtccmabckmpelcaaK
namespace Go.Proofs.Ytccmabckmpelcaa
open Go.RowKit

def idxFrom (x : Int) : Nat → List Int → Int
  | _, [] => -1
  | k, y :: r => if x = y then (k : Int) else idxFrom x (k + 1) r
def idx (x : Int) (l : List Int) : Int := idxFrom x 0 l
theorem idxFrom_at (x : Int) : ∀ (l : List Int) (k : Nat), (idxFrom x k l = -1 ∧ ∀ j, j < l.length → l.getD j 0 ≠ x) ∨ ∃ j, j < l.length ∧ idxFrom x k l = ((k + j : Nat) : Int) ∧ l.getD j 0 = x ∧ ∀ i, i < j → l.getD i 0 ≠ x := by
  intro l
  induction l with
  | nil => intro k; exact .inl ⟨rfl, fun j hj => by simp at hj⟩
  | cons y r ih =>
    intro k
    unfold idxFrom
    by_cases h : x = y
    · rw [if_pos h]
      exact .inr ⟨0, by simp, by simp, by simp [h], fun i hi => by omega⟩
    · rw [if_neg h]
      rcases ih (k + 1) with ⟨h1, h2⟩ | ⟨j, h1, h2, h3, h4⟩
      · refine .inl ⟨h1, fun j hj => ?_⟩
        cases j with
        | zero => simpa using fun e => h e.symm
        | succ j => simpa using h2 j (by simpa using hj)
      · refine .inr ⟨j + 1, by simpa using h1, by rw [h2]; congr 1; omega, by simpa using h3, fun i hi => ?_⟩
        cases i with
        | zero => simpa using fun e => h e.symm
        | succ i => simpa using h4 i (by omega)
theorem idx_cases (x : Int) (l : List Int) : (idx x l = -1 ∧ ∀ j, j < l.length → l.getD j 0 ≠ x) ∨ ∃ j, j < l.length ∧ idx x l = (j : Int) ∧ l.getD j 0 = x ∧ ∀ i, i < j → l.getD i 0 ≠ x := by
  rcases idxFrom_at x l 0 with h | ⟨j, h1, h2, h3, h4⟩
  · exact .inl h
  · exact .inr ⟨j, h1, by unfold idx; rw [h2]; simp, h3, h4⟩

set_option maxHeartbeats 1000000 in
set_option maxRecDepth 100000 in
theorem index53 {w : World} {v : Value} {xs : List Int} (hv : Reads w v xs) (hl : xs.length ≤ 1000000) (x : Int) :
    Calls Try.prog 53 #[v, .int .i64 x] w fun e w' => e = .returned (.int .i64 (idx x xs)) ∧ w = w' := by
  obtain ⟨ao, c, rfl, _, h1⟩ := hv
  obtain ⟨n, hn⟩ : ∃ n, n = xs.length := ⟨_, rfl⟩
  rw [← hn] at hl ⊢
  have h1' := Lib.hid h1
  have hn' := Lib.hid hn
  clear h1 hn
  go_enter Try.func53, Try.ntmps53
  go_wp2
  go_loop [8] (fun i => ∃ (k : Nat), k ≤ n ∧ i = .int .i64 k ∧ Hid (idx x xs = idxFrom x k (xs.drop k))) (fun i => n - (intOf i).toNat)
  case atStart => exact ⟨0, Nat.zero_le _, rfl, Lib.hid rfl⟩
  case round =>
    obtain ⟨k, hk, rfl, hj⟩ := hrel
    by_cases hlt : k < n
    · obtain ⟨g, o, rfl, hg, hc1⟩ := h1'.out (fun e => by have := hn'.out; rw [e] at this; simp at this; omega)
      have c1 := hc1 k (by rw [← hn'.out]; exact hlt)
      have hd := Lib.hid (drop_cons xs k (by rw [← hn'.out]; exact hlt))
      clear hc1
      obtain ⟨y, hy⟩ : ∃ x, x = xs.getD k 0 := ⟨_, rfl⟩
      rw [← hy] at c1
      have hy' := Lib.hid hy
      clear hy
      by_cases ha : x = y
      · have hf := Lib.hid (show idx x xs = k by rw [hj.out, hd.out, idxFrom, ← hy'.out, if_pos ha])
        have ht : (x == y) = true := by simp [ha]
        clear ha
        go_wp2
        go_ret
        exact ⟨ret_i hf.out.symm, rfl⟩
      · have hf := Lib.hid (show idx x xs = idxFrom x (k + 1) (xs.drop (k + 1)) by rw [hj.out, hd.out, idxFrom, ← hy'.out, if_neg ha])
        have ht : (x == y) = false := by simp [ha]
        clear ha
        go_wp2
        go_round
        case rel => exact ⟨k + 1, by omega, by go_num, hf⟩
        case measure => simp [intOf]; omega
    · have hf := Lib.hid (show idx x xs = -1 by rw [hj.out, drop_end _ _ (by rw [← hn'.out]; omega)]; rfl)
      go_wp2
      go_ret
      exact ⟨ret_i hf.out.symm, rfl⟩

theorem contains57 {w : World} {v : Value} {xs : List Int} (hv : Reads w v xs) (hl : xs.length ≤ 1000000) (x : Int) :
    Calls Try.prog 57 #[v, .int .i64 x] w fun e w' => e = .returned (.bool (decide (0 ≤ idx x xs))) ∧ w = w' := by
  have hv' := Lib.hid hv
  obtain ⟨ao, c, rfl, _, h1⟩ := hv
  clear h1
  go_enter Try.func57, Try.ntmps57
  go_wp2_with fail
  refine (index53 hv'.out hl x).mono ?_
  rintro e w1 ⟨rfl, rfl⟩
  go_wp2_with fail
  go_ret
  exact ⟨ret_b rfl, rfl⟩

def hasB (ages : List Int) (k : Nat) : Bool := (List.range k).all fun a => decide (0 ≤ idx (a : Nat) ages)
theorem hasB_snoc (ages : List Int) (k : Nat) : hasB ages (k + 1) = (hasB ages k && decide (0 ≤ idx (k : Nat) ages)) := by unfold hasB; rw [List.range_succ]; simp
theorem hasB_mono {ages : List Int} {k n : Nat} (h : k ≤ n) (hb : hasB ages k = false) : hasB ages n = false := by
  unfold hasB at *
  rw [List.all_eq_false] at *
  obtain ⟨x, h1, h2⟩ := hb
  exact ⟨x, by rw [List.mem_range] at *; omega, h2⟩
theorem hasB_at {ages : List Int} {k n : Nat} (h : k < n) (hb : hasB ages n = true) : 0 ≤ idx (k : Nat) ages := by
  unfold hasB at hb
  rw [List.all_eq_true] at hb
  simpa using hb k (by rw [List.mem_range]; exact h)
def agesB (ages : List Int) (n : Nat) : Bool := decide (ages.length = n) && hasB ages n

set_option maxHeartbeats 1000000 in
set_option maxRecDepth 100000 in
theorem ages52 {w : World} {v : Value} {xs : List Int} (hv : Reads w v xs) (hl : xs.length ≤ 1000000) (n : Nat) (_ : n ≤ 1000000) :
    Calls Try.prog 52 #[v, .int .i64 n] w fun e w' => e = .returned (.bool (agesB xs n)) ∧ w = w' := by
  have hv' := Lib.hid hv
  obtain ⟨ao, c, rfl, _, h1⟩ := hv
  clear h1
  by_cases hx : xs.length = n
  · have hq := Lib.hid (show agesB xs n = hasB xs n by simp [agesB, hx])
    rw [hx] at hv' ⊢
    go_enter Try.func52, Try.ntmps52
    go_wp2_with fail
    go_loop [11] (fun i => ∃ (k : Nat), k ≤ n ∧ i = .int .i64 k ∧ Hid (hasB xs k = true)) (fun i => n - (intOf i).toNat)
    case atStart => exact ⟨0, Nat.zero_le _, rfl, Lib.hid rfl⟩
    case round =>
      obtain ⟨k, hk, rfl, hj⟩ := hrel
      by_cases hlt : k < n
      · by_cases hc : 0 ≤ idx (k : Nat) xs
        · have hs := Lib.hid (show hasB xs (k + 1) = true by rw [hasB_snoc, hj.out]; simpa using hc)
          have ht : decide (0 ≤ idx (k : Nat) xs) = true := by simpa using hc
          go_wp2_with fail
          refine (contains57 hv'.out (by omega) _).mono ?_
          rw [ht]
          rintro e w1 ⟨rfl, rfl⟩
          go_wp2_with fail
          go_round
          case rel => exact ⟨k + 1, by omega, by go_num, hs⟩
          case measure => simp [intOf]; omega
        · have ht : decide (0 ≤ idx (k : Nat) xs) = false := by simp; omega
          have hs := Lib.hid (show hasB xs n = false from hasB_mono (k := k + 1) (by omega) (by rw [hasB_snoc, ht]; simp))
          clear hc
          go_wp2_with fail
          refine (contains57 hv'.out (by omega) _).mono ?_
          rw [ht]
          rintro e w1 ⟨rfl, rfl⟩
          go_wp2_with fail
          go_ret
          exact ⟨ret_b (by rw [hq.out, hs.out]), rfl⟩
      · have hkn : n = k := by omega
        subst hkn
        go_wp2
        go_ret
        exact ⟨ret_b (by rw [hq.out, hj.out]), rfl⟩
  · have hq := Lib.hid (show agesB xs n = false by simp [agesB, hx])
    have ht : ((xs.length : Int) != (n : Int)) = true := by simp; omega
    clear hx
    go_enter Try.func52, Try.ntmps52
    go_wp2_with fail
    go_ret
    exact ⟨ret_b (by rw [hq.out]), rfl⟩
end Go.Proofs.Ytccmabckmpelcaa
