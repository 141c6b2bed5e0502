import Derived.Test.YtccmabckmpelcaaA
namespace Go.Proofs.Ytccmabckmpelcaa
open Go.RowKit

theorem flow50_aux (n : Nat) (b : Bool) : (decide (1 ≤ n) && (decide (n ≤ 8) && b)) = (decide (1 ≤ n) && decide (n ≤ 8) && b) := by simp [Bool.and_assoc]

def flowB (l : List Int) : Bool := decide (1 ≤ l.length) && decide (l.length ≤ 8) && amt l

set_option maxRecDepth 100000 in
theorem flow50 {w : World} {v : Value} {xs : List Int} (hv : Reads w v xs) (hl : xs.length ≤ 1000000) :
    Calls Try.prog 50 #[v] w fun e w' => e = .returned (.bool (flowB xs)) ∧ w = w' := by
  have hv' := hv
  obtain ⟨ao, c, rfl, _, h1⟩ := hv
  obtain ⟨n, hn⟩ : ∃ n, n = xs.length := ⟨_, rfl⟩
  unfold flowB
  rw [← hn] at hl ⊢ hv'
  have h1' := Lib.hid h1
  have hn' := Lib.hid hn
  clear h1 hn
  by_cases ha : 1 ≤ n
  · by_cases hb : n ≤ 8
    · go_enter Try.func50, Try.ntmps50
      go_wp2_with (first | (go_at_call 51; refine (amounts51 hv' (by rw [← hn'.out]; exact hl)).mono ?_; rintro e w1 ⟨rfl, rfl⟩))
      go_ret
      exact ⟨ret_b (by simp [ha, hb]), rfl⟩
    · go_enter Try.func50, Try.ntmps50
      go_wp2
      go_ret
      exact ⟨ret_b (by simp), rfl⟩
  · go_enter Try.func50, Try.ntmps50
    go_wp2
    go_ret
    exact ⟨ret_b (by simp), rfl⟩

def gFrom : Int → List Int → Bool
  | _, [] => true
  | m, x :: r => decide (0 ≤ x) && decide (x ≤ m) && gFrom x r
def gainB (l : List Int) : Bool := decide (l.length ≤ 20) && gFrom 1000 l

set_option maxHeartbeats 1000000 in
set_option maxRecDepth 100000 in
theorem gains54 {w : World} {v : Value} {xs : List Int} (hv : Reads w v xs) (hl : xs.length ≤ 1000000) :
    Calls Try.prog 54 #[v] w fun e w' => e = .returned (.bool (gainB xs)) ∧ w = w' := by
  obtain ⟨ao, c, rfl, _, h1⟩ := hv
  obtain ⟨n, hn⟩ : ∃ n, n = xs.length := ⟨_, rfl⟩
  unfold gainB
  rw [← hn] at hl ⊢
  have h1' := Lib.hid h1
  have hn' := Lib.hid hn
  clear h1 hn
  by_cases h20 : 20 < n
  · go_enter Try.func54, Try.ntmps54
    go_wp2
    go_ret
    exact ⟨ret_b (by simp [show ¬ n ≤ 20 by omega]), rfl⟩
  go_enter Try.func54, Try.ntmps54
  go_wp2
  go_loop [3, 11] (fun m i => ∃ (k : Nat) (most : Int), k ≤ n ∧ i = .int .i64 k ∧ m = .int .i64 most ∧ Hid (gFrom 1000 xs = gFrom most (xs.drop k))) (fun _ i => n - (intOf i).toNat)
  case atStart => exact ⟨0, 1000, Nat.zero_le _, rfl, rfl, Lib.hid rfl⟩
  case round =>
    obtain ⟨k, most, hk, rfl, rfl, hj⟩ := hrel
    by_cases hlt : k < n
    · obtain ⟨g, o, rfl, hg, hc1⟩ := h1'.out (fun e => by have := hn'.out; rw [e] at this; simp at this; omega)
      have c1 := hc1 k (by rw [← hn'.out]; exact hlt)
      have hd := Lib.hid (drop_cons xs k (by rw [← hn'.out]; exact hlt))
      clear hc1
      obtain ⟨x, hx⟩ : ∃ x, x = xs.getD k 0 := ⟨_, rfl⟩
      rw [← hx] at c1
      have hx' := Lib.hid hx
      clear hx
      by_cases ha : x < 0
      · have hf := Lib.hid (show gFrom 1000 xs = false by rw [hj.out, hd.out, gFrom, ← hx'.out]; simp [show ¬ 0 ≤ x by omega])
        go_wp2
        go_ret
        exact ⟨ret_b (by rw [hf.out]; simp), rfl⟩
      · by_cases hb : most < x
        · have hf := Lib.hid (show gFrom 1000 xs = false by rw [hj.out, hd.out, gFrom, ← hx'.out]; simp [show ¬ x ≤ most by omega])
          go_wp2
          go_ret
          exact ⟨ret_b (by rw [hf.out]; simp), rfl⟩
        · have hf := Lib.hid (show gFrom 1000 xs = gFrom x (xs.drop (k + 1)) by rw [hj.out, hd.out, gFrom, ← hx'.out]; simp [show x ≤ most by omega, show 0 ≤ x by omega])
          go_wp2
          go_round
          case rel => exact ⟨k + 1, x, by omega, by go_num, rfl, hf⟩
          case measure => simp [intOf]; omega
    · have hf := Lib.hid (show gFrom 1000 xs = true by rw [hj.out, drop_end _ _ (by rw [← hn'.out]; omega)]; rfl)
      go_wp2
      go_ret
      exact ⟨ret_b (by rw [hf.out]; simp; omega), rfl⟩

/-- A use that is possible. -/
def poss : Int → List Int → List Int → Bool
  | left, f :: fs, u :: us => if left + f < u then false else poss (left + f - u) fs us
  | _, _, _ => true

/-- Numbers of water, also one more than can come in; numbers of pieces. -/
def FlowOk (xs : List Int) : Prop := xs.length ≤ 9 ∧ ∀ j, j < xs.length → 0 ≤ xs.getD j 0 ∧ xs.getD j 0 ≤ 31
def NonNeg (xs : List Int) : Prop := ∀ j, j < xs.length → 0 ≤ xs.getD j 0

set_option maxHeartbeats 1000000 in
set_option maxRecDepth 100000 in
theorem possible40 {w : World} {u v : Value} {fs us : List Int} (hu : Reads w u fs) (hv : Reads w v us) (hlen : us.length = fs.length) (hf : FlowOk fs) (hn : NonNeg us) :
    Calls Try.prog 40 #[u, v] w fun e w' => e = .returned (.bool (poss 0 fs us)) ∧ w = w' := by
  obtain ⟨ao, c, rfl, _, h1⟩ := hu
  obtain ⟨bo, d, rfl, _, h2⟩ := hv
  obtain ⟨h9, hf⟩ := hf
  obtain ⟨n, hfn⟩ : ∃ n, n = fs.length := ⟨_, rfl⟩
  rw [hlen, ← hfn]
  rw [← hfn] at h9
  have h1' := Lib.hid h1
  have h2' := Lib.hid h2
  have hf' := Lib.hid hf
  have hn' := Lib.hid hn
  have hfn' := Lib.hid hfn
  have hun' := Lib.hid hlen
  clear h1 h2 hf hn hfn hlen
  go_enter Try.func40, Try.ntmps40
  go_wp2
  go_loop [5, 10] (fun l i => ∃ (k : Nat) (left : Int), k ≤ n ∧ i = .int .i64 k ∧ l = .int .i64 left ∧ 0 ≤ left ∧ left ≤ 31 * (k : Int) ∧ Hid (poss 0 fs us = poss left (fs.drop k) (us.drop k))) (fun _ i => n - (intOf i).toNat)
  case atStart => exact ⟨0, 0, Nat.zero_le _, rfl, rfl, by omega, by omega, Lib.hid rfl⟩
  case round =>
    obtain ⟨k, left, hk, rfl, rfl, hl0, hl1, hj⟩ := hrel
    by_cases hlt : k < n
    · have e1 := hfn'.out
      have e2 := hun'.out
      obtain ⟨g, o, rfl, hg, hc1⟩ := h1'.out (fun e => by rw [e] at e1; simp at e1; omega)
      obtain ⟨g2, o2, rfl, hg2, hc2⟩ := h2'.out (fun e => by rw [e] at e2; simp at e2; omega)
      have c1 := hc1 k (by omega)
      have c2 := hc2 k (by omega)
      have hd := Lib.hid (drop_cons fs k (by omega))
      have hd2 := Lib.hid (drop_cons us k (by omega))
      have b1 := hf'.out k (by omega)
      have b2 := hn'.out k (by omega)
      clear hc1 hc2 e1 e2
      obtain ⟨x, hx⟩ : ∃ x, x = fs.getD k 0 := ⟨_, rfl⟩
      rw [← hx] at c1 b1
      have hx' := Lib.hid hx
      obtain ⟨y, hy⟩ : ∃ x, x = us.getD k 0 := ⟨_, rfl⟩
      rw [← hy] at c2 b2
      have hy' := Lib.hid hy
      clear hx hy
      obtain ⟨b0, b1⟩ := b1
      by_cases ha : left + x < y
      · have hf := Lib.hid (show poss 0 fs us = false by rw [hj.out, hd.out, hd2.out, poss, ← hx'.out, ← hy'.out, if_pos ha])
        go_wp2
        go_ret
        exact ⟨ret_b hf.out.symm, rfl⟩
      · have hf := Lib.hid (show poss 0 fs us = poss (left + x - y) (fs.drop (k + 1)) (us.drop (k + 1)) by rw [hj.out, hd.out, hd2.out, poss, ← hx'.out, ← hy'.out, if_neg ha])
        go_wp2
        go_round
        case rel => exact ⟨k + 1, left + x - y, by omega, by go_num, rfl, by omega, by omega, hf⟩
        case measure => simp [intOf]; omega
    · have hf := Lib.hid (show poss 0 fs us = true by rw [hj.out, drop_end fs _ (by rw [← hfn'.out]; omega)]; simp [poss])
      go_wp2
      go_ret
      exact ⟨ret_b hf.out.symm, rfl⟩

set_option maxHeartbeats 1000000 in
set_option maxRecDepth 100000 in
theorem possible19 {w : World} {u v : Value} {fs us : List Int} (hu : Reads w u fs) (hv : Reads w v us) (hlen : us.length = fs.length) (hf : FlowOk fs) (hn : NonNeg us) :
    Calls Try.prog 19 #[u, v] w fun e w' => e = .returned (.bool (poss 0 fs us)) ∧ w = w' := by
  obtain ⟨ao, c, rfl, _, h1⟩ := hu
  obtain ⟨bo, d, rfl, _, h2⟩ := hv
  obtain ⟨h9, hf⟩ := hf
  obtain ⟨n, hfn⟩ : ∃ n, n = fs.length := ⟨_, rfl⟩
  rw [hlen, ← hfn]
  rw [← hfn] at h9
  have h1' := Lib.hid h1
  have h2' := Lib.hid h2
  have hf' := Lib.hid hf
  have hn' := Lib.hid hn
  have hfn' := Lib.hid hfn
  have hun' := Lib.hid hlen
  clear h1 h2 hf hn hfn hlen
  go_enter Try.func19, Try.ntmps19
  go_wp2
  go_loop [5, 6] (fun l i => ∃ (k : Nat) (left : Int), k ≤ n ∧ i = .int .i64 k ∧ l = .int .i64 left ∧ 0 ≤ left ∧ left ≤ 31 * (k : Int) ∧ Hid (poss 0 fs us = poss left (fs.drop k) (us.drop k))) (fun _ i => n - (intOf i).toNat)
  case atStart => exact ⟨0, 0, Nat.zero_le _, rfl, rfl, by omega, by omega, Lib.hid rfl⟩
  case round =>
    obtain ⟨k, left, hk, rfl, rfl, hl0, hl1, hj⟩ := hrel
    by_cases hlt : k < n
    · have e1 := hfn'.out
      have e2 := hun'.out
      obtain ⟨g, o, rfl, hg, hc1⟩ := h1'.out (fun e => by rw [e] at e1; simp at e1; omega)
      obtain ⟨g2, o2, rfl, hg2, hc2⟩ := h2'.out (fun e => by rw [e] at e2; simp at e2; omega)
      have c1 := hc1 k (by omega)
      have c2 := hc2 k (by omega)
      have hd := Lib.hid (drop_cons fs k (by omega))
      have hd2 := Lib.hid (drop_cons us k (by omega))
      have b1 := hf'.out k (by omega)
      have b2 := hn'.out k (by omega)
      clear hc1 hc2 e1 e2
      obtain ⟨x, hx⟩ : ∃ x, x = fs.getD k 0 := ⟨_, rfl⟩
      rw [← hx] at c1 b1
      have hx' := Lib.hid hx
      obtain ⟨y, hy⟩ : ∃ x, x = us.getD k 0 := ⟨_, rfl⟩
      rw [← hy] at c2 b2
      have hy' := Lib.hid hy
      clear hx hy
      obtain ⟨b0, b1⟩ := b1
      by_cases ha : left + x < y
      · have hf := Lib.hid (show poss 0 fs us = false by rw [hj.out, hd.out, hd2.out, poss, ← hx'.out, ← hy'.out, if_pos ha])
        go_wp2
        go_ret
        exact ⟨ret_b hf.out.symm, rfl⟩
      · have hf := Lib.hid (show poss 0 fs us = poss (left + x - y) (fs.drop (k + 1)) (us.drop (k + 1)) by rw [hj.out, hd.out, hd2.out, poss, ← hx'.out, ← hy'.out, if_neg ha])
        go_wp2
        go_round
        case rel => exact ⟨k + 1, left + x - y, by omega, by go_num, rfl, by omega, by omega, hf⟩
        case measure => simp [intOf]; omega
    · have hf := Lib.hid (show poss 0 fs us = true by rw [hj.out, drop_end fs _ (by rw [← hfn'.out]; omega)]; simp [poss])
      go_wp2
      go_ret
      exact ⟨ret_b hf.out.symm, rfl⟩
end Go.Proofs.Ytccmabckmpelcaa
