import Derived.Test.YtfobdlllghpelaaN
import Derived.Test.YtfobdlllghpelaaO
import Derived.Test.YtfobdlllghpelaaR
import Derived.BigQuiet
namespace Go.Proofs.Ytfobdlllghpelaa
open Go.RowKit Go.Shelf Pair
attribute [local go_sem] Oper.semAt_some

/-- The lexicographic order of two lists. -/
def cmpL : List Int → List Int → Int
  | [], [] => 0
  | [], _ :: _ => -1
  | _ :: _, [] => 1
  | x :: xs, y :: ys => if cmpI x y = 0 then cmpL xs ys else cmpI x y
theorem cmpL_done {xs ys : List Int} {k : Nat} (h1 : xs.length ≤ k) : cmpL (xs.drop k) (ys.drop k) = if xs.length < ys.length ∧ k < ys.length then -1 else 0 := by
  rw [List.drop_eq_nil_of_le h1]
  by_cases h : k < ys.length
  · rw [drop_cons ys k h, if_pos ⟨by omega, h⟩]; rfl
  · rw [List.drop_eq_nil_of_le (by omega), if_neg (by omega)]; rfl

set_option maxHeartbeats 2000000 in
set_option maxRecDepth 100000 in
theorem compare52 {w : World} {u v : Value} {xs ys : List Int} (hu : Reads w u xs) (hv : Reads w v ys) (hl : xs.length ≤ 1000000) :
    Calls Try.prog 52 #[u, v] w fun e w' => e = .returned (.int .i64 (cmpL xs ys)) ∧ w = w' := by
  obtain ⟨ao, c, rfl, _, h1⟩ := hu
  obtain ⟨bo, d, rfl, _, h2⟩ := hv
  obtain ⟨n, hn⟩ : ∃ n, n = xs.length := ⟨_, rfl⟩
  obtain ⟨m, hm⟩ : ∃ n, n = ys.length := ⟨_, rfl⟩
  rw [← hn] at hl ⊢
  rw [← hm]
  have hc := Lib.hid (fun (w : World) (a b : Int) => cmp61 (w := w) a b)
  have hn' := Lib.hid hn
  have hm' := Lib.hid hm
  have h1' := Lib.hid h1
  have h2' := Lib.hid h2
  clear hn hm h1 h2
  go_enter Try.func52, Try.ntmps52
  go_wp2
  go_loop [11] (fun i => ∃ k : Nat, k ≤ n ∧ k ≤ m ∧ i = .int .i64 k ∧ Hid (cmpL xs ys = cmpL (xs.drop k) (ys.drop k))) (fun i => n - (intOf i).toNat)
  case atStart => exact ⟨0, Nat.zero_le _, Nat.zero_le _, rfl, Lib.hid rfl⟩
  case round =>
    obtain ⟨k, hk, hkm, rfl, hj⟩ := hrel
    by_cases hlt : k < n
    · have e1 := hn'.out
      obtain ⟨g, o, rfl, hg, hc1⟩ := h1'.out (fun e => by rw [e] at e1; simp at e1; omega)
      have c1 := hc1 k (by omega)
      have hd1 := Lib.hid (drop_cons xs k (by omega))
      clear hc1 e1
      obtain ⟨x, hx⟩ : ∃ x, x = xs.getD k 0 := ⟨_, rfl⟩
      rw [← hx] at c1 hd1
      clear hx
      by_cases hmt : k < m
      · have e2 := hm'.out
        obtain ⟨f, p, rfl, hf, hc2⟩ := h2'.out (fun e => by rw [e] at e2; simp at e2; omega)
        have c2 := hc2 k (by omega)
        have hd2 := Lib.hid (drop_cons ys k (by omega))
        clear hc2 e2
        obtain ⟨y, hy⟩ : ∃ x, x = ys.getD k 0 := ⟨_, rfl⟩
        rw [← hy] at c2 hd2
        clear hy
        have hs := Lib.hid (show cmpL xs ys = if cmpI x y = 0 then cmpL (xs.drop (k + 1)) (ys.drop (k + 1)) else cmpI x y by rw [hj.out, hd1.out, hd2.out]; rfl)
        by_cases hz : cmpI x y = 0
        · have hs' := Lib.hid (show cmpL xs ys = cmpL (xs.drop (k + 1)) (ys.drop (k + 1)) by rw [hs.out, if_pos hz])
          go_wp2_with (first | (go_at_call 61; refine (hc.out _ _ _).mono ?_; rintro e w1 ⟨rfl, rfl⟩; rw [hz]))
          go_round
          case rel => exact ⟨k + 1, by omega, by omega, by go_num, hs'⟩
          case measure => simp [intOf]; omega
        · have hs' := Lib.hid (show cmpL xs ys = cmpI x y by rw [hs.out, if_neg hz])
          have hz' : (cmpI x y != 0) = true := by simp [hz]
          go_wp2_with (first | (go_at_call 61; refine (hc.out _ _ _).mono ?_; rintro e w1 ⟨rfl, rfl⟩))
          go_ret
          exact ⟨ret_i hs'.out.symm, rfl⟩
      · have hs := Lib.hid (show cmpL xs ys = 1 by
          have e0 : ys.drop k = [] := List.drop_eq_nil_of_le (by have := hm'.out; omega)
          rw [hj.out, hd1.out, e0]; rfl)
        go_wp2
        go_ret
        exact ⟨ret_i hs.out.symm, rfl⟩
    · have hkn : k = n := by omega
      have hs := Lib.hid (show cmpL xs ys = if n < m then -1 else 0 by
        rw [hj.out, cmpL_done (by rw [← hn'.out]; omega), ← hn'.out, ← hm'.out, hkn]; by_cases h : n < m <;> simp [h])
      by_cases hnm : n < m
      · have hs' := Lib.hid (show cmpL xs ys = -1 by rw [hs.out, if_pos hnm])
        go_wp2
        go_ret
        exact ⟨ret_i hs'.out.symm, rfl⟩
      · have hs' := Lib.hid (show cmpL xs ys = 0 by rw [hs.out, if_neg hnm])
        go_wp2
        go_ret
        exact ⟨ret_i hs'.out.symm, rfl⟩

/-- The first of two numbers that is not 0. -/
def orI (a b : Int) : Int := if a = 0 then b else a
set_option maxHeartbeats 2000000 in
set_option maxRecDepth 100000 in
theorem or51 {w : World} {g : Nat} {a b : Int} (c0 : w.cell? ⟨g, 0, none⟩ = some (.int .i64 a)) (c1 : w.cell? ⟨g, 1, none⟩ = some (.int .i64 b)) :
    Calls Try.prog 51 #[.slice (some ⟨g, 0, none⟩) 2 2] w fun e w' => e = .returned (.int .i64 (orI a b)) ∧ w = w' := by
  by_cases ha : a = 0
  · subst ha
    have hs := Lib.hid (show orI 0 b = b by simp [orI])
    go_enter Try.func51, Try.ntmps51
    go_wp2
    go_loop [8] (fun i => i = .int .i64 0 ∨ i = .int .i64 1 ∨ (i = .int .i64 2 ∧ b = 0)) (fun i => 2 - (intOf i).toNat)
    case atStart => exact .inl rfl
    case round =>
      rcases hrel with rfl | rfl | ⟨rfl, rfl⟩
      · go_wp2
        go_round
        case rel => exact .inr (.inl (by go_num))
        case measure => simp [intOf]
      · by_cases hb : b = 0
        · subst hb
          go_wp2
          go_round
          case rel => exact .inr (.inr ⟨by go_num, by simp⟩)
          case measure => simp [intOf]
        · have hb' : (b != 0) = true := by simp [hb]
          go_wp2
          go_ret
          exact ⟨ret_i hs.out.symm, rfl⟩
      · go_wp2
        go_ret
        exact ⟨ret_i hs.out.symm, rfl⟩
  · have hs := Lib.hid (show orI a b = a by simp [orI, ha])
    have ha' : (a != 0) = true := by simp [ha]
    go_enter Try.func51, Try.ntmps51
    go_wp2
    go_loop [8] (fun i => i = .int .i64 0) (fun i => 2 - (intOf i).toNat)
    case atStart => exact rfl
    case round =>
      obtain rfl := hrel
      go_wp2
      go_ret
      exact ⟨ret_i hs.out.symm, rfl⟩

set_option maxRecDepth 100000 in
theorem same25 {w : World} {u v : Value} {xs ys : List Int} (hu : Reads w u xs) (hv : Reads w v ys) (hl : xs.length ≤ 1000000) :
    Calls Try.prog 25 #[u, v] w fun e w' => e = .returned (.bool (sameL xs ys)) ∧ Below w.heap.size w w' := by
  obtain ⟨ao, c, rfl, _, h1⟩ := hu
  obtain ⟨bo, d, rfl, _, h2⟩ := hv
  obtain ⟨n, hn⟩ : ∃ n, n = xs.length := ⟨_, rfl⟩
  obtain ⟨m, hm⟩ : ∃ n, n = ys.length := ⟨_, rfl⟩
  rw [← hn] at hl ⊢
  rw [← hm]
  by_cases hnm : n = m
  · subst hnm
    have hn' := Lib.hid hn
    have hm' := Lib.hid hm
    have h1' := Lib.hid h1
    have h2' := Lib.hid h2
    clear hn hm h1 h2
    go_enter Try.func25, Try.ntmps25
    go_wp2
    go_loopw [5] (fun i wr => ∃ k : Nat, k ≤ n ∧ i = .int .i64 k ∧ Hid (∀ j, j < k → xs.getD j 0 = ys.getD j 0) ∧ Below w.heap.size w wr) (fun i _ => n - (intOf i).toNat)
    case atStart => exact ⟨0, Nat.zero_le _, rfl, Lib.hid (fun j hj => by omega), Below.refl _ _⟩
    case round =>
      obtain ⟨k, hk, rfl, hj, hb⟩ := hrel
      by_cases hlt : k < n
      · have e1 := hn'.out
        have e2 := hm'.out
        obtain ⟨g, o, rfl, hg, hc1⟩ := h1'.out (fun e => by rw [e] at e1; simp at e1; omega)
        obtain ⟨f, p, rfl, hf, hc2⟩ := h2'.out (fun e => by rw [e] at e2; simp at e2; omega)
        have c1 : wr.cell? ⟨g, o + k, none⟩ = some (.int .i64 (xs.getD k 0)) := (hb.cell hg).trans (hc1 k (by omega))
        have c2 : wr.cell? ⟨f, p + k, none⟩ = some (.int .i64 (ys.getD k 0)) := (hb.cell hf).trans (hc2 k (by omega))
        clear hc1 hc2 e1 e2
        obtain ⟨x, hx⟩ : ∃ x, x = xs.getD k 0 := ⟨_, rfl⟩
        obtain ⟨y, hy⟩ : ∃ x, x = ys.getD k 0 := ⟨_, rfl⟩
        rw [← hx] at c1
        rw [← hy] at c2
        have hx' := Lib.hid hx
        have hy' := Lib.hid hy
        clear hx hy
        by_cases hxy : x = y
        · have hxy' := Lib.hid hxy
          have ht : (x != y) = false := by simp [hxy]
          clear hxy
          go_wp2
          go_quiet (fail)
          go_wp2
          go_roundw
          case rel => exact ⟨k + 1, by omega, by go_num, Lib.hid (fun j hjk => by
            by_cases e : j = k
            · rw [e, ← hx'.out, ← hy'.out]; exact hxy'.out
            · exact hj.out j (by omega)), below_drewN hb _⟩
          case measure => simp [intOf]; omega
        · have hxy' := Lib.hid hxy
          have ht : (x != y) = true := by simp [hxy]
          clear hxy
          go_wp2
          go_quiet (fail)
          go_wp2
          go_ret
          exact ⟨ret_b (sameL_at k (by rw [← hx'.out, ← hy'.out]; exact hxy'.out)), below_drewN hb _⟩
      · go_wp2
        go_ret
        exact ⟨ret_b (sameL_all (by rw [← hn'.out, ← hm'.out]) k (by rw [← hn'.out]; omega) hj.out), hb⟩
  · have ht : ((n : Int) != (m : Int)) = true := by simp; omega
    have hz : false = sameL xs ys := sameL_len (by omega)
    have hz' := Lib.hid hz
    clear hz h1 h2 hn hm
    have hnm' := Lib.hid hnm
    clear hnm
    go_enter Try.func25, Try.ntmps25
    go_wp2
    go_ret
    exact ⟨ret_b hz'.out, Below.refl _ _⟩

end Go.Proofs.Ytfobdlllghpelaa
