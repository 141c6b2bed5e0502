import Derived.Test.YtpcjigdmfchbdaaDoorZb
import Derived.BigQuiet
namespace Go.Proofs.YtpcjigdmfchbdaaDoor
open Go.RowKit Go.Shelf Cl
attribute [local go_sem] Oper.semAt_some
set_option maxRecDepth 100000 in
theorem same23 {w : World} {u v : Value} {xs ys : List Int} (hu : Reads w u xs) (hv : Reads w v ys) (hl : xs.length ≤ 1000000) :
    Calls Tryd.prog 23 #[u, v] w fun e w' => e = .returned (.bool (sameL xs ys)) ∧ Below w.heap.size w w' := by
  obtain ⟨ao, c, rfl, _, h1⟩ := hu
  obtain ⟨bo, d, rfl, _, h2⟩ := hv
  obtain ⟨n, hn⟩ : ∃ n, n = xs.length := ⟨_, rfl⟩
  obtain ⟨m, hm⟩ : ∃ n, n = ys.length := ⟨_, rfl⟩
  rw [← hn] at hl ⊢
  rw [← hm]
  by_cases hnm : n = m
  · subst hnm
    have hn' := Lib.hid hn
    have hm' := Lib.hid hm
    have h1' := Lib.hid h1
    have h2' := Lib.hid h2
    clear hn hm h1 h2
    go_enter Tryd.func23, Tryd.ntmps23
    go_wp2
    go_loopw [5] (fun i wr => ∃ k : Nat, k ≤ n ∧ i = .int .i64 k ∧ Hid (∀ j, j < k → xs.getD j 0 = ys.getD j 0) ∧ Below w.heap.size w wr) (fun i _ => n - (intOf i).toNat)
    case atStart => exact ⟨0, Nat.zero_le _, rfl, Lib.hid (fun j hj => by omega), Below.refl _ _⟩
    case round =>
      obtain ⟨k, hk, rfl, hj, hb⟩ := hrel
      by_cases hlt : k < n
      · have e1 := hn'.out
        have e2 := hm'.out
        obtain ⟨g, o, rfl, hg, hc1⟩ := h1'.out (fun e => by rw [e] at e1; simp at e1; omega)
        obtain ⟨f, p, rfl, hf, hc2⟩ := h2'.out (fun e => by rw [e] at e2; simp at e2; omega)
        have c1 : wr.cell? ⟨g, o + k, none⟩ = some (.int .i64 (xs.getD k 0)) := (hb.cell hg).trans (hc1 k (by omega))
        have c2 : wr.cell? ⟨f, p + k, none⟩ = some (.int .i64 (ys.getD k 0)) := (hb.cell hf).trans (hc2 k (by omega))
        clear hc1 hc2 e1 e2
        obtain ⟨x, hx⟩ : ∃ x, x = xs.getD k 0 := ⟨_, rfl⟩
        obtain ⟨y, hy⟩ : ∃ x, x = ys.getD k 0 := ⟨_, rfl⟩
        rw [← hx] at c1
        rw [← hy] at c2
        have hx' := Lib.hid hx
        have hy' := Lib.hid hy
        clear hx hy
        by_cases hxy : x = y
        · have hxy' := Lib.hid hxy
          have ht : (x != y) = false := by simp [hxy]
          clear hxy
          go_wp2
          go_quiet (fail)
          go_wp2
          go_roundw
          case rel => exact ⟨k + 1, by omega, by go_num, Lib.hid (fun j hjk => by
            by_cases e : j = k
            · rw [e, ← hx'.out, ← hy'.out]; exact hxy'.out
            · exact hj.out j (by omega)), below_drewN hb _⟩
          case measure => simp [intOf]; omega
        · have hxy' := Lib.hid hxy
          have ht : (x != y) = true := by simp [hxy]
          clear hxy
          go_wp2
          go_quiet (fail)
          go_wp2
          go_ret
          exact ⟨ret_b (sameL_at k (by rw [← hx'.out, ← hy'.out]; exact hxy'.out)), below_drewN hb _⟩
      · go_wp2
        go_ret
        exact ⟨ret_b (sameL_all (by rw [← hn'.out, ← hm'.out]) k (by rw [← hn'.out]; omega) hj.out), hb⟩
  · have ht : ((n : Int) != (m : Int)) = true := by simp; omega
    have hz : false = sameL xs ys := sameL_len (by omega)
    have hz' := Lib.hid hz
    clear hz h1 h2 hn hm
    have hnm' := Lib.hid hnm
    clear hnm
    go_enter Tryd.func23, Tryd.ntmps23
    go_wp2
    go_ret
    exact ⟨ret_b hz'.out, Below.refl _ _⟩

set_option maxHeartbeats 2000000 in
set_option maxRecDepth 100000 in
theorem less61 {w : World} {u v : Value} {xs ys : List Int} (hu : Reads w u xs) (hv : Reads w v ys) (hl : xs.length ≤ 1000000) :
    Calls Tryd.prog 61 #[u, v] w (BoolEnd w (ltL xs ys)) := by
  obtain ⟨ao, c, rfl, _, h1⟩ := hu
  obtain ⟨bo, d, rfl, _, h2⟩ := hv
  obtain ⟨n, hn⟩ : ∃ n, n = xs.length := ⟨_, rfl⟩
  obtain ⟨m, hm⟩ : ∃ n, n = ys.length := ⟨_, rfl⟩
  rw [← hn] at hl ⊢
  rw [← hm]
  have hn' := Lib.hid hn
  have hm' := Lib.hid hm
  have h1' := Lib.hid h1
  have h2' := Lib.hid h2
  clear hn hm h1 h2
  go_enter Tryd.func61, Tryd.ntmps61
  go_wp2
  go_loopw [5] (fun i wr => ∃ k : Nat, k ≤ n ∧ k ≤ m ∧ i = .int .i64 k ∧ Hid (cmpL xs ys = cmpL (xs.drop k) (ys.drop k)) ∧ Hid (Below w.heap.size w wr)) (fun i _ => n - (intOf i).toNat)
  case atStart => exact ⟨0, Nat.zero_le _, Nat.zero_le _, rfl, Lib.hid rfl, Lib.hid (Below.refl _ _)⟩
  case round =>
    obtain ⟨k, hk, hkm, rfl, hj, hb⟩ := hrel
    by_cases hlt : k < n
    · have e1 := hn'.out
      obtain ⟨g, o, rfl, hg, hc1⟩ := h1'.out (fun e => by rw [e] at e1; simp at e1; omega)
      have c1 := (hb.out.cell (p := ⟨g, o + k, none⟩) hg).trans (hc1 k (by omega))
      have hd1 := Lib.hid (drop_cons xs k (by omega))
      clear hc1 e1
      obtain ⟨x, hx⟩ : ∃ x, x = xs.getD k 0 := ⟨_, rfl⟩
      rw [← hx] at c1 hd1
      clear hx
      by_cases hmt : k < m
      · have e2 := hm'.out
        obtain ⟨f, p, rfl, hf, hc2⟩ := h2'.out (fun e => by rw [e] at e2; simp at e2; omega)
        have c2 := (hb.out.cell (p := ⟨f, p + k, none⟩) hf).trans (hc2 k (by omega))
        have hd2 := Lib.hid (drop_cons ys k (by omega))
        clear hc2 e2
        obtain ⟨y, hy⟩ : ∃ x, x = ys.getD k 0 := ⟨_, rfl⟩
        rw [← hy] at c2 hd2
        clear hy
        have hs := Lib.hid (show cmpL xs ys = if cmpI x y = 0 then cmpL (xs.drop (k + 1)) (ys.drop (k + 1)) else cmpI x y by rw [hj.out, hd1.out, hd2.out]; rfl)
        by_cases hz : x = y
        · have hs' := Lib.hid (show cmpL xs ys = cmpL (xs.drop (k + 1)) (ys.drop (k + 1)) by rw [hs.out, hz, cmpI_self, if_pos rfl])
          have hz' : (x != y) = false := by simp [hz]
          clear hz hs
          go_wp2
          go_quiet (fail)
          go_wp2
          go_roundw
          case rel => exact ⟨k + 1, by omega, by omega, by go_num, hs', Lib.hid (below_drewN hb.out _)⟩
          case measure => simp [intOf]; omega
        · have hs' := Lib.hid (show decide (x < y) = ltL xs ys by
            unfold ltL
            rw [hs.out, if_neg (fun e => hz (cmpI_zero e))]
            unfold cmpI
            by_cases h1 : x < y
            · rw [if_pos h1]; simp [h1]
            · rw [if_neg h1, if_pos (by omega)]; simp [h1])
          have hz' : (x != y) = true := by simp [hz]
          clear hz hs
          go_wp2
          go_quiet (fail)
          go_wp2
          go_quiet (fail)
          go_wp2
          go_ret
          exact ⟨ret_b hs'.out, by first | exact below_drewN hb.out _ | exact below_drewN (below_drewN hb.out _) _⟩
      · have hkm2 : k = m := by omega
        have hs := Lib.hid (show decide ((n : Int) < m) = ltL xs ys by
          have e0 : ys.drop k = [] := List.drop_eq_nil_of_le (by have := hm'.out; omega)
          unfold ltL
          rw [hj.out, hd1.out, e0]
          have : ¬ (n : Int) < m := by omega
          simp [cmpL, this])
        go_wp2
        go_ret
        exact ⟨ret_b (by simpa using hs.out), hb.out⟩
    · have hkn : k = n := by omega
      have hs := Lib.hid (show decide ((n : Int) < m) = ltL xs ys by
        unfold ltL
        rw [hj.out, cmpL_done (by rw [← hn'.out]; omega), ← hn'.out, ← hm'.out, hkn]
        by_cases h : n < m <;> simp [h])
      go_wp2
      go_ret
      exact ⟨ret_b (by simpa using hs.out), hb.out⟩
end Go.Proofs.YtpcjigdmfchbdaaDoor
