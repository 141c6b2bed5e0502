import Derived.Test.YtfobdlllghpelaaD
namespace Go.Proofs.Ytfobdlllghpelaa
open Go.RowKit Pair

def entOk (r : List Int) : Bool := r.all fun v => decide (0 ≤ v) && decide (v ≤ 1000)
theorem entOk_cons (x : Int) (l : List Int) : entOk (x :: l) = (decide (0 ≤ x) && decide (x ≤ 1000) && entOk l) := by simp [entOk]
def rowsOk (n : Nat) (l : List (List Int)) : Bool := l.all fun r => decide (r.length = n) && entOk r
theorem rowsOk_cons (n : Nat) (x : List Int) (l : List (List Int)) : rowsOk n (x :: l) = (decide (x.length = n) && entOk x && rowsOk n l) := by simp [rowsOk]
/-- Valid costs. -/
def validC (cs : List (List Int)) : Bool := decide (1 ≤ cs.length) && decide (cs.length ≤ 8) && rowsOk cs.length cs

set_option maxHeartbeats 2000000 in
set_option maxRecDepth 100000 in
theorem valid48 {w : World} {v : Value} {cs : List (List Int)} (hv : ReadsG w v cs) (hl : cs.length ≤ 1000000) (hl2 : ∀ j, j < cs.length → (cs.getD j []).length ≤ 1000000) :
    Calls Try.prog 48 #[v] w fun e w' => e = .returned (.bool (validC cs)) ∧ w = w' := by
  obtain ⟨ao, c, rfl, _, h1⟩ := hv
  obtain ⟨n, hn⟩ : ∃ n, n = cs.length := ⟨_, rfl⟩
  have hR := Lib.hid (show validC cs = (decide (1 ≤ n) && decide (n ≤ 8) && rowsOk n cs) by rw [hn]; rfl)
  rw [← hn] at hl ⊢
  have h1' := Lib.hid h1
  have hn' := Lib.hid hn
  have hl2' := Lib.hid hl2
  clear h1 hn hl2
  by_cases ha : 1 ≤ n
  case neg =>
    have hf := Lib.hid (show validC cs = false by rw [hR.out]; simp [ha])
    have hlt : n < 1 := by omega
    go_enter Try.func48, Try.ntmps48
    go_wp2
    go_ret
    exact ⟨ret_b hf.out.symm, rfl⟩
  by_cases hb : n ≤ 8
  case neg =>
    have hf := Lib.hid (show validC cs = false by rw [hR.out]; simp [hb])
    go_enter Try.func48, Try.ntmps48
    go_wp2
    go_ret
    exact ⟨ret_b hf.out.symm, rfl⟩
  have hR2 := Lib.hid (show validC cs = rowsOk n cs by rw [hR.out]; simp [ha, hb])
  go_enter Try.func48, Try.ntmps48
  go_wp2
  go_loop [17] (fun i => ∃ k : Nat, k ≤ n ∧ i = .int .i64 k ∧ Hid (rowsOk n cs = rowsOk n (cs.drop k))) (fun i => n - (intOf i).toNat)
  case atStart => exact ⟨0, Nat.zero_le _, rfl, Lib.hid rfl⟩
  case round =>
    obtain ⟨k, hk, rfl, hj⟩ := hrel
    by_cases hlt : k < n
    · obtain ⟨g, o, rfl, hg, hc1⟩ := h1'.out (fun e => by have := hn'.out; rw [e] at this; simp at this; omega)
      obtain ⟨y, c1, hy⟩ := hc1 k (by rw [← hn'.out]; exact hlt)
      have hd := Lib.hid (drop_consG cs k (by rw [← hn'.out]; exact hlt))
      have hgk := hl2'.out k (by rw [← hn'.out]; exact hlt)
      clear hc1
      obtain ⟨l, hl3⟩ : ∃ l, l = cs.getD k [] := ⟨_, rfl⟩
      rw [← hl3] at hy hgk hd
      clear hl3
      obtain ⟨ro, rc, rfl, hrc, hrow⟩ := hy
      obtain ⟨m, hm⟩ : ∃ m, m = l.length := ⟨_, rfl⟩
      rw [← hm] at c1 hgk hrc
      have hrow' := Lib.hid hrow
      have hm' := Lib.hid hm
      clear hrow hm
      by_cases hmn : m = n
      · obtain rfl : n = m := hmn.symm
        have hj2 := Lib.hid (show rowsOk n cs = (entOk l && rowsOk n (cs.drop (k + 1))) by rw [hj.out, hd.out, rowsOk_cons, ← hm'.out]; simp)
        go_wp2
        go_loop [28] (fun i => ∃ q : Nat, q ≤ n ∧ i = .int .i64 q ∧ Hid (entOk l = entOk (l.drop q))) (fun i => n - (intOf i).toNat)
        case atStart => exact ⟨0, Nat.zero_le _, rfl, Lib.hid rfl⟩
        case round =>
          obtain ⟨q, hq, rfl, hjq⟩ := hrel
          by_cases hqt : q < n
          · obtain ⟨g2, o2, rfl, hg2, hc2⟩ := hrow'.out (fun e => by have := hm'.out; rw [e] at this; simp at this; omega)
            have c2 := hc2 q (by rw [← hm'.out]; exact hqt)
            have hd2 := Lib.hid (drop_cons l q (by rw [← hm'.out]; exact hqt))
            clear hc2
            obtain ⟨x, hx⟩ : ∃ x, x = l.getD q 0 := ⟨_, rfl⟩
            rw [← hx] at c2
            have hx' := Lib.hid hx
            clear hx
            by_cases hx0 : x < 0
            · have hf := Lib.hid (show validC cs = false by rw [hR2.out, hj2.out, hjq.out, hd2.out, entOk_cons, ← hx'.out]; simp [show ¬ 0 ≤ x by omega])
              go_wp2
              go_ret
              exact ⟨ret_b hf.out.symm, rfl⟩
            · by_cases hx1 : 1000 < x
              · have hf := Lib.hid (show validC cs = false by rw [hR2.out, hj2.out, hjq.out, hd2.out, entOk_cons, ← hx'.out]; simp [show ¬ x ≤ 1000 by omega])
                go_wp2
                go_ret
                exact ⟨ret_b hf.out.symm, rfl⟩
              · have hf := Lib.hid (show entOk l = entOk (l.drop (q + 1)) by rw [hjq.out, hd2.out, entOk_cons, ← hx'.out]; simp [show x ≤ 1000 by omega, show 0 ≤ x by omega])
                go_wp2
                go_round
                case rel => exact ⟨q + 1, by omega, by go_num, hf⟩
                case measure => simp [intOf]; omega
          · have hf := Lib.hid (show rowsOk n cs = rowsOk n (cs.drop (k + 1)) by rw [hj2.out, hjq.out, drop_end _ _ (by rw [← hm'.out]; omega)]; simp [entOk])
            go_wp2
            go_round
            case rel => exact ⟨k + 1, by omega, by go_num, hf⟩
            case measure => simp [intOf]; omega
      · have hf := Lib.hid (show validC cs = false by rw [hR2.out, hj.out, hd.out, rowsOk_cons, ← hm'.out]; simp [hmn])
        have hne : ((m : Int) != (n : Int)) = true := by simp; omega
        go_wp2
        go_ret
        exact ⟨ret_b hf.out.symm, rfl⟩
    · have hf := Lib.hid (show validC cs = true by rw [hR2.out, hj.out, drop_end _ _ (by rw [← hn'.out]; omega)]; rfl)
      go_wp2
      go_ret
      exact ⟨ret_b hf.out.symm, rfl⟩
end Go.Proofs.Ytfobdlllghpelaa
