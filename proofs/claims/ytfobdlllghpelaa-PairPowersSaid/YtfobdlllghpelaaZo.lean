import Derived.Test.YtfobdlllghpelaaZn
import Derived.BigQuiet
namespace Go.Proofs.Ytfobdlllghpelaa
open Go.RowKit Go.Shelf Pair
attribute [local go_sem] Oper.semAt_some

set_option maxHeartbeats 4000000 in
set_option maxRecDepth 100000 in
theorem isPairing73 {w : World} {v : Value} {xs : List Int} (hv : Reads w v xs) (hl : xs.length ≤ 1000) {n : Nat} (hn8 : n ≤ 8) :
    Calls Try.prog 73 #[v, .int .i64 n] w fun e w' => e = .returned (.bool (pairB n xs)) ∧ w = w' := by
  obtain ⟨ao, c, rfl, hc, h1⟩ := hv
  obtain ⟨m, hm⟩ : ∃ m, m = xs.length := ⟨_, rfl⟩
  have hR := Lib.hid (show pairB n xs = (decide ((m : Int) = (n : Int)) && pgB n xs m) by rw [hm]; rfl)
  rw [← hm] at hl ⊢
  have h1' := Lib.hid h1
  have hm' := Lib.hid hm
  have hfst := Lib.hid (fun (w : World) => first67 (w := w) hn8)
  have hno := Lib.hid (fun (k : Nat) (hk : k ≤ m) (h : pgB n xs k = false) => pairB_no (n := n) (xs := xs) (by rw [← hm]; exact hk) h)
  have h256 := pow_le n hn8
  clear h1 hm hc
  by_cases hmn : m = n
  · subst hmn
    have hR2 := Lib.hid (show pairB m xs = pgB m xs m by rw [hR.out]; simp)
    obtain ⟨N, hN⟩ : ∃ N, N = 2 ^ m := ⟨_, rfl⟩
    rw [← hN] at hfst h256
    have hN' := Lib.hid hN
    have hN0 : 0 < N := by rw [hN]; exact Nat.pow_pos (by decide)
    clear hR hN
    go_enter Try.func73, Try.ntmps73
    go_wp2_with fail
    refine (hfst.out _).mono ?_
    rintro e w1 ⟨rfl, rfl⟩
    go_wp2_with fail
    go_loop [5, 16] (fun sv iv => ∃ k S : Nat, k ≤ m ∧ iv = .int .i64 k ∧ sv = .int .u64 S ∧ S < 256 ∧ Hid (S = frS (N - 1) (natL xs k) ∧ pgB m xs k = true)) (fun _ i => m - (intOf i).toNat)
    case atStart => exact ⟨0, N - 1, Nat.zero_le _, rfl, rfl, by omega, Lib.hid ⟨rfl, rfl⟩⟩
    case round =>
      obtain ⟨k, S, hk, rfl, rfl, hS8, hj⟩ := hrel
      by_cases hlt : k < m
      · have hkl : k < xs.length := by rw [← hm'.out]; exact hlt
        obtain ⟨g, o, rfl, hg, hc1⟩ := h1'.out (fun e => by rw [e] at hkl; simp at hkl)
        have c1 := hc1 k hkl
        have hstep := Lib.hid (show pgB m xs (k + 1) = ((decide (0 ≤ xs.getD k 0) && decide (xs.getD k 0 ≤ (m : Int) - 1)) && !decide (xs.getD k 0 ∈ xs.take k)) by
          show (pgB m xs k && _) = _
          rw [hj.out.2]; rfl)
        have hno' := Lib.hid (hno.out (k + 1) (by omega))
        have hsn := Lib.hid (natL_succ xs k hkl)
        have hmem := Lib.hid (fun (y : Nat) => natL_mem (x := y) (by omega) hj.out.2)
        obtain ⟨x, hx⟩ : ∃ x, x = xs.getD k 0 := ⟨_, rfl⟩
        rw [← hx] at c1 hstep hsn
        clear hc1 hx
        by_cases hx0 : x < 0
        · have hf := Lib.hid (show pairB m xs = false from hno'.out (by rw [hstep.out, decide_eq_false (by omega : ¬ 0 ≤ x)]; rfl))
          go_wp2_with fail
          go_ret
          exact ⟨ret_b hf.out.symm, rfl⟩
        · obtain ⟨y, rfl⟩ : ∃ y : Nat, x = (y : Int) := ⟨x.toNat, by omega⟩
          have hbit := Lib.hid (show S.testBit y = (decide (y < m) && !decide (y ∈ natL xs k)) by
            rw [hj.out.1, frS_bit, hN'.out, full_bit])
          have hh := Lib.hid (fun (w : World) => has87 (w := w) (S := S) (j := y) hS8)
          obtain ⟨t, ht⟩ : ∃ t, t = S.testBit y := ⟨_, rfl⟩
          rw [← ht] at hh hbit
          clear ht
          cases t with
          | false =>
            have hf := Lib.hid (show pairB m xs = false from hno'.out (by
              rw [hstep.out]
              have := hbit.out
              by_cases e : y < m
              · rw [decide_eq_true e, Bool.true_and] at this
                have h2 : y ∈ natL xs k := by simpa using this
                rw [decide_eq_true ((hmem.out y).1 h2)]; simp
              · rw [decide_eq_false (by omega : ¬ (y : Int) ≤ (m : Int) - 1)]; simp))
            go_wp2_with fail
            refine (hh.out _).mono ?_
            rintro e w1 ⟨rfl, rfl⟩
            go_wp2_with fail
            go_ret
            exact ⟨ret_b hf.out.symm, rfl⟩
          | true =>
            have hym : y < m := by have := hbit.out; simp at this; exact this.1
            have hin : y ∉ natL xs k := by have := hbit.out; simp at this; exact this.2
            have hy8 : y < 8 := by omega
            have hw := Lib.hid (fun (w : World) => without79 (w := w) hS8 hy8)
            have hT8 : clr S y < 256 := clr_lt (n := 8) hS8
            have hnext := Lib.hid (show clr S y = frS (N - 1) (natL xs (k + 1)) ∧ pgB m xs (k + 1) = true from ⟨by
              rw [hsn.out, frS_snoc, ← hj.out.1]; rfl, by
              rw [hstep.out, decide_eq_true (by omega : (0 : Int) ≤ (y : Int)), decide_eq_true (by omega : (y : Int) ≤ (m : Int) - 1), decide_eq_false (fun h => hin ((hmem.out y).2 h))]; rfl⟩)
            obtain ⟨T, hT⟩ : ∃ T, T = clr S y := ⟨_, rfl⟩
            rw [← hT] at hw hT8 hnext
            clear hT hin
            go_wp2_with fail
            refine (hh.out _).mono ?_
            rintro e w1 ⟨rfl, rfl⟩
            go_wp2_with fail
            refine (hw.out _).mono ?_
            rintro e w1 ⟨rfl, rfl⟩
            go_wp2_with fail
            go_round
            case rel => exact ⟨k + 1, T, by omega, by go_num, rfl, hT8, hnext⟩
            case measure => simp [intOf]; omega
      · obtain rfl : m = k := by omega
        have hf := Lib.hid (show pairB m xs = true by rw [hR2.out]; exact hj.out.2)
        go_wp2_with fail
        go_ret
        exact ⟨ret_b hf.out.symm, rfl⟩
  · have hf := Lib.hid (show pairB n xs = false by rw [hR.out, decide_eq_false (by omega : ¬ (m : Int) = (n : Int))]; rfl)
    have hne : ((m : Int) != (n : Int)) = true := by simp; omega
    clear hR
    go_enter Try.func73, Try.ntmps73
    go_wp2_with fail
    go_ret
    exact ⟨ret_b hf.out.symm, rfl⟩

set_option maxHeartbeats 4000000 in
set_option maxRecDepth 100000 in
theorem refPairing44 {w : World} {v : Value} {xs : List Int} (hv : Reads w v xs) (hl : xs.length ≤ 1000) (n : Nat) (hn : n ≤ 1000) :
    Calls Try.prog 44 #[v, .int .i64 n] w fun e w' => e = .returned (.bool (pairB n xs)) ∧ Below w.heap.size w w' := by
  obtain ⟨ao, c, rfl, hc⟩ := id hv.len
  have hv' := Lib.hid hv
  obtain ⟨m, hm⟩ : ∃ m, m = xs.length := ⟨_, rfl⟩
  have hR := Lib.hid (show pairB n xs = (decide ((m : Int) = (n : Int)) && pgB n xs m) by rw [hm]; rfl)
  rw [← hm] at hl hc hv' ⊢
  have hm' := Lib.hid hm
  have hin := Lib.hid (fun (w : World) (v lo hi : Int) => in53 (w := w) v lo hi)
  have hno := Lib.hid (fun (k : Nat) (hk : k ≤ m) (h : pgB n xs k = false) => pairB_no (n := n) (xs := xs) (by rw [← hm]; exact hk) h)
  have hhas := Lib.hid (fun (W : World) (k : Nat) (hk : k ≤ m) (x : Int) (hb : Below w.heap.size w W) => has69 x ((hv'.out.below hb).take hm'.out.symm hk) (by rw [List.length_take]; omega))
  clear hv hm
  go_enter Try.func44, Try.ntmps44
  go_wp2_with fail
  go_loopw [5] (fun iv wr => ∃ k : Nat, k ≤ m ∧ iv = .int .i64 k ∧ Hid (pgB n xs k = true) ∧ Hid (Below w.heap.size w wr)) (fun iv _ => m - (intOf iv).toNat)
  case atStart => exact ⟨0, Nat.zero_le _, rfl, Lib.hid rfl, Lib.hid (Below.refl _ _)⟩
  case round =>
    obtain ⟨k, hk, rfl, hj, hbw⟩ := hrel
    by_cases hlt : k < m
    · obtain ⟨g, o, rfl, hg, hc1⟩ := hv'.out.at hm'.out.symm hlt
      have c1 := (hbw.out.cell (p := ⟨g, o + k, none⟩) hg).trans (hc1 k hlt)
      have hstep := Lib.hid (show pgB n xs (k + 1) = ((decide (0 ≤ xs.getD k 0) && decide (xs.getD k 0 ≤ (n : Int) - 1)) && !decide (xs.getD k 0 ∈ xs.take k)) by
        show (pgB n xs k && _) = _
        rw [hj.out]; rfl)
      have hno' := Lib.hid (hno.out (k + 1) (by omega))
      have hh := Lib.hid (fun (q : Nat) => hhas.out (wr.drewN q) k hk (xs.getD k 0) (below_drewN hbw.out _))
      have h53 := Lib.hid (fun (w : World) => hin.out w (xs.getD k 0) 0 ((n : Int) - 1))
      have hkc : (k : Int) ≤ (c : Int) := by omega
      have hk0 : (0 : Int) ≤ (k : Int) := by omega
      obtain ⟨x, hx⟩ : ∃ x, x = xs.getD k 0 := ⟨_, rfl⟩
      rw [← hx] at c1 hstep hh h53
      obtain ⟨p, hp⟩ : ∃ p, p = (decide (0 ≤ x) && decide (x ≤ (n : Int) - 1)) := ⟨_, rfl⟩
      rw [← hp] at hstep h53
      obtain ⟨q, hq⟩ : ∃ q, q = decide (x ∈ xs.take k) := ⟨_, rfl⟩
      rw [← hq] at hstep hh
      clear hc1 hx hp hq
      cases p with
      | false =>
        have hf := Lib.hid (show pairB n xs = false from hno'.out (by rw [hstep.out]; rfl))
        go_wp2_with fail
        go_quiet ((go_at_call 53; exact Calls.quiet_of_same (qs (h53.out _))))
        go_wp2_with fail
        go_ret
        exact ⟨ret_b hf.out.symm, below_drewN hbw.out _⟩
      | true =>
        cases q with
        | true =>
          have hf := Lib.hid (show pairB n xs = false from hno'.out (by rw [hstep.out]; rfl))
          go_wp2_with fail
          go_quiet ((first | (go_at_call 53; exact Calls.quiet_of_same (qs (h53.out _))) | (go_at_call 69; exact Calls.quiet_of_same (qs (hh.out _)))))
          go_wp2_with fail
          go_ret
          exact ⟨ret_b hf.out.symm, below_drewN hbw.out _⟩
        | false =>
          have hf := Lib.hid (show pgB n xs (k + 1) = true by rw [hstep.out]; rfl)
          go_wp2_with fail
          go_quiet ((first | (go_at_call 53; exact Calls.quiet_of_same (qs (h53.out _))) | (go_at_call 69; exact Calls.quiet_of_same (qs (hh.out _)))))
          go_wp2_with fail
          go_roundw
          case rel => exact ⟨k + 1, by omega, by go_num, hf, Lib.hid (below_drewN hbw.out _)⟩
          case measure => simp [intOf]; omega
    · obtain rfl : m = k := by omega
      have hf := Lib.hid (show pairB n xs = ((m : Int) == (n : Int)) by
        rw [hR.out, hj.out, Bool.and_true]; rfl)
      go_wp2_with fail
      go_ret
      exact ⟨ret_b hf.out.symm, hbw.out⟩
end Go.Proofs.Ytfobdlllghpelaa
