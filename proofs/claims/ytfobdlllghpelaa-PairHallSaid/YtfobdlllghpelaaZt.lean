import Derived.Test.YtfobdlllghpelaaZh
import Derived.Test.YtfobdlllghpelaaZr
import Derived.Test.YtfobdlllghpelaaZj
import Derived.Maps.AppendAt
namespace Go.Proofs.Ytfobdlllghpelaa
open Go.RowKit Go.Shelf Pair
attribute [local go_sem] Oper.semAt_some

/-- Two rows lie apart. -/
def Apart (u v : Value) : Prop := ∀ k, u.ownBlock = some k → v.ownBlock = some k → False
/-- append(s, y) of one int, beside another row. -/
theorem app_int_beside {ops : Array Oper} {rest : List Oper} {o : Oper} {a : Act} {Q : Exit → Act → World → Prop} {w : World} {B : Nat} {v u : Value} {xs zs : List Int} {y : Int}
    (hown : Ints w B v xs) (hu : Ints w B u zs) (hap : Apart u v) (hlen : xs.length ≤ 1000000000) (hB : B ≤ w.heap.size) (hgd : o.guard = none) (s x : Operand)
    (ho : o.op = .call { callee := .builtin .append, args := #[s, x], argTypes := #[24, 24] }) (hs : a.eval s = v) (hx : a.eval x = .slice (some ⟨w.heap.size, 0, none⟩) 1 1)
    (h : ∀ v' w', Ints w' B v' (xs ++ [y]) → Ints w' B u zs → Apart u v' → Below B w w' → wpList Try.prog ops Q rest (a.put o.dst v') w') : wpList Try.prog ops Q (o :: rest) a (w.alloc (.cells #[.int .i64 y] 3)) := by
  obtain ⟨i0, hi, hz0, hz1, hz2⟩ := info_parts info3
  refine wpList_append_own_at _ hgd s x 24 ho B 3 i0 (.int .i64 0) 1 8 Try.underlying24 hi hz0 hz1 hz2 rfl (by decide) v xs.length (xs.map (Value.int .i64)) hs (World.ownsRow.alloc hown _) ⟨w.heap.size, 0, none⟩ 1 1 [.int .i64 y] hx rfl (cell_one_new _ _ _) ?_ ?_ ?_ ?_ ?_
  · intro z hz; simp at hz; subst hz; rfl
  · unfold maxLen; omega
  · omega
  · simp; omega
  · intro v' w' h2 h3 _ hloc
    refine h v' w' (by unfold Ints; simpa using h2) ?_ ?_ ?_
    · refine World.ownsRow.kept (World.ownsRow.alloc hu _) h3 ?_
      rcases hu.2 with ⟨rfl, _⟩ | ⟨g, cap, cur, rfl, _, hg, _⟩
      · exact .inl rfl
      · exact .inr fun e => hap g rfl (by rw [← e]; rfl)
    · intro k hk hk'
      rcases hloc with e | e
      · rw [e] at hk'; exact hap k hk hk'
      · rw [e] at hk'
        injection hk' with hk'
        have := (World.ownsRow.lt hu k hk).2
        simp at hk'
        omega
    · exact ((Below.refl B w).alloc hB _).grown h3 (by simp; omega) (fun k hk => (World.ownsRow.lt hown k hk).1)

/-- Whether a pair is covered; the pairs of a row; all pairs. -/
def cvAt (cs : List (List Int)) (lim : Int) (rl cl : List Nat) (i j : Nat) : Bool := !decide (costAt cs i j ≤ lim) || (decide (i ∈ rl) || decide (j ∈ cl))
def cvRow (cs : List (List Int)) (lim : Int) (rl cl : List Nat) (i : Nat) (js : List Nat) : Bool := js.all (cvAt cs lim rl cl i)
def cvAll (cs : List (List Int)) (lim : Int) (n : Nat) (rl cl : List Nat) (is : List Nat) : Bool := is.all fun i => cvRow cs lim rl cl i (List.range' 0 n)
theorem cvRow_cons (cs : List (List Int)) (lim : Int) (rl cl : List Nat) (i j : Nat) (js : List Nat) : cvRow cs lim rl cl i (j :: js) = (cvAt cs lim rl cl i j && cvRow cs lim rl cl i js) := by simp [cvRow]
theorem cvAll_cons (cs : List (List Int)) (lim : Int) (n : Nat) (rl cl : List Nat) (i : Nat) (is : List Nat) : cvAll cs lim n rl cl (i :: is) = (cvRow cs lim rl cl i (List.range' 0 n) && cvAll cs lim n rl cl is) := by simp [cvAll]
theorem cvAll_iff {cs : List (List Int)} {lim : Int} {n : Nat} {rl cl : List Nat} : cvAll cs lim n rl cl (List.range' 0 n) = true ↔ ∀ i j, i < n → j < n → costAt cs i j ≤ lim → i ∈ rl ∨ j ∈ cl := by
  unfold cvAll cvRow cvAt
  simp only [List.all_eq_true, List.mem_range', Bool.or_eq_true, Bool.not_eq_true', decide_eq_false_iff_not, decide_eq_true_eq]
  constructor
  · intro h i j hi hj hc
    rcases h i ⟨i, hi, by omega⟩ j ⟨j, hj, by omega⟩ with h | h
    · exact absurd hc h
    · exact h
  · rintro h i ⟨x, hx, rfl⟩ j ⟨y, hy, rfl⟩
    by_cases hc : costAt cs (0 + 1 * x) (0 + 1 * y) ≤ lim
    · exact .inr (h _ _ (by omega) (by omega) hc)
    · exact .inl hc

set_option maxHeartbeats 4000000 in
set_option maxRecDepth 100000 in
theorem covers39' {w : World} {v a b : Value} {cs : List (List Int)} {n : Nat} {lim : Int} {rl cl : List Nat} (hv : Sq w v cs n) (hn8 : n ≤ 8)
    (ha : Reads w a (natI rl)) (hb : Reads w b (natI cl)) (hr : Rises n rl) (hc : Rises n cl) (hrl : rl.length ≤ 8) (hcl : cl.length ≤ 8) :
    Calls Try.prog 39 #[v, .int .i64 lim, a, b] w fun e w' => e = .returned (.bool (cvAll cs lim n rl cl (List.range' 0 n))) ∧ Below w.heap.size w w' := by
  obtain ⟨vo, vc, rfl⟩ := hv.val
  have hv' := Lib.hid hv
  have hra := Lib.hid (fun (w' : World) (i : Nat) (h : Below w.heap.size w w') => has69 (i : Int) (ha.below h) (by rw [natI_len]; omega))
  have hrb := Lib.hid (fun (w' : World) (i : Nat) (h : Below w.heap.size w w') => has69 (i : Int) (hb.below h) (by rw [natI_len]; omega))
  have ha' := Lib.hid ha
  have hb' := Lib.hid hb
  obtain ⟨ao, ac, rfl, _⟩ := ha.len
  obtain ⟨bo, bc, rfl, _⟩ := hb.len
  have hin := Lib.hid (fun (w : World) (v lo hi : Int) => in53 (w := w) v lo hi)
  have hb0 := Lib.hid (below_alloc1 w (.cells #[.slice ao (natI rl).length ac, .slice bo (natI cl).length bc] 24))
  have hlist : ∀ k, k < 2 → ∃ (lo : Option Addr) (c : Nat) (l : List Nat), (w.alloc (.cells #[.slice ao (natI rl).length ac, .slice bo (natI cl).length bc] 24)).cell? ⟨w.heap.size, k, none⟩ = some (.slice lo l.length c) ∧ Reads w (.slice lo l.length c) (natI l) ∧ Rises n l ∧ l.length ≤ 8 := by
    intro k hk
    rcases (show k = 0 ∨ k = 1 by omega) with rfl | rfl
    · exact ⟨ao, ac, rl, by rw [World.cell?_alloc_at (hn := rfl), ← natI_len rl]; rfl, by rw [← natI_len rl]; exact ha, hr, hrl⟩
    · exact ⟨bo, bc, cl, by rw [World.cell?_alloc_at (hn := rfl), ← natI_len cl]; rfl, by rw [← natI_len cl]; exact hb, hc, hcl⟩
  have hlist' := Lib.hid hlist
  clear hv ha hb hlist hr hc
  go_enter Try.func39, Try.ntmps39
  go_wp2_with fail
  obtain ⟨w0, hw0⟩ : ∃ w0, w0 = w.alloc (.cells #[.slice ao (natI rl).length ac, .slice bo (natI cl).length bc] 24) := ⟨_, rfl⟩
  have hsz : w.heap.size < w0.heap.size := by rw [hw0]; simp
  rw [← hw0] at hb0 hlist' ⊢
  clear hw0
  obtain ⟨g0, hg0⟩ : ∃ g, g = w.heap.size := ⟨_, rfl⟩
  rw [← hg0] at hlist' hsz ⊢
  clear hg0
  go_loopw [18] (fun iv wr => ∃ k : Nat, k ≤ 2 ∧ iv = .int .i64 k ∧ Hid (Below w0.heap.size w0 wr)) (fun iv _ => 2 - (intOf iv).toNat)
  case atStart => exact ⟨0, by omega, rfl, Lib.hid (Below.refl _ _)⟩
  case round =>
    obtain ⟨k, hk, rfl, hbw⟩ := hrel
    by_cases hk2 : k < 2
    · obtain ⟨lo, lc, l, cl0, hl, hri, hl8⟩ := hlist'.out k hk2
      have ck := (hbw.out.cell (p := ⟨g0, k, none⟩) hsz).trans cl0
      have hl' := Lib.hid hl
      have hri' := Lib.hid hri
      have hk1 : decide ((1 : Int) < (k : Int)) = false := by simp; omega
      clear cl0 hl hri
      obtain ⟨m, hm⟩ : ∃ m, m = l.length := ⟨_, rfl⟩
      rw [← hm] at ck hl' hl8
      have hm' := Lib.hid hm
      clear hm
      go_wp2_with fail
      rw [show decide ((k : Int) < 2) = true by simp; omega]
      go_loopw [11] (fun iv wr => ∃ i : Nat, i ≤ m ∧ iv = .int .i64 i ∧ Hid (Below w0.heap.size w0 wr)) (fun iv _ => m - (intOf iv).toNat)
      case atStart => exact ⟨0, by omega, rfl, hbw⟩
      case round =>
        clear hbw ck
        obtain ⟨i, hi, rfl, hbw⟩ := hrel
        by_cases him : i < m
        · have hbt := below_call hb0.out hbw.out
          obtain ⟨g5, o5, rfl, hg5, hc5⟩ := hl'.out.at (by rw [natI_len]; exact hm'.out.symm) him
          have hil : i < l.length := by rw [← hm'.out]; exact him
          have c5 := (hbt.cell (p := ⟨g5, o5 + i, none⟩) hg5).trans (hc5 i him)
          rw [natI_at l i hil] at c5
          have hx := hri'.out.1 i hil
          have h53 := hin.out
          by_cases hi0 : i = 0
          · subst hi0
            obtain ⟨x, hxq⟩ : ∃ x, x = l.getD 0 0 := ⟨_, rfl⟩
            rw [← hxq, Nat.add_zero] at c5
            rw [← hxq] at hx
            have him' : (0 : Int) < (m : Int) := by omega
            have hb1 : (decide ((0 : Int) ≤ (x : Int)) && decide ((x : Int) ≤ (n : Int) - 1)) = true := by simp; omega
            have h53x := Lib.hid (fun (w : World) => hin.out w x 0 ((n : Int) - 1))
            rw [hb1] at h53x
            clear hc5 hxq hb1 h53
            go_wp2_with fail
            go_quiet ((go_at_call 53; exact Calls.quiet_of_same (qs (h53x.out _))))
            go_wp2_with fail
            go_roundw
            case rel => exact ⟨0 + 1, by omega, by go_num, Lib.hid (below_drewN hbw.out _)⟩
            case measure => simp [intOf]; omega
          · obtain ⟨q, hq⟩ : ∃ q, q + 1 = i := ⟨i - 1, by omega⟩
            have hy := hri'.out.2 i (by omega) hil
            have c6 := (hbt.cell (p := ⟨g5, o5 + q, none⟩) hg5).trans (hc5 q (by omega))
            rw [natI_at l q (by omega)] at c6
            rw [show i - 1 = q by omega] at hy
            have hsub : (i : Int) - 1 = (q : Int) := by omega
            have hqm : q < m := by omega
            have hi1 : 0 < i := by omega
            obtain ⟨x, hxq⟩ : ∃ x, x = l.getD i 0 := ⟨_, rfl⟩
            obtain ⟨y, hyq⟩ : ∃ y, y = l.getD q 0 := ⟨_, rfl⟩
            rw [← hxq] at c5 hx hy
            rw [← hyq] at c6 hy
            have hb1 : (decide ((0 : Int) ≤ (x : Int)) && decide ((x : Int) ≤ (n : Int) - 1)) = true := by simp; omega
            have h53x := Lib.hid (fun (w : World) => hin.out w x 0 ((n : Int) - 1))
            rw [hb1] at h53x
            have hxy : decide (x ≤ y) = false := by simp; omega
            have hi2 : decide ((0 : Int) < (i : Int)) = true := by simp; omega
            clear hc5 hxq hyq hb1 h53 hi0 hq hy hil
            go_wp2_with fail
            go_quiet ((go_at_call 53; exact Calls.quiet_of_same (qs (h53x.out _))))
            go_wp2_with fail
            go_roundw
            case rel => exact ⟨i + 1, by omega, by go_num, Lib.hid (below_drewN hbw.out _)⟩
            case measure => simp [intOf]; omega
        · go_wp2_with fail
          go_roundw
          case rel => exact ⟨k + 1, by omega, by go_num, hbw⟩
          case measure => simp [intOf]; omega
    · go_wp2_with fail
      go_loopw [12] (fun iv wr => ∃ i : Nat, i ≤ n ∧ iv = .int .i64 i ∧ Hid (cvAll cs lim n rl cl (List.range' 0 n) = cvAll cs lim n rl cl (List.range' i (n - i))) ∧ Hid (Below w0.heap.size w0 wr)) (fun iv _ => n - (intOf iv).toNat)
      case atStart => exact ⟨0, by omega, rfl, Lib.hid rfl, hbw⟩
      case round =>
        clear hbw
        obtain ⟨i, hi, rfl, hA, hbw⟩ := hrel
        by_cases hin2 : i < n
        · have hA2 := Lib.hid (show cvAll cs lim n rl cl (List.range' 0 n) = (cvRow cs lim rl cl i (List.range' 0 n) && cvAll cs lim n rl cl (List.range' (i + 1) (n - (i + 1)))) by rw [hA.out, range'_cons i n hin2, cvAll_cons])
          clear hA
          go_wp2_with fail
          go_loopw [13] (fun iv wr => ∃ j : Nat, j ≤ n ∧ iv = .int .i64 j ∧ Hid (cvRow cs lim rl cl i (List.range' 0 n) = cvRow cs lim rl cl i (List.range' j (n - j))) ∧ Hid (Below w0.heap.size w0 wr)) (fun iv _ => n - (intOf iv).toNat)
          case atStart => exact ⟨0, by omega, rfl, Lib.hid rfl, hbw⟩
          case round =>
            clear hbw
            obtain ⟨j, hj, rfl, hR, hbw⟩ := hrel
            have hbt := below_call hb0.out hbw.out
            by_cases hjn : j < n
            · obtain ⟨g1, o1, rfl, hg1, g2, o2, rc, c1, hg2, hc2⟩ := hv'.out.at hin2
              have cc1 := (hbt.cell (p := ⟨g1, o1 + i, none⟩) hg1).trans c1
              have cc2 := (hbt.cell (p := ⟨g2, o2 + j, none⟩) hg2).trans (hc2 j hjn)
              have hA := Lib.hid (hra.out wr i hbt)
              have hB := Lib.hid (hrb.out wr j hbt)
              rw [natI_has] at hA hB
              have hR2 := Lib.hid (show cvRow cs lim rl cl i (List.range' 0 n) = ((!decide (costAt cs i j ≤ lim) || (decide (i ∈ rl) || decide (j ∈ cl))) && cvRow cs lim rl cl i (List.range' (j + 1) (n - (j + 1)))) by rw [hR.out, range'_cons j n hjn, cvRow_cons]; rfl)
              obtain ⟨x, hx⟩ : ∃ x, x = costAt cs i j := ⟨_, rfl⟩
              rw [← hx] at cc2 hR2
              obtain ⟨p, hp⟩ : ∃ p, p = decide (i ∈ rl) := ⟨_, rfl⟩
              obtain ⟨q, hq⟩ : ∃ q, q = decide (j ∈ cl) := ⟨_, rfl⟩
              rw [← hp] at hA hR2
              rw [← hq] at hB hR2
              clear hx hc2 c1 hbt hp hq hR
              by_cases hxl : x ≤ lim
              · cases p with
                | true =>
                  have hR3 := Lib.hid (show cvRow cs lim rl cl i (List.range' 0 n) = cvRow cs lim rl cl i (List.range' (j + 1) (n - (j + 1))) by rw [hR2.out]; simp)
                  go_wp2_with fail
                  refine (hA.out).mono ?_
                  rintro e w1 ⟨rfl, rfl⟩
                  go_wp2_with fail
                  go_roundw
                  case rel => exact ⟨j + 1, by omega, by go_num, hR3, hbw⟩
                  case measure => simp [intOf]; omega
                | false =>
                  cases q with
                  | true =>
                    have hR3 := Lib.hid (show cvRow cs lim rl cl i (List.range' 0 n) = cvRow cs lim rl cl i (List.range' (j + 1) (n - (j + 1))) by rw [hR2.out]; simp)
                    go_wp2_with fail
                    refine (hA.out).mono ?_
                    rintro e w1 ⟨rfl, rfl⟩
                    go_wp2_with fail
                    refine (hB.out).mono ?_
                    rintro e w1 ⟨rfl, rfl⟩
                    go_wp2_with fail
                    go_roundw
                    case rel => exact ⟨j + 1, by omega, by go_num, hR3, hbw⟩
                    case measure => simp [intOf]; omega
                  | false =>
                    have hf := Lib.hid (show cvAll cs lim n rl cl (List.range' 0 n) = false by rw [hA2.out, hR2.out, decide_eq_true hxl]; rfl)
                    go_wp2_with fail
                    refine (hA.out).mono ?_
                    rintro e w1 ⟨rfl, rfl⟩
                    go_wp2_with fail
                    refine (hB.out).mono ?_
                    rintro e w1 ⟨rfl, rfl⟩
                    go_wp2_with fail
                    go_ret
                    exact ⟨ret_b hf.out.symm, below_call hb0.out hbw.out⟩
              · have hxl' : decide (x ≤ lim) = false := by simpa using hxl
                have hR3 := Lib.hid (show cvRow cs lim rl cl i (List.range' 0 n) = cvRow cs lim rl cl i (List.range' (j + 1) (n - (j + 1))) by rw [hR2.out, hxl']; rfl)
                go_wp2_with fail
                go_roundw
                case rel => exact ⟨j + 1, by omega, by go_num, hR3, hbw⟩
                case measure => simp [intOf]; omega
            · have hA3 := Lib.hid (show cvAll cs lim n rl cl (List.range' 0 n) = cvAll cs lim n rl cl (List.range' (i + 1) (n - (i + 1))) by rw [hA2.out, hR.out, show n - j = 0 by omega]; rfl)
              go_wp2_with fail
              go_roundw
              case rel => exact ⟨i + 1, by omega, by go_num, hA3, hbw⟩
              case measure => simp [intOf]; omega
        · have hf := Lib.hid (show cvAll cs lim n rl cl (List.range' 0 n) = true by rw [hA.out, show n - i = 0 by omega]; rfl)
          go_wp2_with fail
          go_ret
          exact ⟨ret_b hf.out.symm, below_call hb0.out hbw.out⟩
end Go.Proofs.Ytfobdlllghpelaa
