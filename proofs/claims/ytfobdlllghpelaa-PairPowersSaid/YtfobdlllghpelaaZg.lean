import Derived.Test.YtfobdlllghpelaaN
namespace Go.Proofs.Ytfobdlllghpelaa
open Go.RowKit Go.Shelf Pair
attribute [local go_sem] Oper.semAt_some

theorem un_tab : ∀ S : Nat, S < 256 → ∀ j : Nat, j < 8 → (bits BinOp.and IntKind.i64 ((S : Int) / 2 ^ j) 1 == 0) = !S.testBit j := by decide +kernel
theorem ori_tab : ∀ S : Nat, S < 256 → ∀ j : Nat, j < 8 → bits BinOp.or IntKind.i64 (S : Int) (IntKind.i64.wrap (2 ^ j)) = ((S ||| 2 ^ j : Nat) : Int) := by decide +kernel
def okR (cs : List (List Int)) (lim : Int) (i j : Nat) : Bool := decide (costAt cs i j ≤ lim)
/-- The greatest number of pairs of the rows from `i` on, where the columns of `U` are used. -/
def mostU (cs : List (List Int)) (lim : Int) (n k i U : Nat) : Nat := mostP (okR cs lim) n k i fun x => U.testBit x
def mostG (cs : List (List Int)) (lim : Int) (n k i U j : Nat) : Option Nat := if !U.testBit j && okR cs lim i j then some (1 + mostU cs lim n k (i + 1) (U ||| 2 ^ j)) else none
theorem best_congr {g g' : Nat → Option Nat} : ∀ {js : List Nat} (b : Nat), (∀ j ∈ js, g j = g' j) → best g js b = best g' js b
  | [], _, _ => rfl
  | j :: js, b, h => by
    unfold best
    rw [h j (List.mem_cons_self ..)]
    exact best_congr _ fun x hx => h x (List.mem_cons_of_mem _ hx)
theorem mostU_succ (cs : List (List Int)) (lim : Int) (n k i U : Nat) : mostU cs lim n (k + 1) i U = best (mostG cs lim n k i U) (List.range n) (mostU cs lim n k (i + 1) U) := by
  unfold mostU
  rw [mostP]
  refine best_congr _ fun j _ => ?_
  unfold mostG mostU
  have e : (fun x => U.testBit x || decide (x = j)) = fun x => (U ||| 2 ^ j).testBit x := by
    funext x
    rw [Nat.testBit_or, Nat.testBit_two_pow]
    congr 1
    rw [Bool.eq_iff_iff]; simp; exact eq_comm
  rw [e]
theorem best_snoc (g : Nat → Option Nat) : ∀ (js : List Nat) (b j : Nat), best g (js ++ [j]) b = best g [j] (best g js b)
  | [], _, _ => rfl
  | x :: js, b, j => by
    rw [List.cons_append, best, best]
    exact best_snoc g js _ j
theorem mostU_le (cs : List (List Int)) (lim : Int) (n k i U : Nat) : mostU cs lim n k i U ≤ k := by
  obtain ⟨A, f, _, h⟩ := mostP_is (okR cs lim) n k i fun x => U.testBit x
  unfold mostU
  rw [← h]
  have : ∀ (k i : Nat), cntF A i k ≤ k := by
    intro k
    induction k with
    | zero => intro i; exact Nat.le_refl _
    | succ k ih => intro i; unfold cntF; have := ih (i + 1); split <;> omega
  exact this k i
theorem shl_lay : ∀ j : Nat, j < 8 → IntKind.i64.wrap ((2 : Int) ^ j) = ((2 ^ j : Nat) : Int) := fun j h => pow_tab j (by omega)

set_option maxHeartbeats 4000000 in
set_option maxRecDepth 100000 in
theorem most68 {w : World} {v : Value} {cs : List (List Int)} {n : Nat} (lim : Int) (hv : Sq w v cs n) (hn8 : n ≤ 8) : ∀ (k i U : Nat), i + k = n → U < 2 ^ n →
    Calls Try.prog 68 #[v, .int .i64 lim, .int .i64 i, .int .i64 U] w fun e w' => e = .returned (.int .i64 (mostU cs lim n k i U : Nat)) ∧ w = w' := by
  obtain ⟨ao, c, rfl⟩ := hv.val
  have hv' := Lib.hid hv
  clear hv
  intro k
  induction k with
  | zero =>
    intro i U hi hU
    obtain rfl : i = n := by omega
    have hz := Lib.hid (show mostU cs lim i 0 i U = 0 from rfl)
    rw [hz.out]
    go_enter Try.func68, Try.ntmps68
    go_wp2
    go_ret
    exact ⟨rfl, rfl⟩
  | succ k ih =>
    intro i U hi hU
    have hU8 : U < 256 := Nat.lt_of_lt_of_le hU (pow_le n hn8)
    have hin : i < n := by omega
    have hk8 : k ≤ 8 := by omega
    have hne : ((i : Int) == (n : Int)) = false := by simp; omega
    have hS := Lib.hid (mostU_succ cs lim n k i U)
    have ih0 := Lib.hid (ih (i + 1) U (by omega) hU)
    have ihj := Lib.hid (fun (j : Nat) (hj : j < n) => ih (i + 1) (U ||| 2 ^ j) (by omega) (Nat.or_lt_two_pow hU (Nat.pow_lt_pow_right (by decide) hj)))
    have hle0 := mostU_le cs lim n k (i + 1) U
    obtain ⟨g, o, rfl, hg, g2, o2, rc, c1, hg2, hc2⟩ := hv'.out.at hin
    have hc2' := Lib.hid hc2
    obtain ⟨b0, hb0⟩ : ∃ b, b = mostU cs lim n k (i + 1) U := ⟨_, rfl⟩
    rw [← hb0] at hS ih0 hle0
    rw [show ((i + 1 : Nat) : Int) = (i : Int) + 1 by omega] at ih0
    clear hb0 hi ih hc2
    go_enter Try.func68, Try.ntmps68
    go_wp2_with fail
    refine (ih0.out).mono ?_
    rintro e w1 ⟨rfl, rfl⟩
    go_wp2_with fail
    go_loop [9, 10] (fun bv jv => ∃ j : Nat, j ≤ n ∧ jv = .int .i64 j ∧ ∃ b : Nat, bv = .int .i64 b ∧ b ≤ 100 ∧ Hid (b = best (mostG cs lim n k i U) (List.range j) b0)) (fun _ jv => n - (intOf jv).toNat)
    case atStart => exact ⟨0, Nat.zero_le _, rfl, b0, rfl, by omega, Lib.hid rfl⟩
    case round =>
      obtain ⟨j, hj, rfl, b, rfl, hb100, hb⟩ := hrel
      by_cases hjn : j < n
      · have hj8 : j < 8 := by omega
        have hun := un_tab U hU8 j hj8
        have hp := shl_lay j hj8
        have hor := ori_tab U hU8 j hj8
        rw [hp] at hor
        have hcj := hc2'.out j hjn
        have hbs := Lib.hid (show best (mostG cs lim n k i U) (List.range (j + 1)) b0 = (match mostG cs lim n k i U j with | some v => max b v | none => b) by
          rw [List.range_succ, best_snoc, ← hb.out]; rfl)
        have hle := mostU_le cs lim n k (i + 1) (U ||| 2 ^ j)
        have ihj' := Lib.hid (ihj.out j hjn)
        rw [show ((i + 1 : Nat) : Int) = (i : Int) + 1 by omega] at ihj'
        have hG := Lib.hid (show mostG cs lim n k i U j = if !U.testBit j && decide (costAt cs i j ≤ lim) then some (1 + mostU cs lim n k (i + 1) (U ||| 2 ^ j)) else none from rfl)
        obtain ⟨V, hV⟩ : ∃ V, V = mostU cs lim n k (i + 1) (U ||| 2 ^ j) := ⟨_, rfl⟩
        rw [← hV] at hle ihj' hG
        obtain ⟨x, hx⟩ : ∃ x, x = costAt cs i j := ⟨_, rfl⟩
        rw [← hx] at hcj hG
        obtain ⟨T, hT⟩ : ∃ T, T = U ||| 2 ^ j := ⟨_, rfl⟩
        rw [← hT] at hor ihj'
        obtain ⟨t, ht⟩ : ∃ t, t = U.testBit j := ⟨_, rfl⟩
        rw [← ht] at hun hG
        obtain ⟨P, hP⟩ : ∃ P, P = 2 ^ j := ⟨_, rfl⟩
        rw [← hP] at hp hor
        clear hV hx hT ht hP
        cases t with
        | true =>
          have hun' : (bits BinOp.and IntKind.i64 ((U : Int) / 2 ^ j) 1 == 0) = false := hun
          have hbs' := Lib.hid (show b = best (mostG cs lim n k i U) (List.range (j + 1)) b0 by rw [hbs.out, hG.out]; rfl)
          clear hun
          go_wp2_with fail
          go_round
          case rel => exact ⟨j + 1, by omega, by go_num, b, rfl, hb100, hbs'⟩
          case measure => simp [intOf]; omega
        | false =>
          have hun' : (bits BinOp.and IntKind.i64 ((U : Int) / 2 ^ j) 1 == 0) = true := hun
          clear hun
          by_cases hxl : x ≤ lim
          · have hbs' := Lib.hid (show max b (1 + V) = best (mostG cs lim n k i U) (List.range (j + 1)) b0 by rw [hbs.out, hG.out]; simp [hxl])
            go_wp2_with fail
            refine (ihj'.out).mono ?_
            rintro e w1 ⟨rfl, rfl⟩
            have hmx : max (b : Int) (1 + (V : Int)) = ((max b (1 + V) : Nat) : Int) := by omega
            have hmb : max b (1 + V) ≤ 100 := by omega
            obtain ⟨mm, hmm⟩ : ∃ mm, mm = max b (1 + V) := ⟨_, rfl⟩
            rw [← hmm] at hmx hmb hbs'
            clear hmm
            go_wp2_with fail
            go_round
            case rel => exact ⟨j + 1, by omega, by go_num, mm, rfl, hmb, hbs'⟩
            case measure => simp [intOf]; omega
          · have hbs' := Lib.hid (show b = best (mostG cs lim n k i U) (List.range (j + 1)) b0 by rw [hbs.out, hG.out]; simp [hxl])
            have hxl' : decide (x ≤ lim) = false := by simpa using hxl
            go_wp2_with fail
            go_round
            case rel => exact ⟨j + 1, by omega, by go_num, b, rfl, hb100, hbs'⟩
            case measure => simp [intOf]; omega
      · obtain rfl : n = j := by omega
        have hfin := Lib.hid (show mostU cs lim n (k + 1) i U = b by rw [hS.out, hb.out])
        go_wp2_with fail
        go_ret
        exact ⟨by rw [hfin.out]; rfl, rfl⟩
def mostR (cs : List (List Int)) (lim : Int) (n : Nat) : Nat := mostP (okR cs lim) n n 0 fun _ => false
theorem mostR38 {w : World} {v : Value} {cs : List (List Int)} {n : Nat} (lim : Int) (hv : Sq w v cs n) (hn8 : n ≤ 8) :
    Calls Try.prog 38 #[v, .int .i64 lim] w fun e w' => e = .returned (.int .i64 (mostR cs lim n : Nat)) ∧ w = w' := by
  have h := Lib.hid (most68 lim hv hn8 n 0 0 (by omega) (Nat.pow_pos (by decide)))
  rw [show mostU cs lim n n 0 0 = mostR cs lim n by unfold mostU mostR; congr 1; funext x; exact Nat.zero_testBit x] at h
  obtain ⟨ao, c, rfl⟩ := hv.val
  clear hv
  go_enter Try.func38, Try.ntmps38
  go_wp2_with fail
  refine (h.out).mono ?_
  rintro e w1 ⟨rfl, rfl⟩
  go_wp2_with fail
  go_ret
  exact ⟨rfl, rfl⟩
end Go.Proofs.Ytfobdlllghpelaa
