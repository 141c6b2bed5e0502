import Derived.Test.YtpcjigdmfchbdaaDoorH
namespace Go.Proofs.YtpcjigdmfchbdaaDoor
open Go.RowKit Go.Shelf Cl

def dfdK (L : Atts) (S k : Nat) : Nat := (List.range k).foldl (fun m c => if hit L S ||| ag L c == hit L S then m ||| 2 ^ c else m) 0
theorem dfdK_all (n : Nat) (L : Atts) (S : Nat) : dfdK L S n = dfd n L S := rfl
theorem dfdK_succ (L : Atts) (S k : Nat) : dfdK L S (k + 1) = if hit L S ||| ag L k == hit L S then dfdK L S k ||| 2 ^ k else dfdK L S k := by
  unfold dfdK
  rw [List.range_succ, List.foldl_append]; rfl
theorem dfdK_lt (L : Atts) (S k : Nat) (hk : k ≤ 12) : dfdK L S k < 4096 := lt12 hk (dfd_lt k L S)
theorem or_pow {M k : Nat} (hM : M < 4096) (hk : k < 12) : bits BinOp.or IntKind.u64 (M : Int) (IntKind.u64.wrap (2 ^ k)) = ((M ||| 2 ^ k : Nat) : Int) := by
  rw [sh_one k (by omega)]
  exact or_any hM (Nat.pow_lt_pow_right (a := 2) (m := k) (n := 12) (by decide) hk)
set_option maxRecDepth 100000 in
set_option maxHeartbeats 1000000 in
theorem defended51 {w : World} (hT : Tab w) {n : Nat} {L : Atts} (hD : OkD n L) {S : Nat} (hS : S < 4096) :
    Calls Tryd.prog 51 #[.agg (csD n L), .int .u64 (S : Int)] w (NumEnd w (dfd n L S)) := by
  have hb1 := below_alloc1 w (.cells (csD n L) 74)
  have hu := Lib.hid (attacked59 (hT.call hb1) hD hS)
  have hb1' := Lib.hid hb1
  have hd0 := Lib.hid (DAt.new w n L 74)
  have hD' := Lib.hid hD
  have hnn := hD.nn
  clear hT hD hb1
  obtain ⟨H, hH⟩ : ∃ H, H = hit L S := ⟨_, rfl⟩
  have hH' := Lib.hid hH
  have hHlt := hD'.out.hlt S
  rw [← hH] at hu hHlt
  clear hH
  go_enter Tryd.func51, Tryd.ntmps51
  go_wp2_with (first | (refine wl74 rfl _ rfl rfl hd0.out ?_) | (go_at_call 59; refine (hu.out).mono ?_; rintro e w1 ⟨rfl, hb⟩; have hb' := Lib.hid hb; have hd1 := Lib.hid (hd0.out.below hb); have c0 := hd1.out.c0; clear hb))
  go_loop [6, 13] (fun m p => ∃ k : Nat, k ≤ n ∧ p = .int .i64 (k : Int) ∧ m = .int .u64 (dfdK L S k : Int)) (fun _ p => n - (intOf p).toNat)
  case atStart => exact ⟨0, Nat.zero_le _, rfl, rfl⟩
  case round =>
    obtain ⟨k, hk, rfl, rfl⟩ := hrel
    by_cases hlt : k < n
    · have cx := hd1.out.ca (i := k) (by omega)
      have hax := hD'.out.alt k
      have hcon := Lib.hid (fun (W : World) => contains66 (w := W) hHlt hax)
      have hor := or_pow (dfdK_lt L S k (by omega)) (show k < 12 by omega)
      have hnx := Lib.hid (dfdK_succ L S k)
      rw [← hH'.out] at hnx
      have hk12 : (k : Int) < 12 := by omega
      generalize ag L k = A at cx hcon hnx hax
      generalize dfdK L S k = M at hor hnx
      by_cases hc : (H ||| A == H) = true
      · have hfin := Lib.hid (show dfdK L S (k + 1) = M ||| 2 ^ k by rw [hnx.out, if_pos hc])
        rw [hc] at hcon
        clear hc hnx
        go_wp2_with (first | (go_at_call 66; refine (hcon.out _).mono ?_; rintro e w2 ⟨rfl, rfl⟩))
        go_round
        case rel => exact ⟨k + 1, by omega, by go_num, by rw [hfin.out]⟩
        case measure => simp [intOf]; omega
      · have hc : (H ||| A == H) = false := by simpa using hc
        have hfin := Lib.hid (show dfdK L S (k + 1) = M by rw [hnx.out, hc]; rfl)
        rw [hc] at hcon
        clear hc hnx hor
        go_wp2_with (first | (go_at_call 66; refine (hcon.out _).mono ?_; rintro e w2 ⟨rfl, rfl⟩))
        go_round
        case rel => exact ⟨k + 1, by omega, by go_num, by rw [hfin.out]⟩
        case measure => simp [intOf]; omega
    · obtain rfl : k = n := by omega
      go_wp2
      go_ret
      exact ⟨rfl, below_call hb1'.out hb'.out⟩
end Go.Proofs.YtpcjigdmfchbdaaDoor
