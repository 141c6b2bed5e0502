import Derived.Test.YtfobdlllghpelaaUs
import Derived.Test.YtfobdlllghpelaaZa
import Derived.BigQuiet
namespace Go.Proofs.Ytfobdlllghpelaa
open Go.RowKit Go.Shelf Pair
attribute [local go_sem] Oper.semAt_some

def cellM (xs : List Nat) (m k i j : Nat) : Int := if i * k + j < xs.length then ((xs.getD (i * k + j) 0 % (m + 1) : Nat) : Int) else 0
def rowM (xs : List Nat) (m k i q : Nat) : List Int := (List.range q).map (cellM xs m k i)
/-- What `made` returns. -/
def madeC (xs : List Nat) (m k p : Nat) : List (List Int) := (List.range p).map fun i => rowM xs m k i k
theorem rowM_succ (xs : List Nat) (m k i q : Nat) : rowM xs m k i (q + 1) = rowM xs m k i q ++ [cellM xs m k i q] := by simp [rowM, List.range_succ]
theorem madeC_succ (xs : List Nat) (m k p : Nat) : madeC xs m k (p + 1) = madeC xs m k p ++ [rowM xs m k p k] := by simp [madeC, List.range_succ]
theorem rowM_len (xs : List Nat) (m k i q : Nat) : (rowM xs m k i q).length = q := by simp [rowM]
theorem madeC_len (xs : List Nat) (m k p : Nat) : (madeC xs m k p).length = p := by simp [madeC]
def sizeM (a s : Nat) : Nat := a % s + 1

set_option maxHeartbeats 4000000 in
set_option maxRecDepth 100000 in
theorem made45 {w : World} {v : Value} {xs : List Nat} (hx : InNats .u16 65535 w v xs) (a s m : Nat) (ha : a ≤ 255) (hs : 1 ≤ s) (hs8 : s ≤ 8) (hm : m ≤ 1000) :
    Calls Try.prog 45 #[.int .u8 a, v, .int .i64 s, .int .i64 m] w fun e w' => ∃ v', e = .returned v' ∧ OwnG w' w.heap.size v' (madeC xs m (sizeM a s) (sizeM a s)) ∧ Below w.heap.size w w' := by
  obtain ⟨⟨ao, c, rfl, hc, hml, h1⟩, hb⟩ := hx
  obtain ⟨n, hn⟩ : ∃ n, n = xs.length := ⟨_, rfl⟩
  rw [← hn] at hc hml ⊢
  unfold maxLen at hml
  have hn' := Lib.hid hn
  have h1' := Lib.hid h1
  have hb' := Lib.hid hb
  have hk8 : sizeM a s ≤ 8 := by unfold sizeM; have := Nat.mod_lt a (show 0 < s by omega); omega
  have hrem : Int.tmod (a : Int) (s : Int) = ((a % s : Nat) : Int) := (Int.ofNat_tmod a s).symm
  have hk : ((a % s : Nat) : Int) + 1 = ((sizeM a s : Nat) : Int) := by unfold sizeM; omega
  have ham : a % s ≤ 255 := Nat.le_trans (Nat.mod_le a s) ha
  obtain ⟨k, hkq⟩ : ∃ k, k = sizeM a s := ⟨_, rfl⟩
  rw [← hkq] at hk8 hk ⊢
  obtain ⟨r, hr⟩ : ∃ r, r = a % s := ⟨_, rfl⟩
  rw [← hr] at hrem hk ham
  clear hn h1 hb hkq hr
  have hg0 := OwnG.lit w w.heap.size (Nat.le_refl _)
  have hb0 := below_alloc1 w (.cells #[] 24)
  go_enter Try.func45, Try.ntmps45
  go_wp2_with fail
  go_loopw [10, 11] (fun cv iv wr => ∃ i : Nat, i ≤ k ∧ iv = .int .i64 i ∧ Hid (OwnG wr w.heap.size cv (madeC xs m k i)) ∧ Hid (Below w.heap.size w wr)) (fun _ iv _ => k - (intOf iv).toNat)
  case atStart => exact ⟨0, Nat.zero_le _, rfl, Lib.hid hg0, Lib.hid hb0⟩
  case round =>
    clear hg0 hb0
    obtain ⟨i, hi, rfl, hown, hbw⟩ := hrel
    by_cases hik : i < k
    · have hlit := Lib.hid (Ints.lit wr wr.heap.size (Nat.le_refl _))
      have hbl := Lib.hid (below_alloc1 wr (.cells #[] 3))
      have hmul : (i : Int) * (k : Int) = ((i * k : Nat) : Int) := by rw [Int.natCast_mul]
      have hik64 : i * k ≤ 64 := by have := Nat.mul_le_mul (show i ≤ 8 by omega) hk8; omega
      obtain ⟨z, hz⟩ : ∃ z, z = i * k := ⟨_, rfl⟩
      rw [← hz] at hmul hik64
      have hz' := Lib.hid hz
      clear hz
      go_wp2_with fail
      go_loopw [12, 13] (fun rv jv wx => ∃ j : Nat, j ≤ k ∧ jv = .int .i64 j ∧ Hid (Ints wx wr.heap.size rv (rowM xs m k i j)) ∧ Hid (Below wr.heap.size wr wx)) (fun _ jv _ => k - (intOf jv).toNat)
      case atStart => exact ⟨0, Nat.zero_le _, rfl, hlit, hbl⟩
      case round =>
        clear hlit hbl
        obtain ⟨j, hj, rfl, hrow, hbx⟩ := hrel
        by_cases hjk : j < k
        · have hsn := Lib.hid (rowM_succ xs m k i j)
          have hcl := Lib.hid (show cellM xs m k i j = if z + j < n then ((xs.getD (z + j) 0 % (m + 1) : Nat) : Int) else 0 by rw [hz'.out, hn'.out]; rfl)
          have hrl := Lib.hid (show (rowM xs m k i j).length ≤ 1000000000 by rw [rowM_len]; omega)
          have hsz := Lib.hid (hbx.out.size)
          by_cases hzn : z + j < n
          · obtain ⟨g, o, rfl, hg, hc1⟩ := h1'.out (fun e => by have := hn'.out; rw [e] at this; simp at this; omega)
            have cc := ((below_call hbw.out hbx.out).cell (p := ⟨g, o + (z + j), none⟩) hg).trans (hc1 (z + j) (by rw [← hn'.out]; exact hzn))
            have hxb := hb'.out (z + j)
            have hsn2 := Lib.hid (show rowM xs m k i (j + 1) = rowM xs m k i j ++ [((xs.getD (z + j) 0 % (m + 1) : Nat) : Int)] by rw [hsn.out, hcl.out, if_pos hzn])
            obtain ⟨x, hxq⟩ : ∃ x, x = xs.getD (z + j) 0 := ⟨_, rfl⟩
            rw [← hxq] at cc hxb hsn2
            have hrm : Int.tmod (x : Int) ((m : Int) + 1) = ((x % (m + 1) : Nat) : Int) := by
              rw [show (m : Int) + 1 = ((m + 1 : Nat) : Int) by omega]; exact (Int.ofNat_tmod x (m + 1)).symm
            obtain ⟨y, hy⟩ : ∃ y, y = x % (m + 1) := ⟨_, rfl⟩
            rw [← hy] at hrm hsn2
            have hzj : (z : Int) + (j : Int) = ((z + j : Nat) : Int) := by omega
            obtain ⟨q, hq⟩ : ∃ q, q = z + j := ⟨_, rfl⟩
            rw [← hq] at cc hzj hzn
            have hq73 : q ≤ 72 := by omega
            clear hc1 hxq hy hsn hcl hq
            go_wp2_with (first | (at_builtin; refine app_int hrow.out hrl.out hsz.out rfl _ _ rfl rfl rfl ?_; intro v' w2 hown2 hb2))
            go_roundw
            case rel => exact ⟨j + 1, by omega, by go_num, Lib.hid (by rw [hsn2.out]; exact hown2), Lib.hid (hbx.out.trans hb2)⟩
            case measure => simp [intOf]; omega
          · have hsn2 := Lib.hid (show rowM xs m k i (j + 1) = rowM xs m k i j ++ [0] by rw [hsn.out, hcl.out, if_neg hzn])
            have hzj : (z : Int) + (j : Int) = ((z + j : Nat) : Int) := by omega
            obtain ⟨q, hq⟩ : ∃ q, q = z + j := ⟨_, rfl⟩
            rw [← hq] at hzj hzn
            have hq73 : q ≤ 72 := by omega
            clear hsn hcl hq
            go_wp2_with (first | (at_builtin; refine app_int hrow.out hrl.out hsz.out rfl _ _ rfl rfl rfl ?_; intro v' w2 hown2 hb2))
            go_roundw
            case rel => exact ⟨j + 1, by omega, by go_num, Lib.hid (by rw [hsn2.out]; exact hown2), Lib.hid (hbx.out.trans hb2)⟩
            case measure => simp [intOf]; omega
        · obtain rfl : k = j := by omega
          have hsn := Lib.hid (madeC_succ xs m k i)
          have hcl := Lib.hid (show (madeC xs m k i).length ≤ 1000000 by rw [madeC_len]; omega)
          have hown2 := Lib.hid (hown.out.below hbx.out)
          have hrow2 := Lib.hid (hrow.out.base (B' := w.heap.size) hbw.out.size)
          have hbw2 := Lib.hid (below_call hbw.out hbx.out)
          have hsz := Lib.hid hbw2.out.size
          obtain ⟨ra, rc, rfl, _⟩ := hrow.out.shape
          go_wp2_with (first | (at_builtin; refine app_row hown2.out hrow2.out hcl.out hsz.out rfl _ _ rfl rfl rfl ?_; intro v' w2 hown3 hb3 hkeep; clear hkeep))
          go_roundw
          case rel => exact ⟨i + 1, by omega, by go_num, Lib.hid (by rw [hsn.out]; exact hown3), Lib.hid (hbw2.out.trans hb3)⟩
          case measure => simp [intOf]; omega
    · obtain rfl : k = i := by omega
      go_wp2_with fail
      go_ret
      exact ⟨_, rfl, hown.out, hbw.out⟩

theorem made_at {xs : List Nat} {m k i j : Nat} (hi : i < k) (hj : j < k) : costAt (madeC xs m k k) i j = cellM xs m k i j := by
  unfold costAt madeC
  rw [show ((List.range k).map fun i => rowM xs m k i k).getD i [] = rowM xs m k i k by simp [List.getD_eq_getElem?_getD, hi]]
  unfold rowM
  simp [List.getD_eq_getElem?_getD, hj]
theorem cellM_bd (xs : List Nat) (m k i j : Nat) : 0 ≤ cellM xs m k i j ∧ cellM xs m k i j ≤ (m : Int) := by
  unfold cellM
  split
  · have := Nat.mod_lt (xs.getD (i * k + j) 0) (show 0 < m + 1 by omega); omega
  · omega
theorem made_row_len {xs : List Nat} {m k i : Nat} (hi : i < k) : ((madeC xs m k k).getD i []).length = k := by
  unfold madeC
  rw [show ((List.range k).map fun i => rowM xs m k i k).getD i [] = rowM xs m k i k by simp [List.getD_eq_getElem?_getD, hi], rowM_len]
theorem made_good {xs : List Nat} {m k : Nat} (h1 : 1 ≤ k) (h8 : k ≤ 8) (hm : m ≤ 1000) : Good (madeC xs m k k) k where
  len := madeC_len ..
  row := fun i hi => made_row_len hi
  one := h1
  eight := h8
  bd := fun i j hi hj => by
    rw [made_at hi hj]
    have := cellM_bd xs m k i j
    omega
theorem made_valid {xs : List Nat} {m k : Nat} (h1 : 1 ≤ k) (h8 : k ≤ 8) (hm : m ≤ 1000) : validC (madeC xs m k k) = true := by
  unfold validC
  rw [madeC_len]
  simp only [Bool.and_eq_true, decide_eq_true_eq]
  refine ⟨⟨h1, h8⟩, ?_⟩
  unfold rowsOk
  rw [List.all_eq_true]
  intro r hr
  obtain ⟨i, hi, rfl⟩ := List.mem_map.1 hr
  simp only [Bool.and_eq_true, decide_eq_true_eq]
  refine ⟨rowM_len .., ?_⟩
  unfold entOk
  rw [List.all_eq_true]
  intro x hx
  obtain ⟨j, hj, rfl⟩ := List.mem_map.1 hx
  have := cellM_bd xs m k i j
  simp only [Bool.and_eq_true, decide_eq_true_eq]
  omega
theorem made_cst {w : World} {B : Nat} {v : Value} {xs : List Nat} {m k : Nat} (h8 : k ≤ 8) (h : OwnG w B v (madeC xs m k k)) : Cst w v (madeC xs m k k) :=
  ⟨h.shape, by rw [madeC_len]; omega, fun j hj => by rw [madeC_len] at hj; rw [made_row_len hj]; omega⟩
end Go.Proofs.Ytfobdlllghpelaa
