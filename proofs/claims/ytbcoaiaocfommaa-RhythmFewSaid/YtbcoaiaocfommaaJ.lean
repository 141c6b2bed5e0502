import Derived.Test.YtbcoaiaocfommaaF
namespace Go.Proofs.Ytbcoaiaocfommaa
open Go.RowKit

/-! ## rotations -/
def rotL (l : List UInt8) (i : Nat) : List UInt8 := l.drop i ++ l.take i
def lessL (a b : List UInt8) : Bool := Op.bytesLess a b
def turnTo (l : List UInt8) : Nat → Nat
  | 0 => 0
  | k + 1 => if lessL (rotL l k) (rotL l (turnTo l k)) then k else turnTo l k
theorem turnTo_yes {l : List UInt8} {k : Nat} (h : lessL (rotL l k) (rotL l (turnTo l k)) = true) : turnTo l (k + 1) = k := by rw [turnTo, if_pos h]
theorem turnTo_no {l : List UInt8} {k : Nat} (h : lessL (rotL l k) (rotL l (turnTo l k)) = false) : turnTo l (k + 1) = turnTo l k := by rw [turnTo, if_neg (by simp [h])]
theorem turnTo_le (l : List UInt8) (k : Nat) : turnTo l k ≤ k - 1 := by
  induction k with
  | zero => simp [turnTo]
  | succ k ih => unfold turnTo; split <;> omega
theorem bytesLess_self (a : List UInt8) : Op.bytesLess a a = false := by
  induction a with
  | nil => rfl
  | cons x xs ih => simp [Op.bytesLess, ih]
theorem turnTo_one (l : List UInt8) : turnTo l 1 = 0 := by unfold turnTo; split <;> rfl

theorem rot_bytes (s : ByteArray) (i : Nat) : (⟨(rotL s.data.toList i).toArray⟩ : ByteArray) = s.extract i s.size ++ s.extract 0 i := by
  apply Go.WideShapes.bytes_inj
  simp only [ByteArray.data_append, Array.toList_append, Lib.extract_data]
  unfold rotL
  have e1 : List.take (s.size - i) (List.drop i s.data.toList) = List.drop i s.data.toList := List.take_of_length_le (by simp)
  rw [e1, List.drop_zero, Nat.sub_zero]
theorem rot_twice (s t : ByteArray) (ht : t = s ++ s) (k : Nat) (hk : k ≤ s.size) : (t.extract k (k + s.size)).toList = rotL s.data.toList k := by
  rw [Lib.extract_toList, ht]
  simp only [ByteArray.data_append, Array.toList_append]
  unfold rotL
  rw [show k + s.size - k = s.size from by omega, List.drop_append_of_le_length (by rw [size_len]; exact hk), List.take_append, List.take_of_length_le (by simp)]
  congr 1
  rw [List.length_drop, size_len, show s.size - (s.size - k) = k from by omega]
theorem less_twice (s t : ByteArray) (ht : t = s ++ s) (k f : Nat) (hk : k ≤ s.size) (hf : f ≤ s.size) :
    Op.bytesLess (t.extract k (k + s.size)).toList (t.extract f (f + s.size)).toList = lessL (rotL s.data.toList k) (rotL s.data.toList f) := by
  rw [rot_twice s t ht k hk, rot_twice s t ht f hf]; rfl

theorem rot54 (s : ByteArray) (i : Nat) (w : World) (hs : s.size ≤ 1000000) (hi : i ≤ s.size) :
    Calls Try.prog 54 #[.string s, .int .i64 i] w fun e w' => e = .returned (.string ⟨(rotL s.data.toList i).toArray⟩) ∧ Below w.heap.size w w' := by
  go_enter Try.func54, Try.ntmps54
  go_wp2
  go_quiet (fail)
  go_wp2
  go_ret
  exact ⟨by rw [rot_bytes]; rfl, below_drewN (Below.refl _ _) _⟩

set_option maxHeartbeats 1000000 in
set_option maxRecDepth 100000 in
theorem turn29 (s : ByteArray) (w : World) (hc : chk s = 0) :
    Calls Try.prog 29 #[.string s] w fun e w' => e = .returned (.tuple #[.int .i64 (turnTo s.data.toList s.size), .int .i64 0]) ∧ Below w.heap.size w w' := by
  obtain ⟨h1, h2, hg⟩ := chk_size hc
  have hs : s.size ≤ 1000000 := by omega
  have hc1 : (chk s != 0) = false := by simpa using hc
  have hm : s.size ≤ maxLen := by unfold maxLen; omega
  clear hg hc
  go_enter Try.func29, Try.ntmps29
  go_wp2_with (first | (go_at_call 55; refine (check55 _ _ hm).mono ?_; rintro e w1 ⟨rfl, rfl⟩))
  obtain ⟨t, ht⟩ : ∃ t, t = s ++ s := ⟨_, rfl⟩
  rw [← ht]
  have hts : s.size + s.size ≤ t.size := by rw [ht, ByteArray.size_append]; omega
  have hts2 : t.size ≤ 400 := by rw [ht, ByteArray.size_append]; omega
  have ht' := Lib.hid ht
  clear ht
  go_loopw [7, 8] (fun b i wr => ∃ k f : Nat, 1 ≤ k ∧ k ≤ s.size ∧ f < k ∧ i = .int .i64 (k : Int) ∧ b = .int .i64 (f : Int) ∧ Hid (f = turnTo s.data.toList k) ∧ Below w.heap.size w wr) (fun _ i _ => s.size + 1 - (intOf i).toNat)
  case atStart => exact ⟨1, 0, by omega, by omega, by omega, rfl, rfl, Lib.hid (turnTo_one _).symm, Below.refl _ _⟩
  case round =>
    obtain ⟨k, f, hk1, hk, hfk, rfl, rfl, hf, hb⟩ := hrel
    by_cases hlt : k < s.size
    · have hcmp := less_twice s t ht'.out k f (by omega) (by omega)
      have e1 : IntKind.i64.wrap ((k : Int) + (s.size : Int)) = (k : Int) + s.size := IntWalk.i64_in _ (by omega)
      have e2 : ((k : Int) + s.size).toNat = k + s.size := by omega
      have e3 : IntKind.i64.wrap ((f : Int) + (s.size : Int)) = (f : Int) + s.size := IntWalk.i64_in _ (by omega)
      have e4 : ((f : Int) + s.size).toNat = f + s.size := by omega
      have e5 : (k : Int) + s.size ≤ t.size := by omega
      have e6 : (f : Int) + s.size ≤ t.size := by omega
      have e7 : 0 ≤ (k : Int) + s.size := by omega
      have e8 : 0 ≤ (f : Int) + s.size := by omega
      by_cases hl : lessL (rotL s.data.toList k) (rotL s.data.toList f) = true
      · rw [hl] at hcmp
        have hl' := Lib.hid hl
        clear hl
        go_wp2
        go_quiet (fail)
        go_wp2
        go_roundw
        case rel => exact ⟨k + 1, k, by omega, by omega, by omega, by go_num, rfl, Lib.hid (turnTo_yes (by rw [← hf.out]; exact hl'.out)).symm, below_drewN hb _⟩
        case measure => simp [intOf]; omega
      · have hl1 : lessL (rotL s.data.toList k) (rotL s.data.toList f) = false := by simpa using hl
        rw [hl1] at hcmp
        have hl' := Lib.hid hl1
        clear hl hl1
        go_wp2
        go_quiet (fail)
        go_wp2
        go_roundw
        case rel => exact ⟨k + 1, f, by omega, by omega, by omega, by go_num, rfl, Lib.hid (by rw [turnTo_no (by rw [← hf.out]; exact hl'.out)]; exact hf.out), below_drewN hb _⟩
        case measure => simp [intOf]; omega
    · have hkl : s.size = k := by omega
      have hkl := Lib.hid hkl
      go_wp2
      go_ret2
      exact ⟨by rw [hkl.out, ← hf.out]; rfl, hb⟩

theorem turn29_bad (s : ByteArray) (w : World) (hs : s.size ≤ maxLen) (hc : chk s ≠ 0) :
    Calls Try.prog 29 #[.string s] w fun e w' => e = .returned (.tuple #[.int .i64 0, .int .i64 (chk s)]) ∧ Below w.heap.size w w' := by
  have hc1 : (chk s != 0) = true := by simpa using hc
  clear hc
  go_enter Try.func29, Try.ntmps29
  go_wp2_with (first | (go_at_call 55; refine (check55 _ _ hs).mono ?_; rintro e w1 ⟨rfl, rfl⟩))
  go_ret2
  exact ⟨rfl, Below.refl _ _⟩

set_option maxHeartbeats 1000000 in
set_option maxRecDepth 100000 in
theorem turn30 (s : ByteArray) (w : World) (h1 : 1 ≤ s.size) (hs : s.size ≤ 1000000) :
    Calls Try.prog 30 #[.string s] w fun e w' => e = .returned (.int .i64 (turnTo s.data.toList s.size)) ∧ Below w.heap.size w w' := by
  go_enter Try.func30, Try.ntmps30
  go_wp2_with fail
  go_loopw [3, 4] (fun b i wr => ∃ k f : Nat, 1 ≤ k ∧ k ≤ s.size ∧ f < k ∧ i = .int .i64 (k : Int) ∧ b = .int .i64 (f : Int) ∧ Hid (f = turnTo s.data.toList k) ∧ Below w.heap.size w wr) (fun _ i _ => s.size + 1 - (intOf i).toNat)
  case atStart => exact ⟨1, 0, by omega, by omega, by omega, rfl, rfl, Lib.hid (turnTo_one _).symm, Below.refl _ _⟩
  case round =>
    obtain ⟨k, f, hk1, hk, hfk, rfl, rfl, hf, hb⟩ := hrel
    by_cases hlt : k < s.size
    · have hcmp : Op.bytesLess (⟨(rotL s.data.toList k).toArray⟩ : ByteArray).toList (⟨(rotL s.data.toList f).toArray⟩ : ByteArray).toList = lessL (rotL s.data.toList k) (rotL s.data.toList f) := by rw [toList_data, toList_data]; rfl
      obtain ⟨x, hx⟩ : ∃ x : ByteArray, x = ⟨(rotL s.data.toList k).toArray⟩ := ⟨_, rfl⟩
      obtain ⟨y, hy⟩ : ∃ x : ByteArray, x = ⟨(rotL s.data.toList f).toArray⟩ := ⟨_, rfl⟩
      rw [← hx, ← hy] at hcmp
      have hx' := Lib.hid hx
      have hy' := Lib.hid hy
      clear hx hy
      by_cases hl : lessL (rotL s.data.toList k) (rotL s.data.toList f) = true
      · rw [hl] at hcmp
        have hl' := Lib.hid hl
        clear hl
        go_wp2_with fail
        refine (rot54 s k wr hs hk).mono ?_
        rw [← hx'.out]
        rintro e w1 ⟨rfl, hb1⟩
        go_wp2_with fail
        refine (rot54 s f w1 hs (by omega)).mono ?_
        rw [← hy'.out]
        rintro e w2 ⟨rfl, hb2⟩
        go_wp2_with fail
        go_roundw
        case rel => exact ⟨k + 1, k, by omega, by omega, by omega, by go_num, rfl, Lib.hid (turnTo_yes (by rw [← hf.out]; exact hl'.out)).symm, below_seq (below_seq hb hb1 (Nat.le_refl _)) hb2 (Nat.le_refl _)⟩
        case measure => simp [intOf]; omega
      · have hl1 : lessL (rotL s.data.toList k) (rotL s.data.toList f) = false := by simpa using hl
        rw [hl1] at hcmp
        have hl' := Lib.hid hl1
        clear hl hl1
        go_wp2_with fail
        refine (rot54 s k wr hs hk).mono ?_
        rw [← hx'.out]
        rintro e w1 ⟨rfl, hb1⟩
        go_wp2_with fail
        refine (rot54 s f w1 hs (by omega)).mono ?_
        rw [← hy'.out]
        rintro e w2 ⟨rfl, hb2⟩
        go_wp2_with fail
        go_roundw
        case rel => exact ⟨k + 1, f, by omega, by omega, by omega, by go_num, rfl, Lib.hid (by rw [turnTo_no (by rw [← hf.out]; exact hl'.out)]; exact hf.out), below_seq (below_seq hb hb1 (Nat.le_refl _)) hb2 (Nat.le_refl _)⟩
        case measure => simp [intOf]; omega
    · have hkl : s.size = k := by omega
      have hkl := Lib.hid hkl
      go_wp2
      go_ret
      exact ⟨by rw [hkl.out, ← hf.out]; rfl, hb⟩
end Go.Proofs.Ytbcoaiaocfommaa
