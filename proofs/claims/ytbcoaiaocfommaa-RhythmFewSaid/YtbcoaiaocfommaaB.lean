import Derived.Test.YtbcoaiaocfommaaA
namespace Go.Proofs.Ytbcoaiaocfommaa
open Go.RowKit

/-! ## periods -/
def perB (l : List UInt8) (p : Nat) : Bool := l.drop p == l.take (l.length - p)

theorem toList_data (s : ByteArray) : s.toList = s.data.toList := by
  have h1 := Lib.extract_toList s 0 s.size
  have e : s.extract 0 s.size = s := by simp
  rw [e] at h1
  rw [h1, List.drop_zero, List.take_of_length_le (by simp)]

theorem per_spell (s : ByteArray) (p : Nat) : ((s.extract p s.size).toList == (s.extract 0 (s.size - p)).toList) = perB s.data.toList p := by
  rw [Lib.extract_toList, Lib.extract_toList]
  unfold perB
  have : s.data.toList.length = s.size := by simp
  rw [List.take_of_length_le (by simp), List.drop_zero, this]; rfl

theorem ret_b {a b : Bool} (h : a = b) : Ending.returned (.bool a) = .returned (.bool b) := by rw [h]

theorem per_spell' (s : ByteArray) (p : Int) (h0 : 0 ≤ p) : ((s.extract p.toNat s.size).toList == (s.extract 0 ((s.size : Int) - p).toNat).toList) = perB s.data.toList p.toNat := by
  rw [← per_spell, show ((s.size : Int) - p).toNat = s.size - p.toNat from by omega]

theorem has56 (s : ByteArray) (p : Int) (w : World) (hs : s.size ≤ 1000000) (h0 : 0 ≤ p) (h1 : p ≤ s.size) :
    Calls Try.prog 56 #[.string s, .int .i64 p] w fun e w' => e = .returned (.bool (perB s.data.toList p.toNat)) ∧ Below w.heap.size w w' := by
  go_enter Try.func56, Try.ntmps56
  go_wp2
  go_quiet (fail)
  go_wp2
  go_ret
  exact ⟨ret_b (per_spell' s p h0), below_drewN (Below.refl _ _) _⟩

theorem per52 (s : ByteArray) (p : Int) (w : World) (hs : s.size ≤ 1000000) (h0 : 0 ≤ p) (h1 : p ≤ s.size) :
    Calls Try.prog 52 #[.string s, .int .i64 p] w fun e w' => e = .returned (.bool (perB s.data.toList p.toNat)) ∧ Below w.heap.size w w' := by
  go_enter Try.func52, Try.ntmps52
  go_wp2
  go_quiet (fail)
  go_wp2
  go_ret
  exact ⟨ret_b (BEq.comm.trans (per_spell' s p h0)), below_drewN (Below.refl _ _) _⟩

def pers (l : List UInt8) : Nat → List Int
  | 0 => []
  | k + 1 => if perB l (k + 1) then pers l k ++ [((k + 1 : Nat) : Int)] else pers l k
theorem pers_le (l : List UInt8) (k : Nat) : (pers l k).length ≤ k := by
  induction k with
  | zero => simp [pers]
  | succ k ih => 
    unfold pers; split
    · rw [List.length_append, List.length_singleton]; omega
    · omega
theorem pers_yes {l : List UInt8} {k : Nat} (h : perB l (k + 1) = true) : pers l (k + 1) = pers l k ++ [(k : Int) + 1] := by rw [pers, if_pos h]; rfl
theorem pers_no {l : List UInt8} {k : Nat} (h : perB l (k + 1) = false) : pers l (k + 1) = pers l k := by rw [pers, if_neg (by simp [h])]

/-- What a function that makes a list of ints returns. -/
def Made (w : World) (xs : List Int) (e : Ending) (w' : World) : Prop := ∃ v, e = .returned v ∧ Ints w' w.heap.size v xs ∧ Below w.heap.size w w'
def MadeE (w : World) (xs : List Int) (err : Int) (e : Ending) (w' : World) : Prop := ∃ v, e = .returned (.tuple #[v, .int .i64 err]) ∧ Ints w' w.heap.size v xs ∧ Below w.heap.size w w'

/-- The empty literal. -/
theorem Ints.lit (w : World) (B : Nat) (hB : B ≤ w.heap.size) : Ints (w.alloc (.cells #[] 3)) B (.slice (some ⟨w.heap.size, 0, none⟩) 0 0) [] :=
  World.ownsRow_made w #[] 0 hB (by unfold maxLen; omega) (by simp)

set_option maxHeartbeats 1000000 in
set_option maxRecDepth 100000 in
theorem periods26 (s : ByteArray) (w : World) (hs : s.size ≤ 1000000) :
    Calls Try.prog 26 #[.string s] w (Made w (pers s.data.toList s.size)) := by
  go_enter Try.func26, Try.ntmps26
  go_wp2_with fail
  go_loopw [3, 4] (fun v i wr => ∃ k : Nat, k ≤ s.size ∧ i = .int .i64 ((k : Int) + 1) ∧ Ints wr w.heap.size v (pers s.data.toList k) ∧ Below w.heap.size w wr) (fun _ i _ => s.size + 1 - (intOf i).toNat)
  case atStart => exact ⟨0, Nat.zero_le _, rfl, Ints.lit _ _ (Nat.le_refl _), (Below.refl _ _).alloc (Nat.le_refl _) _⟩
  case round =>
    obtain ⟨k, hk, rfl, hown, hb⟩ := hrel
    by_cases hlt : k < s.size
    · have hlen := pers_le s.data.toList k
      have hsz := hb.size
      by_cases hp : perB s.data.toList (k + 1) = true
      · have hp2 := Lib.hid hp
        have hp3 : perB s.data.toList ((k : Int) + 1).toNat = true := hp
        go_wp2_with (first | (go_at_call 52; refine (per52 _ _ _ hs (by omega) (by omega)).mono ?_; rintro e w1 ⟨rfl, hb1⟩) | (at_builtin; refine app_int (hown.below hb1) (by omega) (by have := hb1.size; omega) rfl _ _ rfl rfl rfl ?_; intro v' w2 hown2 hb2))
        go_roundw
        case rel => exact ⟨k + 1, by omega, by go_num, by rw [pers_yes hp2.out]; exact hown2, (below_seq hb hb1 (Nat.le_refl _)).trans hb2⟩
        case measure => simp [intOf]; omega
      · have hp1 : perB s.data.toList (k + 1) = false := by simpa using hp
        have hp3 : perB s.data.toList ((k : Int) + 1).toNat = false := hp1
        have hp2 := Lib.hid hp1
        clear hp
        go_wp2_with (first | (go_at_call 52; refine (per52 _ _ _ hs (by omega) (by omega)).mono ?_; rintro e w1 ⟨rfl, hb1⟩))
        go_roundw
        case rel => exact ⟨k + 1, by omega, by go_num, by rw [pers_no hp2.out]; exact hown.below hb1, (below_seq hb hb1 (Nat.le_refl _))⟩
        case measure => simp [intOf]; omega
    · have hkl : s.size = k := by omega
      have hkl := Lib.hid hkl
      go_wp2
      go_ret
      exact ⟨_, rfl, by rw [hkl.out]; exact hown, hb⟩

theorem chk_size {s : ByteArray} (h : chk s = 0) : 1 ≤ s.size ∧ s.size ≤ 200 ∧ goodL s.data.toList = true := by
  unfold chk at h
  split at h
  · omega
  · split at h
    · omega
    · split at h
      · exact ⟨by omega, by omega, by assumption⟩
      · omega

theorem periods22_bad (s : ByteArray) (w : World) (hs : s.size ≤ maxLen) (hc : chk s ≠ 0) :
    Calls Try.prog 22 #[.string s] w (MadeE w [] (chk s)) := by
  have hc1 : (chk s != 0) = true := by simpa using hc
  clear hc
  go_enter Try.func22, Try.ntmps22
  go_wp2_with (first | (go_at_call 55; refine (check55 _ _ hs).mono ?_; rintro e w1 ⟨rfl, rfl⟩))
  go_ret2
  exact ⟨_, rfl, Ints.nil _ _, Below.refl _ _⟩

set_option maxHeartbeats 1000000 in
set_option maxRecDepth 100000 in
theorem periods22 (s : ByteArray) (w : World) (hc : chk s = 0) :
    Calls Try.prog 22 #[.string s] w (MadeE w (pers s.data.toList s.size) 0) := by
  obtain ⟨h1, h2, hg⟩ := chk_size hc
  have hs : s.size ≤ 1000000 := by omega
  have hc1 : (chk s != 0) = false := by simpa using hc
  have hm : s.size ≤ maxLen := by unfold maxLen; omega
  clear hg hc
  go_enter Try.func22, Try.ntmps22
  go_wp2_with (first | (go_at_call 55; refine (check55 _ _ hm).mono ?_; rintro e w1 ⟨rfl, rfl⟩))
  go_loopw [5, 6] (fun v i wr => ∃ k : Nat, k ≤ s.size ∧ i = .int .i64 ((k : Int) + 1) ∧ Ints wr w.heap.size v (pers s.data.toList k) ∧ Below w.heap.size w wr) (fun _ i _ => s.size + 1 - (intOf i).toNat)
  case atStart => exact ⟨0, Nat.zero_le _, rfl, Ints.nil _ _, Below.refl _ _⟩
  case round =>
    obtain ⟨k, hk, rfl, hown, hb⟩ := hrel
    by_cases hlt : k < s.size
    · have hlen := pers_le s.data.toList k
      have hsz := hb.size
      by_cases hp : perB s.data.toList (k + 1) = true
      · have hp2 := Lib.hid hp
        have hp3 : perB s.data.toList ((k : Int) + 1).toNat = true := hp
        go_wp2_with (first | (go_at_call 56; refine (has56 _ _ _ hs (by omega) (by omega)).mono ?_; rintro e w1 ⟨rfl, hb1⟩) | (at_builtin; refine app_int (hown.below hb1) (by omega) (by have := hb1.size; omega) rfl _ _ rfl rfl rfl ?_; intro v' w2 hown2 hb2))
        go_roundw
        case rel => exact ⟨k + 1, by omega, by go_num, by rw [pers_yes hp2.out]; exact hown2, (below_seq hb hb1 (Nat.le_refl _)).trans hb2⟩
        case measure => simp [intOf]; omega
      · have hp1 : perB s.data.toList (k + 1) = false := by simpa using hp
        have hp3 : perB s.data.toList ((k : Int) + 1).toNat = false := hp1
        have hp2 := Lib.hid hp1
        clear hp
        go_wp2_with (first | (go_at_call 56; refine (has56 _ _ _ hs (by omega) (by omega)).mono ?_; rintro e w1 ⟨rfl, hb1⟩))
        go_roundw
        case rel => exact ⟨k + 1, by omega, by go_num, by rw [pers_no hp2.out]; exact hown.below hb1, (below_seq hb hb1 (Nat.le_refl _))⟩
        case measure => simp [intOf]; omega
    · have hkl : s.size = k := by omega
      have hkl := Lib.hid hkl
      go_wp2
      go_ret2
      exact ⟨_, rfl, by rw [hkl.out]; exact hown, hb⟩

/-! ## Same -/
/-- `v` reads as the ints `xs`. -/
def Reads (w : World) (v : Value) (xs : List Int) : Prop := ∃ ao c, v = .slice ao xs.length c ∧ (xs ≠ [] → ∃ g, ao = some ⟨g, 0, none⟩ ∧ g < w.heap.size ∧ (∀ j, w.frozen? ⟨g, j, none⟩ = false) ∧ ∀ j, j < xs.length → w.cell? ⟨g, j, none⟩ = some (.int .i64 (xs.getD j 0)))
theorem Reads.below {w w' : World} {v : Value} {xs : List Int} (h : Reads w v xs) (hb : Below w.heap.size w w') : Reads w' v xs := by
  obtain ⟨ao, c, rfl, h⟩ := h
  refine ⟨ao, c, rfl, fun hne => ?_⟩
  obtain ⟨g, rfl, hg, hf, hc⟩ := h hne
  exact ⟨g, rfl, Nat.lt_of_lt_of_le hg hb.size, fun j => (hb.frozen (p := ⟨g, j, none⟩) hg).trans (hf j), fun j hj => (hb.cell (p := ⟨g, j, none⟩) hg).trans (hc j hj)⟩
theorem Ints.shape {w : World} {B : Nat} {v : Value} {xs : List Int} (h : Ints w B v xs) : Reads w v xs := by
  have hh := h
  rcases h.2 with ⟨rfl, h0⟩ | ⟨g, cap, cur, rfl, hB, hg, _⟩
  · refine ⟨none, 0, by rw [h0], fun hne => absurd (List.length_eq_zero_iff.1 h0) hne⟩
  · refine ⟨_, cap, rfl, fun _ => ⟨g, rfl, (Array.getElem?_eq_some_iff.1 hg).1, fun j => hh.frozenAt j, fun j hj => ?_⟩⟩
    rw [hh.cellAt j (by omega)]
    simp [List.getD_eq_getElem?_getD, hj]

def sameL (a b : List Int) : Bool := a == b

theorem sameL_len {a b : List Int} (h : a.length ≠ b.length) : false = sameL a b := by
  unfold sameL; symm; rw [beq_eq_false_iff_ne]; intro e; exact h (by rw [e])
theorem sameL_at {a b : List Int} (k : Nat) (h : (a.getD k 0) ≠ b.getD k 0) : false = sameL a b := by
  unfold sameL; symm; rw [beq_eq_false_iff_ne]; intro e; exact h (by rw [e])
theorem sameL_all {a b : List Int} (h : a.length = b.length) (k : Nat) (hk : a.length ≤ k) (hj : ∀ j, j < k → a.getD j 0 = b.getD j 0) : true = sameL a b := by
  unfold sameL; symm; rw [beq_iff_eq]
  refine List.ext_getElem h fun i h1 h2 => ?_
  have := hj i (by omega)
  simpa [List.getD_eq_getElem?_getD, h1, h2] using this

set_option maxRecDepth 100000 in
theorem same25 {w : World} {u v : Value} {xs ys : List Int} (hu : Reads w u xs) (hv : Reads w v ys) (hl : xs.length ≤ 1000000) :
    Calls Try.prog 25 #[u, v] w fun e w' => e = .returned (.bool (sameL xs ys)) ∧ Below w.heap.size w w' := by
  obtain ⟨ao, c, rfl, h1⟩ := hu
  obtain ⟨bo, d, rfl, h2⟩ := hv
  obtain ⟨n, hn⟩ : ∃ n, n = xs.length := ⟨_, rfl⟩
  obtain ⟨m, hm⟩ : ∃ n, n = ys.length := ⟨_, rfl⟩
  rw [← hn] at hl ⊢
  rw [← hm]
  by_cases hnm : n = m
  · by_cases h0 : n = 0
    · have hz : true = sameL xs ys := sameL_all (by omega) 0 (by omega) (fun j hj => by omega)
      have hz' := Lib.hid hz
      clear hz h1 h2 hn
      subst hnm
      subst h0
      clear hm
      go_enter Try.func25, Try.ntmps25
      go_wp2
      refine wp_loop_rounds 1 ?_
      rw [rounds_succ]
      go_wp2
      go_ret
      exact ⟨ret_b hz'.out, Below.refl _ _⟩
    · obtain ⟨g, rfl, hg, _, hc1⟩ := h1 (fun e => by simp [e] at hn; omega)
      obtain ⟨f, rfl, hf, _, hc2⟩ := h2 (fun e => by simp [e] at hm; omega)
      clear h1 h2
      subst hnm
      have hn' := Lib.hid hn
      have hm' := Lib.hid hm
      rw [← hn] at hc1
      rw [← hm] at hc2
      clear hn hm
      go_enter Try.func25, Try.ntmps25
      go_wp2
      go_loopw [5] (fun i wr => ∃ k : Nat, k ≤ n ∧ i = .int .i64 k ∧ Hid (∀ j, j < k → xs.getD j 0 = ys.getD j 0) ∧ Below w.heap.size w wr) (fun i _ => n - (intOf i).toNat)
      case atStart => exact ⟨0, Nat.zero_le _, rfl, Lib.hid (fun j hj => by omega), Below.refl _ _⟩
      case round =>
        obtain ⟨k, hk, rfl, hj, hb⟩ := hrel
        by_cases hlt : k < n
        · have c1 : wr.cell? ⟨g, k, none⟩ = some (.int .i64 (xs.getD k 0)) := (hb.cell hg).trans (hc1 k hlt)
          have c2 : wr.cell? ⟨f, k, none⟩ = some (.int .i64 (ys.getD k 0)) := (hb.cell hf).trans (hc2 k hlt)
          have hc1' := Lib.hid hc1
          have hc2' := Lib.hid hc2
          clear hc1 hc2
          obtain ⟨x, hx⟩ : ∃ x, x = xs.getD k 0 := ⟨_, rfl⟩
          obtain ⟨y, hy⟩ : ∃ x, x = ys.getD k 0 := ⟨_, rfl⟩
          rw [← hx] at c1
          rw [← hy] at c2
          have hx' := Lib.hid hx
          have hy' := Lib.hid hy
          clear hx hy
          by_cases hxy : x = y
          · have hxy' := Lib.hid hxy
            have ht : (x != y) = false := by simp [hxy]
            clear hxy
            go_wp2
            go_quiet (fail)
            go_wp2
            go_roundw
            case rel => exact ⟨k + 1, by omega, by go_num, Lib.hid (fun j hjk => by
              by_cases e : j = k
              · rw [e, ← hx'.out, ← hy'.out]; exact hxy'.out
              · exact hj.out j (by omega)), below_drewN hb _⟩
            case measure => simp [intOf]; omega
          · have hxy' := Lib.hid hxy
            have ht : (x != y) = true := by simp [hxy]
            clear hxy
            go_wp2
            go_quiet (fail)
            go_wp2
            go_ret
            exact ⟨ret_b (sameL_at k (by rw [← hx'.out, ← hy'.out]; exact hxy'.out)), below_drewN hb _⟩
        · go_wp2
          go_ret
          exact ⟨ret_b (sameL_all (by rw [← hn'.out, ← hm'.out]) k (by rw [← hn'.out]; omega) hj.out), hb⟩
  · have ht : ((n : Int) != (m : Int)) = true := by simp; omega
    have hz : false = sameL xs ys := sameL_len (by omega)
    have hz' := Lib.hid hz
    clear hz h1 h2 hn hm
    have hnm' := Lib.hid hnm
    clear hnm
    go_enter Try.func25, Try.ntmps25
    go_wp2
    go_ret
    exact ⟨ret_b hz'.out, Below.refl _ _⟩
end Go.Proofs.Ytbcoaiaocfommaa
