import Derived.Test.YtpcjigdmfchbdaaDoorZl
namespace Go.Proofs.YtpcjigdmfchbdaaDoor
open Go.RowKit Go.Shelf Cl

set_option maxRecDepth 100000 in
set_option maxHeartbeats 1000000 in
theorem sets55i {w : World} {n : Nat} {L : Atts} (hD : OkD n L) {q : Nat → Bool} {p1 p2 : Addr}
    (hk : ∀ (W : World) (S : Nat), S < 2 ^ n → Below w.heap.size w W → Calls Tryd.prog 65 #[.int .u64 (S : Int), .pointer (some p1), .pointer (some p2)] W (BoolEnd W (q S))) :
    Calls Tryd.prog 55 #[.agg (csD n L), .func (.func 65) #[] #[.pointer (some p1), .pointer (some p2)]] w (SetsEnd w (sets n q)) := by
  have hb1 := Lib.hid (below_alloc1 w (.cells (csD n L) 74))
  have hd0 := Lib.hid (DAt.new w n L 74)
  have hk' := Lib.hid hk
  have hN : 2 ^ n ≤ 4096 := pow12 hD.nn
  have hN1 : 1 ≤ 2 ^ n := Nat.two_pow_pos n
  have hal := Lib.hid (fun (W : World) => show Calls Tryd.prog 64 #[.agg (csD n L)] W (fun e w' => e = .returned (.int .u64 (((2 ^ n : Nat) : Int) - 1)) ∧ Below W.heap.size W w') from (all64 (w := W) hD).mono (by rintro e w' ⟨rfl, hb⟩; exact ⟨ret_i (by omega), hb⟩))
  have hset : sets n q = (List.range (2 ^ n)).filter q := rfl
  rw [hset]
  clear hD hk hset
  obtain ⟨N, hNq⟩ : ∃ N, N = 2 ^ n := ⟨_, rfl⟩
  rw [← hNq] at hN hN1 hal hk' ⊢
  clear hNq
  go_enter Tryd.func55, Tryd.ntmps55
  go_wp2_with (first
    | (refine wl74 rfl _ rfl rfl hd0.out ?_)
    | (go_at_call 64; refine (hal.out _).mono ?_; rintro e w1 ⟨rfl, hb⟩; have hb' := Lib.hid (below_call hb1.out hb); clear hb))
  go_loopw [5, 10] (fun v p wr => ∃ k : Nat, k ≤ N ∧ p = .int .u64 (k : Int) ∧ Hid (OwnU wr w.heap.size v ((List.range k).filter q)) ∧ Hid (Below w.heap.size w wr)) (fun _ p _ => N - (intOf p).toNat)
  case atStart => exact ⟨0, Nat.zero_le _, rfl, Lib.hid (OwnU.nil _ _), hb'⟩
  case round =>
    obtain ⟨k, hk, rfl, ho, hb⟩ := hrel
    by_cases hlt : k < N
    · have hc := Lib.hid (hk'.out wr k hlt hb.out)
      have hle := filter_range_le q k
      have hnx := Lib.hid (range_filter q k)
      cases hq : q k
      · rw [hq] at hc
        have hfin := Lib.hid (show (List.range (k + 1)).filter q = (List.range k).filter q by rw [hnx.out, hq]; simp)
        clear hq hnx hle
        go_wp2_with (first
          | (go_at_call 65; refine (hc.out).mono ?_; rintro e w2 ⟨rfl, hb2⟩; have hb2' := Lib.hid hb2; clear hb2))
        go_roundw
        case rel => exact ⟨k + 1, by omega, by go_num, Lib.hid (by rw [hfin.out]; exact ho.out.below hb2'.out), Lib.hid (below_call hb.out hb2'.out)⟩
        case measure => simp [intOf]; omega
      · rw [hq] at hc
        have hfin := Lib.hid (show (List.range (k + 1)).filter q = (List.range k).filter q ++ [k] by rw [hnx.out, hq]; simp)
        clear hq hnx
        have hle' := Lib.hid hle
        clear hle
        go_wp2_with (first
          | (go_at_call 65; refine (hc.out).mono ?_; rintro e w2 ⟨rfl, hb2⟩; have hb2' := Lib.hid hb2; clear hb2)
          | (at_builtin; refine app_set (ho.out.below hb2'.out) (by have := hle'.out; omega) (Nat.le_trans hb.out.size hb2'.out.size) rfl _ _ rfl rfl rfl ?_; intro v' w3 h1 h2 _ _ _; have h1q := Lib.hid h1; have h2q := Lib.hid h2; clear h1 h2))
        go_roundw
        case rel => exact ⟨k + 1, by omega, by go_num, Lib.hid (by rw [hfin.out]; exact h1q.out), Lib.hid ((below_call hb.out hb2'.out).trans h2q.out)⟩
        case measure => simp [intOf]; omega
    · obtain rfl : k = N := by omega
      go_wp2
      go_ret
      exact ⟨_, rfl, ho.out, hb.out⟩

set_option maxRecDepth 100000 in
set_option maxHeartbeats 1000000 in
theorem ideal65 {w : World} (hT : Tab w) {n : Nat} {L : Atts} (hD : OkD n L) {S C b6 b8 : Nat} (hS : S < 4096) (hC : C < 4096) (h8 : w.cell? ⟨b8, 0, none⟩ = some (.int .u64 (C : Int))) (h6 : DAt w b6 n L) :
    Calls Tryd.prog 65 #[.int .u64 (S : Int), .pointer (some ⟨b8, 0, none⟩), .pointer (some ⟨b6, 0, none⟩)] w (BoolEnd w ((C ||| S == C) && admB n L S)) := by
  have hc := Lib.hid (fun (W : World) => contains66 (w := W) hC hS)
  have ha := Lib.hid (admissible67 hT hD hS)
  have hd := Lib.hid h6
  clear hT hD h6
  generalize (C ||| S == C) = X at hc ⊢
  generalize admB n L S = Y at ha ⊢
  cases X
  · clear ha
    go_enter Tryd.func65, Tryd.ntmps65
    go_wp2_with (first
      | (go_at_call 66; refine (hc.out _).mono ?_; rintro e w1 ⟨rfl, rfl⟩))
    go_ret
    exact ⟨rfl, Below.refl _ _⟩
  · go_enter Tryd.func65, Tryd.ntmps65
    go_wp2_with (first
      | (go_at_call 66; refine (hc.out _).mono ?_; rintro e w1 ⟨rfl, rfl⟩)
      | (refine wl74 rfl _ rfl rfl hd.out ?_)
      | (go_at_call 67; refine (ha.out).mono ?_; rintro e w2 ⟨rfl, hb⟩; have hb2 := Lib.hid hb; clear hb))
    go_ret
    exact ⟨rfl, hb2.out⟩
theorem take_max {xs : List Nat} {k : Nat} (h : k < xs.length) : xs.take (k + 1) = xs.take k ++ [xs.getD k 0] := by
  rw [List.take_succ_eq_append_getElem h, List.getD_eq_getElem?_getD, List.getElem?_eq_getElem h]; rfl
set_option maxRecDepth 100000 in
set_option maxHeartbeats 1000000 in
theorem max68 {w : World} {B : Nat} {v : Value} {xs : List Nat} {M : Nat} (hx : OwnU w B v xs) (hM : M ∈ xs) (hmax : ∀ x ∈ xs, x ≤ M) (hl : xs.length ≤ 4096) :
    Calls Tryd.prog 68 #[v] w fun e w' => e = .returned (.int .u64 (M : Int)) ∧ w' = w := by
  have hne : xs ≠ [] := List.ne_nil_of_mem hM
  obtain ⟨g, cap, rfl, _, hg, hcell⟩ := hx.parts hne
  obtain ⟨N, hN⟩ : ∃ N, N = xs.length := ⟨_, rfl⟩
  have hN1 : 1 ≤ N := by rw [hN]; exact List.length_pos_of_mem hM
  have hN' := Lib.hid hN
  rw [← hN] at hl ⊢
  have hcell' := Lib.hid hcell
  have c0 := hcell 0 (by omega)
  have hM' := Lib.hid hM
  have hx' := Lib.hid hmax
  have h0 := Lib.hid (show xs.getD 0 0 ∈ xs.take 1 ∧ ∀ x ∈ xs.take 1, x ≤ xs.getD 0 0 from by
    rw [take_max (k := 0) (by omega)]
    exact ⟨by simp, fun x hx => by simp only [List.take_zero, List.nil_append, List.mem_singleton] at hx; omega⟩)
  clear hcell hx hM hmax hne hN
  generalize xs.getD 0 0 = y at c0 h0
  have hlt1 : ¬ (N : Int) < 1 := by omega
  have hgt0 : (0 : Int) < N := by omega
  go_enter Tryd.func68, Tryd.ntmps68
  go_wp2
  go_loop [3, 4] (fun m p => ∃ k cur : Nat, 1 ≤ k ∧ k ≤ N ∧ p = .int .i64 (k : Int) ∧ m = .int .u64 (cur : Int) ∧ Hid (cur ∈ xs.take k ∧ ∀ x ∈ xs.take k, x ≤ cur)) (fun _ p => N - (intOf p).toNat)
  case atStart => exact ⟨1, y, Nat.le_refl _, hN1, rfl, rfl, h0⟩
  case round =>
    obtain ⟨k, cur, hk1, hk, rfl, rfl, hc⟩ := hrel
    by_cases hlt : k < N
    · have ck := hcell'.out k (by rw [← hN'.out]; exact hlt)
      have hsn := Lib.hid (take_max (xs := xs) (k := k) (by rw [← hN'.out]; exact hlt))
      generalize xs.getD k 0 = z at ck hsn
      have hi1 : (k : Int) < N := by omega
      rcases (show cur < z ∨ z < cur ∨ cur = z by omega) with h | h | h
      · have hI : (cur : Int) < z := by omega
        have hnx := Lib.hid (show z ∈ xs.take (k + 1) ∧ ∀ x ∈ xs.take (k + 1), x ≤ z from by
          rw [hsn.out]
          refine ⟨by simp, fun x hx => ?_⟩
          rcases List.mem_append.1 hx with h1 | h1
          · have := hc.out.2 x h1; omega
          · simp at h1; omega)
        go_wp2
        go_round
        case rel => exact ⟨k + 1, z, by omega, by omega, by go_num, by go_num, hnx⟩
        case measure => simp [intOf]; omega
      · have hI : (z : Int) < cur := by omega
        have hnx := Lib.hid (show cur ∈ xs.take (k + 1) ∧ ∀ x ∈ xs.take (k + 1), x ≤ cur from by
          rw [hsn.out]
          refine ⟨List.mem_append_left _ hc.out.1, fun x hx => ?_⟩
          rcases List.mem_append.1 hx with h1 | h1
          · exact hc.out.2 x h1
          · simp at h1; omega)
        go_wp2
        go_round
        case rel => exact ⟨k + 1, cur, by omega, by omega, by go_num, by go_num, hnx⟩
        case measure => simp [intOf]; omega
      · subst h
        have hnx := Lib.hid (show cur ∈ xs.take (k + 1) ∧ ∀ x ∈ xs.take (k + 1), x ≤ cur from by
          rw [hsn.out]
          refine ⟨List.mem_append_left _ hc.out.1, fun x hx => ?_⟩
          rcases List.mem_append.1 hx with h1 | h1
          · exact hc.out.2 x h1
          · simp at h1; omega)
        go_wp2
        go_round
        case rel => exact ⟨k + 1, cur, by omega, by omega, by go_num, by go_num, hnx⟩
        case measure => simp [intOf]; omega
    · obtain rfl : k = N := by omega
      have hfin := Lib.hid (show cur = M from by
        have h := hc.out
        rw [List.take_of_length_le (by rw [← hN'.out]; exact Nat.le_refl _)] at h
        exact Nat.le_antisymm (hx'.out _ h.1) (h.2 _ hM'.out))
      go_wp2
      go_ret
      exact ⟨ret_i (by rw [hfin.out]), rfl⟩
theorem inn_le {S T : Nat} (h : Inn S T) : S ≤ T := by
  have e := or_eq.2 h
  rw [← e]
  exact Nat.right_le_or
end Go.Proofs.YtpcjigdmfchbdaaDoor
