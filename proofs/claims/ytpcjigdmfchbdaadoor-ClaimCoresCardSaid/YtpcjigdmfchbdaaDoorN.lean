import Derived.Test.YtpcjigdmfchbdaaDoorK
namespace Go.Proofs.YtpcjigdmfchbdaaDoor
open Go.RowKit Go.Shelf Cl

/-- Rows of sets of one's own. -/
def OwnU (w : World) (B : Nat) (v : Value) (xs : List Nat) : Prop := w.ownsRow B 71 1 v xs.length (xs.map fun x : Nat => Value.int .u64 (x : Int))
theorem OwnU.below {B : Nat} {v : Value} {xs : List Nat} {w w' : World} (h : OwnU w B v xs) (hb : Below w.heap.size w w') : OwnU w' B v xs := own_below h hb
theorem OwnU.base {B B' : Nat} {v : Value} {xs : List Nat} {w : World} (h : OwnU w B v xs) (hb : B' ≤ B) : OwnU w B' v xs := own_base h hb
theorem OwnU.nil (w : World) (B : Nat) : OwnU w B (.slice none 0 0) [] := World.ownsRow_nil _ _ _ _
theorem info71 : (Tryd.prog.info? 71).map (fun i => (i.zero, i.size, i.bytes)) = some (some (.int .u64 0), 1, 8) := by kernel_rfl
/-- append(s, y) of one set. -/
theorem app_set {ops : Array Oper} {rest : List Oper} {o : Oper} {a : Act} {Q : Exit → Act → World → Prop} {w : World} {B : Nat} {v : Value} {xs : List Nat} {y : Nat}
    (hown : OwnU w B v xs) (hlen : xs.length ≤ 999999) (hB : B ≤ w.heap.size) (hgd : o.guard = none) (s x : Operand)
    (ho : o.op = .call { callee := .builtin .append, args := #[s, x], argTypes := #[81, 81] }) (hs : a.eval s = v) (hx : a.eval x = .slice (some ⟨w.heap.size, 0, none⟩) 1 1)
    (h : ∀ v' w', OwnU w' B v' (xs ++ [y]) → Below B w w' → (∀ g, g < w.heap.size → v.ownBlock ≠ some g → w'.heap[g]? = w.heap[g]?) → (∀ g, v'.ownBlock = some g → v.ownBlock = some g ∨ w.heap.size ≤ g) → w.heap.size ≤ w'.heap.size → wpList Tryd.prog ops Q rest (a.put o.dst v') w') : wpList Tryd.prog ops Q (o :: rest) a (w.alloc (.cells #[.int .u64 (y : Int)] 71)) := by
  obtain ⟨i0, hi, hz0, hz1, hz2⟩ := info_parts info71
  refine app_one Tryd.underlying81 hi hz0 hz1 hz2 rfl (by decide) (by decide) hown (y := #[.int .u64 (y : Int)]) rfl (by simp [Value.oneCell']) hlen hB hgd s x ho hs hx ?_
  intro v' w' h1 h2 h3 h4 h5
  exact h v' w' (by unfold OwnU; simpa using h1) h2 h3 h4 h5
def SetsEnd (w : World) (xs : List Nat) (e : Ending) (w' : World) : Prop := ∃ v, e = .returned v ∧ OwnU w' w.heap.size v xs ∧ Below w.heap.size w w'
theorem range_filter (k : Nat → Bool) (j : Nat) : (List.range (j + 1)).filter k = (List.range j).filter k ++ if k j then [j] else [] := by
  rw [List.range_succ, List.filter_append]
  congr 1
  cases e : k j <;> simp [e]
theorem filter_range_le (k : Nat → Bool) (j : Nat) : ((List.range j).filter k).length ≤ j := by
  have := List.length_filter_le k (List.range j)
  simpa using this
theorem pow12 {n : Nat} (hn : n ≤ 12) : 2 ^ n ≤ 4096 := Nat.pow_le_pow_right (n := 2) (by decide) hn

set_option maxRecDepth 100000 in
set_option maxHeartbeats 1000000 in
theorem sets55c {w : World} {n : Nat} {L : Atts} (hD : OkD n L) {q : Nat → Bool}
    (hk : ∀ (W : World) (S : Nat), S < 2 ^ n → Below w.heap.size w W → Calls Tryd.prog 57 #[.agg (csD n L), .int .u64 (S : Int)] W (BoolEnd W (q S))) :
    Calls Tryd.prog 55 #[.agg (csD n L), .func (.func 57) #[.agg (csD n L)] #[]] w (SetsEnd w (sets n q)) := by
  have hb1 := Lib.hid (below_alloc1 w (.cells (csD n L) 74))
  have hd0 := Lib.hid (DAt.new w n L 74)
  have hk' := Lib.hid hk
  have hN : 2 ^ n ≤ 4096 := pow12 hD.nn
  have hN1 : 1 ≤ 2 ^ n := Nat.two_pow_pos n
  have hal := Lib.hid (fun (W : World) => show Calls Tryd.prog 64 #[.agg (csD n L)] W (fun e w' => e = .returned (.int .u64 (((2 ^ n : Nat) : Int) - 1)) ∧ Below W.heap.size W w') from (all64 (w := W) hD).mono (by rintro e w' ⟨rfl, hb⟩; exact ⟨ret_i (by omega), hb⟩))
  have hset : sets n q = (List.range (2 ^ n)).filter q := rfl
  rw [hset]
  clear hD hk hset
  obtain ⟨N, hNq⟩ : ∃ N, N = 2 ^ n := ⟨_, rfl⟩
  rw [← hNq] at hN hN1 hal hk' ⊢
  clear hNq
  go_enter Tryd.func55, Tryd.ntmps55
  go_wp2_with (first
    | (refine wl74 rfl _ rfl rfl hd0.out ?_)
    | (go_at_call 64; refine (hal.out _).mono ?_; rintro e w1 ⟨rfl, hb⟩; have hb' := Lib.hid (below_call hb1.out hb); clear hb))
  go_loopw [5, 10] (fun v p wr => ∃ k : Nat, k ≤ N ∧ p = .int .u64 (k : Int) ∧ Hid (OwnU wr w.heap.size v ((List.range k).filter q)) ∧ Hid (Below w.heap.size w wr)) (fun _ p _ => N - (intOf p).toNat)
  case atStart => exact ⟨0, Nat.zero_le _, rfl, Lib.hid (OwnU.nil _ _), hb'⟩
  case round =>
    obtain ⟨k, hk, rfl, ho, hb⟩ := hrel
    by_cases hlt : k < N
    · have hc := Lib.hid (hk'.out wr k hlt hb.out)
      have hle := filter_range_le q k
      have hnx := Lib.hid (range_filter q k)
      cases hq : q k
      · rw [hq] at hc
        have hfin := Lib.hid (show (List.range (k + 1)).filter q = (List.range k).filter q by rw [hnx.out, hq]; simp)
        clear hq hnx hle
        go_wp2_with (first
          | (go_at_call 57; refine (hc.out).mono ?_; rintro e w2 ⟨rfl, hb2⟩; have hb2' := Lib.hid hb2; clear hb2))
        go_roundw
        case rel => exact ⟨k + 1, by omega, by go_num, Lib.hid (by rw [hfin.out]; exact ho.out.below hb2'.out), Lib.hid (below_call hb.out hb2'.out)⟩
        case measure => simp [intOf]; omega
      · rw [hq] at hc
        have hfin := Lib.hid (show (List.range (k + 1)).filter q = (List.range k).filter q ++ [k] by rw [hnx.out, hq]; simp)
        clear hq hnx
        have hle' := Lib.hid hle
        clear hle
        go_wp2_with (first
          | (go_at_call 57; refine (hc.out).mono ?_; rintro e w2 ⟨rfl, hb2⟩; have hb2' := Lib.hid hb2; clear hb2)
          | (at_builtin; refine app_set (ho.out.below hb2'.out) (by have := hle'.out; omega) (Nat.le_trans hb.out.size hb2'.out.size) rfl _ _ rfl rfl rfl ?_; intro v' w3 h1 h2 _ _ _; have h1q := Lib.hid h1; have h2q := Lib.hid h2; clear h1 h2))
        go_roundw
        case rel => exact ⟨k + 1, by omega, by go_num, Lib.hid (by rw [hfin.out]; exact h1q.out), Lib.hid ((below_call hb.out hb2'.out).trans h2q.out)⟩
        case measure => simp [intOf]; omega
    · obtain rfl : k = N := by omega
      go_wp2
      go_ret
      exact ⟨_, rfl, ho.out, hb.out⟩
set_option maxRecDepth 100000 in
set_option maxHeartbeats 1000000 in
theorem sets55s {w : World} {n : Nat} {L : Atts} (hD : OkD n L) {q : Nat → Bool}
    (hk : ∀ (W : World) (S : Nat), S < 2 ^ n → Below w.heap.size w W → Calls Tryd.prog 56 #[.agg (csD n L), .int .u64 (S : Int)] W (BoolEnd W (q S))) :
    Calls Tryd.prog 55 #[.agg (csD n L), .func (.func 56) #[.agg (csD n L)] #[]] w (SetsEnd w (sets n q)) := by
  have hb1 := Lib.hid (below_alloc1 w (.cells (csD n L) 74))
  have hd0 := Lib.hid (DAt.new w n L 74)
  have hk' := Lib.hid hk
  have hN : 2 ^ n ≤ 4096 := pow12 hD.nn
  have hN1 : 1 ≤ 2 ^ n := Nat.two_pow_pos n
  have hal := Lib.hid (fun (W : World) => show Calls Tryd.prog 64 #[.agg (csD n L)] W (fun e w' => e = .returned (.int .u64 (((2 ^ n : Nat) : Int) - 1)) ∧ Below W.heap.size W w') from (all64 (w := W) hD).mono (by rintro e w' ⟨rfl, hb⟩; exact ⟨ret_i (by omega), hb⟩))
  have hset : sets n q = (List.range (2 ^ n)).filter q := rfl
  rw [hset]
  clear hD hk hset
  obtain ⟨N, hNq⟩ : ∃ N, N = 2 ^ n := ⟨_, rfl⟩
  rw [← hNq] at hN hN1 hal hk' ⊢
  clear hNq
  go_enter Tryd.func55, Tryd.ntmps55
  go_wp2_with (first
    | (refine wl74 rfl _ rfl rfl hd0.out ?_)
    | (go_at_call 64; refine (hal.out _).mono ?_; rintro e w1 ⟨rfl, hb⟩; have hb' := Lib.hid (below_call hb1.out hb); clear hb))
  go_loopw [5, 10] (fun v p wr => ∃ k : Nat, k ≤ N ∧ p = .int .u64 (k : Int) ∧ Hid (OwnU wr w.heap.size v ((List.range k).filter q)) ∧ Hid (Below w.heap.size w wr)) (fun _ p _ => N - (intOf p).toNat)
  case atStart => exact ⟨0, Nat.zero_le _, rfl, Lib.hid (OwnU.nil _ _), hb'⟩
  case round =>
    obtain ⟨k, hk, rfl, ho, hb⟩ := hrel
    by_cases hlt : k < N
    · have hc := Lib.hid (hk'.out wr k hlt hb.out)
      have hle := filter_range_le q k
      have hnx := Lib.hid (range_filter q k)
      cases hq : q k
      · rw [hq] at hc
        have hfin := Lib.hid (show (List.range (k + 1)).filter q = (List.range k).filter q by rw [hnx.out, hq]; simp)
        clear hq hnx hle
        go_wp2_with (first
          | (go_at_call 56; refine (hc.out).mono ?_; rintro e w2 ⟨rfl, hb2⟩; have hb2' := Lib.hid hb2; clear hb2))
        go_roundw
        case rel => exact ⟨k + 1, by omega, by go_num, Lib.hid (by rw [hfin.out]; exact ho.out.below hb2'.out), Lib.hid (below_call hb.out hb2'.out)⟩
        case measure => simp [intOf]; omega
      · rw [hq] at hc
        have hfin := Lib.hid (show (List.range (k + 1)).filter q = (List.range k).filter q ++ [k] by rw [hnx.out, hq]; simp)
        clear hq hnx
        have hle' := Lib.hid hle
        clear hle
        go_wp2_with (first
          | (go_at_call 56; refine (hc.out).mono ?_; rintro e w2 ⟨rfl, hb2⟩; have hb2' := Lib.hid hb2; clear hb2)
          | (at_builtin; refine app_set (ho.out.below hb2'.out) (by have := hle'.out; omega) (Nat.le_trans hb.out.size hb2'.out.size) rfl _ _ rfl rfl rfl ?_; intro v' w3 h1 h2 _ _ _; have h1q := Lib.hid h1; have h2q := Lib.hid h2; clear h1 h2))
        go_roundw
        case rel => exact ⟨k + 1, by omega, by go_num, Lib.hid (by rw [hfin.out]; exact h1q.out), Lib.hid ((below_call hb.out hb2'.out).trans h2q.out)⟩
        case measure => simp [intOf]; omega
    · obtain rfl : k = N := by omega
      go_wp2
      go_ret
      exact ⟨_, rfl, ho.out, hb.out⟩
end Go.Proofs.YtpcjigdmfchbdaaDoor
