import Derived.Test.YtpcjigdmfchbdaaDoorZj
namespace Go.Proofs.YtpcjigdmfchbdaaDoor
open Go.RowKit Go.Shelf Cl

/-- The set that is read off a list: strictly rising claims of the dispute. -/
def rdS (n : Int) : List Int → Int → Nat → Option Nat
  | [], _, S => some S
  | x :: xs, lo, S => if x < lo ∨ n ≤ x then none else rdS n xs (x + 1) (S ||| 2 ^ x.toNat)
theorem rdS_drop {n : Int} {xs : List Int} {k : Nat} (h : k < xs.length) (lo : Int) (S : Nat) : rdS n (xs.drop k) lo S = if xs.getD k 0 < lo ∨ n ≤ xs.getD k 0 then none else rdS n (xs.drop (k + 1)) (xs.getD k 0 + 1) (S ||| 2 ^ (xs.getD k 0).toNat) := by
  rw [List.drop_eq_getElem_cons h, List.getD_eq_getElem?_getD, List.getElem?_eq_getElem h]; rfl
theorem rdS_less {n m : Int} (h : m ≤ n) : ∀ {xs : List Int} {lo : Int} {S T : Nat}, (∀ x ∈ xs, x < m) → rdS n xs lo S = some T → rdS m xs lo S = some T
  | [], _, _, _, _, e => e
  | x :: xs, lo, S, T, hx, e => by
    have hx0 := hx x (by simp)
    unfold rdS at e ⊢
    split at e
    · cases e
    · next hc =>
      rw [if_neg (by omega)]
      exact rdS_less h (fun y hy => hx y (by simp [hy])) e
theorem rdS_bl' : ∀ a : Nat, a < 64 → ∀ b : Nat, b < 64 → rdS 12 (natI (bl (64 * a + b))) 0 0 = some (64 * a + b) := by decide +kernel
theorem rdS_bl {n S : Nat} (hn : n ≤ 12) (hS : S < 2 ^ n) : rdS (n : Int) (natI (bl S)) 0 0 = some S := by
  have h4 : S < 4096 := lt12 hn hS
  have := rdS_bl' (S / 64) (by omega) (S % 64) (by omega)
  rw [Nat.div_add_mod] at this
  refine rdS_less (n := 12) (by omega) (fun x hx => ?_) this
  obtain ⟨j, hj, rfl⟩ := List.mem_map.1 hx
  have hb : S.testBit j = true := (List.mem_filter.1 hj).2
  have := near hS hb
  show (j : Int) < n
  omega
def RdIs (n : Int) (ps : List (Int × Int)) (xs : List Int) (D : Array Value) (S : Nat) (err : Int) : Prop :=
  (rdS n xs 0 0 = some S ∧ D = csD n.toNat (natP ps) ∧ err = 0) ∨ (rdS n xs 0 0 = none ∧ D = csD 0 [] ∧ S = 0 ∧ err = 2)
def RdEnd (w : World) (n : Int) (ps : List (Int × Int)) (xs : List Int) (e : Ending) (w' : World) : Prop :=
  ∃ D S err, e = .returned (.tuple #[.agg D, .int .u64 ((S : Nat) : Int), .int .i64 err]) ∧ RdIs n ps xs D S err ∧ Below w.heap.size w w'

set_option maxRecDepth 100000 in
set_option maxHeartbeats 4000000 in
theorem rd_ok {w : World} {n : Int} {v u : Value} {ps : List (Int × Int)} {xs : List Int} (hp : ReadsP w v ps) (hl : ps.length ≤ 1000000) (hv : vldB n ps = true) (hu : Reads w u xs) (hl2 : xs.length ≤ 1000000) :
    Calls Tryd.prog 69 #[.int .i64 n, v, u] w (RdEnd w n ps xs) := by
  have hr := Lib.hid (fun (W : World) (h : Below w.heap.size w W) => read_ok (hp.below h) hl hv)
  have hn12 := (vld_ok hv).1.nn
  obtain ⟨n, rfl⟩ : ∃ m : Nat, n = (m : Int) := ⟨n.toNat, by have h := hv; unfold vldB at h; simp only [Bool.and_eq_true, decide_eq_true_eq] at h; have := h.1.1.1; omega⟩
  rw [Int.toNat_natCast] at hr hn12
  have hf1 := Lib.hid (fun (S : Nat) (h : rdS (n : Int) xs 0 0 = some S) => show RdIs (n : Int) ps xs (csD n (natP ps)) S 0 from .inl ⟨h, by rw [Int.toNat_natCast], rfl⟩)
  have hf2 := Lib.hid (fun (h : rdS (n : Int) xs 0 0 = none) => show RdIs (n : Int) ps xs (csD 0 []) 0 2 from .inr ⟨h, rfl, rfl, rfl⟩)
  clear hp hl hv
  obtain ⟨ao, c, rfl, _, h1⟩ := hu
  obtain ⟨N, hN⟩ : ∃ N, N = xs.length := ⟨_, rfl⟩
  rw [← hN] at hl2 ⊢
  have hN' := Lib.hid hN
  have h1' := Lib.hid h1
  clear hN h1
  go_enter Tryd.func69, Tryd.ntmps69
  go_upto_region 1 with fail
  obtain ⟨W0, hW0⟩ : ∃ W0, W0 = w.alloc (.cells (csD 0 []) 74) := ⟨_, rfl⟩
  rw [show w.alloc (.cells #[.int .i64 0, .int .u64 0, .int .u64 0, .int .u64 0, .int .u64 0, .int .u64 0, .int .u64 0, .int .u64 0, .int .u64 0, .int .u64 0, .int .u64 0, .int .u64 0, .int .u64 0, .int .u64 0, .int .u64 0, .int .u64 0, .int .u64 0, .int .u64 0, .int .u64 0, .int .u64 0, .int .u64 0, .int .u64 0, .int .u64 0, .int .u64 0, .int .u64 0] 74) = W0 from by rw [hW0]; rfl]
  have hb0 := Lib.hid (show Below w.heap.size w W0 from by rw [hW0]; exact below_alloc1 _ _)
  have hth := Lib.hid (show Th W0 w.heap.size from by rw [hW0]; exact Th.new _ _ _ rfl)
  have hs0 := Lib.hid (show W0.heap.size = w.heap.size + 1 from by rw [hW0]; simp)
  clear hW0
  go_wp2_with (first
      | (go_at_call 47; refine (hr.out _ hb0.out).mono ?_; rintro e w1 ⟨rfl, hb⟩; have hb1 := Lib.hid hb; have hth1 := Lib.hid (Th.new w1 (csD 0 []) 74 rfl); have hbA := Lib.hid (below_call hb (below_alloc1 w1 (.cells (csD 0 []) 74))); clear hb)
      | (refine ws74 (n := n) (L := natP ps) rfl _ _ rfl rfl rfl hth1.out ?_; intro W1 hW1; have hd1 := Lib.hid (show DAt W1 w1.heap.size (n) (natP ps) from by rw [hW1]; exact DAt.stored hth1.out); have hbW := Lib.hid (show Below W0.heap.size W0 W1 from by rw [hW1]; exact below_setC hb1.out.size _ _ _ hbA.out); have hthW := Lib.hid (hth.out.below hbW.out); have hbV := Lib.hid (hb0.out.trans (hbW.out.mono hb0.out.size)); clear hW1 hth1 hbA))
  go_loopw [11, 12, 27] (fun m l p wr => ∃ (k : Nat) (lo S : Nat), k ≤ N ∧ p = .int .i64 (k : Int) ∧ l = .int .i64 (lo : Int) ∧ m = .int .u64 (S : Int) ∧ lo ≤ 12 ∧ S < 4096 ∧ Hid (rdS (n : Int) xs 0 0 = rdS (n : Int) (xs.drop k) (lo : Int) S) ∧ wr = W1) (fun _ _ p _ => N - (intOf p).toNat)
  case atStart => exact ⟨0, 0, 0, Nat.zero_le _, rfl, rfl, rfl, by omega, by omega, Lib.hid rfl, rfl⟩
  case round =>
    obtain ⟨k, lo, S, hk, rfl, rfl, rfl, hlo, hS, hrd, rfl⟩ := hrel
    by_cases hlt : k < N
    · have hkl : k < xs.length := by rw [← hN'.out]; exact hlt
      obtain ⟨g, oo, rfl, hg, hc1⟩ := h1'.out (fun e => absurd (show xs.length = 0 from by rw [e]; rfl) (by omega))
      have hcy := hc1 k hkl
      have hcx := (hbV.out.cell (p := ⟨g, oo + k, none⟩) hg).trans hcy
      have hst := rdS_drop (n := (n : Int)) hkl (lo : Int) S
      generalize xs.getD k 0 = x at hcx hst hcy
      have hst' := Lib.hid hst
      clear hst hcy hc1
      have hki : (k : Int) < N := by omega
      by_cases hbad : x < lo ∨ (n : Int) ≤ x
      · have hfin := Lib.hid (hf2.out (by rw [hrd.out, hst'.out, if_pos hbad]))
        rcases (show x < lo ∨ (¬ x < lo ∧ x ≥ n) by omega) with e | ⟨e1, e2⟩
        all_goals
          clear hbad
          go_wp2_with (first
            | (refine ws74 (n := 0) (L := []) rfl _ _ rfl rfl rfl hthW.out ?_; intro W2 hW2; have hdz := Lib.hid (show DAt W2 w.heap.size 0 [] from by rw [hW2]; exact DAt.stored hthW.out); have hbz := Lib.hid (show Below w.heap.size w W2 from by rw [hW2]; exact below_setC (Nat.le_refl _) _ _ _ hbV.out); clear hW2))
          exact bodyPost_ret (results_cell_tmp2R rfl _ rfl hdz.out) rfl ⟨_, 0, 2, rfl, hfin.out, hbz.out⟩
      · have e1 : ¬ x < lo := fun h => hbad (.inl h)
        have e2 : ¬ x ≥ (n : Int) := fun h => hbad (.inr h)
        have hnx := Lib.hid (show rdS (n : Int) xs 0 0 = rdS (n : Int) (xs.drop (k + 1)) (x + 1) (S ||| 2 ^ x.toNat) from by rw [hrd.out, hst'.out, if_neg hbad])
        obtain ⟨a, rfl⟩ : ∃ a : Nat, x = (a : Int) := ⟨x.toNat, by omega⟩
        have ha : a < 12 := by omega
        have hor := or_pow hS ha
        have hSn := Lib.hid (show S ||| 2 ^ a < 4096 from Nat.or_lt_two_pow (n := 12) hS (Nat.pow_lt_pow_right (a := 2) (m := a) (n := 12) (by decide) ha))
        rw [Int.toNat_natCast] at hnx
        clear hbad
        have hxi : (a : Int) < 12 := by omega
        have hxj : (0 : Int) ≤ a := by omega
        go_wp2_with fail
        go_roundw
        case rel => exact ⟨k + 1, a + 1, S ||| 2 ^ a, by omega, by go_num, by go_num, rfl, by omega, hSn.out, Lib.hid (by rw [hnx.out]; rfl), trivial⟩
        case measure => simp [intOf]; omega
    · have hfin := Lib.hid (hf1.out S (by
        rw [hrd.out, List.drop_eq_nil_of_le (by rw [← hN'.out]; omega)]; rfl))
      go_wp2_with (first
        | (refine wl74 rfl _ rfl rfl hd1.out ?_)
        | (refine ws74 (n := n) (L := natP ps) rfl _ _ rfl rfl rfl hthW.out ?_; intro W2 hW2; have hdz := Lib.hid (show DAt W2 w.heap.size n (natP ps) from by rw [hW2]; exact DAt.stored hthW.out); have hbz := Lib.hid (show Below w.heap.size w W2 from by rw [hW2]; exact below_setC (Nat.le_refl _) _ _ _ hbV.out); clear hW2))
      exact bodyPost_ret (results_cell_tmp2R rfl _ rfl hdz.out) rfl ⟨_, S, 0, rfl, hfin.out, hbz.out⟩
set_option maxRecDepth 100000 in
set_option maxHeartbeats 4000000 in
theorem rd_bad {w : World} {n : Int} {v u : Value} {ps : List (Int × Int)} (hp : ReadsP w v ps) (hl : ps.length ≤ 1000000) (hv : vldB n ps = false) :
    Calls Tryd.prog 69 #[.int .i64 n, v, u] w fun e w' => e = .returned (.tuple #[.agg (csD 0 []), .int .u64 0, .int .i64 1]) ∧ Below w.heap.size w w' := by
  have hr := Lib.hid (fun (W : World) (h : Below w.heap.size w W) => read_bad (hp.below h) hl hv)
  clear hp hl hv
  go_enter Tryd.func69, Tryd.ntmps69
  go_upto_region 1 with fail
  obtain ⟨W0, hW0⟩ : ∃ W0, W0 = w.alloc (.cells (csD 0 []) 74) := ⟨_, rfl⟩
  rw [show w.alloc (.cells #[.int .i64 0, .int .u64 0, .int .u64 0, .int .u64 0, .int .u64 0, .int .u64 0, .int .u64 0, .int .u64 0, .int .u64 0, .int .u64 0, .int .u64 0, .int .u64 0, .int .u64 0, .int .u64 0, .int .u64 0, .int .u64 0, .int .u64 0, .int .u64 0, .int .u64 0, .int .u64 0, .int .u64 0, .int .u64 0, .int .u64 0, .int .u64 0, .int .u64 0] 74) = W0 from by rw [hW0]; rfl]
  have hb0 := Lib.hid (show Below w.heap.size w W0 from by rw [hW0]; exact below_alloc1 _ _)
  have hth := Lib.hid (show Th W0 w.heap.size from by rw [hW0]; exact Th.new _ _ _ rfl)
  have hs0 := Lib.hid (show W0.heap.size = w.heap.size + 1 from by rw [hW0]; simp)
  clear hW0
  go_wp2_with (first
      | (go_at_call 47; refine (hr.out _ hb0.out).mono ?_; rintro e w1 ⟨rfl, hb⟩; have hb1 := Lib.hid hb; have hth1 := Lib.hid (Th.new w1 (csD 0 []) 74 rfl); have hbA := Lib.hid (below_call hb (below_alloc1 w1 (.cells (csD 0 []) 74))); clear hb)
      | (refine ws74 (n := 0) (L := []) rfl _ _ rfl rfl rfl hth1.out ?_; intro W1 hW1; have hd1 := Lib.hid (show DAt W1 w1.heap.size (0) ([]) from by rw [hW1]; exact DAt.stored hth1.out); have hbW := Lib.hid (show Below W0.heap.size W0 W1 from by rw [hW1]; exact below_setC hb1.out.size _ _ _ hbA.out); have hthW := Lib.hid (hth.out.below hbW.out); have hbV := Lib.hid (hb0.out.trans (hbW.out.mono hb0.out.size)); clear hW1 hth1 hbA)
      | (refine ws74 (n := 0) (L := []) rfl _ _ rfl rfl rfl hthW.out ?_; intro W2 hW2; have hdz := Lib.hid (show DAt W2 w.heap.size 0 [] from by rw [hW2]; exact DAt.stored hthW.out); have hbz := Lib.hid (show Below w.heap.size w W2 from by rw [hW2]; exact below_setC (Nat.le_refl _) _ _ _ hbV.out); clear hW2))
  exact bodyPost_ret (results_cell_tmp2R rfl _ rfl hdz.out) rfl ⟨rfl, hbz.out⟩
end Go.Proofs.YtpcjigdmfchbdaaDoor
