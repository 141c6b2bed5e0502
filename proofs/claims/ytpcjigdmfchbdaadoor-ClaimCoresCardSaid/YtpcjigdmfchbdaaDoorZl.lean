import Derived.Test.YtpcjigdmfchbdaaDoorZk
import Derived.Test.YtpcjigdmfchbdaaDoorV
namespace Go.Proofs.YtpcjigdmfchbdaaDoor
open Go.RowKit Go.Shelf Cl

theorem rdS_lt {n : Nat} (hn : n ≤ 12) : ∀ {xs : List Int} {lo : Int} {S T : Nat}, 0 ≤ lo → S < 4096 → rdS (n : Int) xs lo S = some T → T < 4096
  | [], _, S, T, _, hS, e => by
    have : S = T := Option.some.inj e
    omega
  | x :: xs, lo, S, T, h0, hS, e => by
    unfold rdS at e
    split at e
    · cases e
    · next hc =>
      exact rdS_lt hn (by omega) (Nat.or_lt_two_pow (n := 12) hS (Nat.pow_lt_pow_right (a := 2) (m := x.toNat) (n := 12) (by decide) (by omega))) e
theorem rd_some {w : World} {n : Int} {v u : Value} {ps : List (Int × Int)} {xs : List Int} (hp : ReadsP w v ps) (hl : ps.length ≤ 1000000) (hv : vldB n ps = true) (hu : Reads w u xs) (hl2 : xs.length ≤ 1000000) {S : Nat} (h : rdS n xs 0 0 = some S) :
    Calls Tryd.prog 69 #[.int .i64 n, v, u] w fun e w' => e = .returned (.tuple #[.agg (csD n.toNat (natP ps)), .int .u64 (S : Int), .int .i64 0]) ∧ Below w.heap.size w w' :=
  (rd_ok hp hl hv hu hl2).mono fun e w' ⟨D, S', err, he, hi, hb⟩ => by
    rcases hi with ⟨h1, rfl, rfl⟩ | ⟨h1, _⟩
    · obtain rfl : S = S' := Option.some.inj (h.symm.trans h1)
      exact ⟨he, hb⟩
    · rw [h] at h1; cases h1
theorem rd_none {w : World} {n : Int} {v u : Value} {ps : List (Int × Int)} {xs : List Int} (hp : ReadsP w v ps) (hl : ps.length ≤ 1000000) (hv : vldB n ps = true) (hu : Reads w u xs) (hl2 : xs.length ≤ 1000000) (h : rdS n xs 0 0 = none) :
    Calls Tryd.prog 69 #[.int .i64 n, v, u] w fun e w' => e = .returned (.tuple #[.agg (csD 0 []), .int .u64 0, .int .i64 2]) ∧ Below w.heap.size w w' :=
  (rd_ok hp hl hv hu hl2).mono fun e w' ⟨D, S', err, he, hi, hb⟩ => by
    rcases hi with ⟨h1, _⟩ | ⟨_, rfl, rfl, rfl⟩
    · rw [h] at h1; cases h1
    · exact ⟨he, hb⟩

set_option maxRecDepth 100000 in
set_option maxHeartbeats 2000000 in
theorem err35 {w : World} {n err : Int} {v u : Value} (he : err = 1 ∨ err = 2)
    (hr : Calls Tryd.prog 69 #[.int .i64 n, v, u] w fun e w' => e = .returned (.tuple #[.agg (csD 0 []), .int .u64 0, .int .i64 err]) ∧ Below w.heap.size w w') :
    Calls Tryd.prog 35 #[.int .i64 n, v, u] w (MadeE w [] err) := by
  have hr := Lib.hid hr
  have hne : ¬ err = 0 := by omega
  clear he
  go_enter Tryd.func35, Tryd.ntmps35
  go_wp2_with (first
    | (go_at_call 69; refine (hr.out).mono ?_; rintro e w1 ⟨rfl, hb⟩; have hb1 := Lib.hid hb; have hth1 := Lib.hid (Th.new w1 (csD 0 []) 74 rfl); have hbA := Lib.hid (below_call hb (below_alloc1 w1 (.cells (csD 0 []) 74))); clear hb)
    | (refine ws74 (n := 0) (L := []) rfl _ _ rfl rfl rfl hth1.out ?_; intro W1 hW1; have hd1 := Lib.hid (show DAt W1 w1.heap.size (0) ([]) from by rw [hW1]; exact DAt.stored hth1.out); have hbW := Lib.hid (show Below w.heap.size w W1 from by rw [hW1]; exact below_setC hb1.out.size _ _ _ hbA.out); clear hW1)
    | (refine wl74 rfl _ rfl rfl hd1.out ?_))
  refine bodyPost_ret (results_tmp2 rfl _ _ _) rfl ?_
  exact ⟨_, rfl, Ints.nil _ _, hbW.out⟩
set_option maxRecDepth 100000 in
set_option maxHeartbeats 2000000 in
theorem err34 {w : World} {n err : Int} {v u : Value} (he : err = 1 ∨ err = 2)
    (hr : Calls Tryd.prog 69 #[.int .i64 n, v, u] w fun e w' => e = .returned (.tuple #[.agg (csD 0 []), .int .u64 0, .int .i64 err]) ∧ Below w.heap.size w w') :
    Calls Tryd.prog 34 #[.int .i64 n, v, u] w (fun e w' => e = .returned (.tuple #[.bool false, .int .i64 err]) ∧ Below w.heap.size w w') := by
  have hr := Lib.hid hr
  have hne : ¬ err = 0 := by omega
  clear he
  go_enter Tryd.func34, Tryd.ntmps34
  go_wp2_with (first
    | (go_at_call 69; refine (hr.out).mono ?_; rintro e w1 ⟨rfl, hb⟩; have hb1 := Lib.hid hb; have hth1 := Lib.hid (Th.new w1 (csD 0 []) 74 rfl); have hbA := Lib.hid (below_call hb (below_alloc1 w1 (.cells (csD 0 []) 74))); clear hb)
    | (refine ws74 (n := 0) (L := []) rfl _ _ rfl rfl rfl hth1.out ?_; intro W1 hW1; have hd1 := Lib.hid (show DAt W1 w1.heap.size (0) ([]) from by rw [hW1]; exact DAt.stored hth1.out); have hbW := Lib.hid (show Below w.heap.size w W1 from by rw [hW1]; exact below_setC hb1.out.size _ _ _ hbA.out); clear hW1)
    | (refine wl74 rfl _ rfl rfl hd1.out ?_))
  refine bodyPost_ret (results_tmp2 rfl _ _ _) rfl ?_
  exact ⟨rfl, hbW.out⟩
set_option maxRecDepth 100000 in
set_option maxHeartbeats 2000000 in
theorem ok35 {w : World} (hT : Tab w) {n : Nat} {v u : Value} {L : Atts} {S : Nat} (hD : OkD n L) (hS : S < 4096)
    (hr : Calls Tryd.prog 69 #[.int .i64 (n : Int), v, u] w fun e w' => e = .returned (.tuple #[.agg (csD n L), .int .u64 (S : Int), .int .i64 0]) ∧ Below w.heap.size w w') :
    Calls Tryd.prog 35 #[.int .i64 (n : Int), v, u] w (MadeE w (natI (bl (dfd n L S))) 0) := by
  have hr := Lib.hid hr
  have hd := Lib.hid (fun (W : World) (h : Below w.heap.size w W) => defended51 (hT.call h) hD hS)
  have hli := Lib.hid (fun (W : World) (h : Below w.heap.size w W) => list49 (hT.call h) (R := dfd n L S) (hD.dlt S))
  clear hT hD hS
  generalize dfd n L S = G at hd hli ⊢
  go_enter Tryd.func35, Tryd.ntmps35
  go_wp2_with (first
    | (go_at_call 69; refine (hr.out).mono ?_; rintro e w1 ⟨rfl, hb⟩; have hb1 := Lib.hid hb; have hth1 := Lib.hid (Th.new w1 (csD 0 []) 74 rfl); have hbA := Lib.hid (below_call hb (below_alloc1 w1 (.cells (csD 0 []) 74))); clear hb)
    | (refine ws74 (n := n) (L := L) rfl _ _ rfl rfl rfl hth1.out ?_; intro W1 hW1; have hd1 := Lib.hid (show DAt W1 w1.heap.size (n) (L) from by rw [hW1]; exact DAt.stored hth1.out); have hbW := Lib.hid (show Below w.heap.size w W1 from by rw [hW1]; exact below_setC hb1.out.size _ _ _ hbA.out); clear hW1)
    | (refine wl74 rfl _ rfl rfl hd1.out ?_)
    | (go_at_call 51; refine (hd.out _ hbW.out).mono ?_; rintro e w2 ⟨rfl, hb⟩; have hb2 := Lib.hid (below_call hbW.out hb); clear hb)
    | (go_at_call 49; refine (hli.out _ hb2.out).mono ?_; rintro e w3 ⟨v3, rfl, ho, hb⟩; have ho3 := Lib.hid (ho.1.base hb2.out.size); have hb3 := Lib.hid (below_call hb2.out hb); clear hb ho))
  refine bodyPost_ret (results_tmp2 rfl _ _ _) rfl ?_
  exact ⟨_, rfl, ho3.out, hb3.out⟩
set_option maxRecDepth 100000 in
set_option maxHeartbeats 2000000 in
theorem ok34 {w : World} (hT : Tab w) {n : Nat} {v u : Value} {L : Atts} {S : Nat} (hD : OkD n L) (hS : S < 4096)
    (hr : Calls Tryd.prog 69 #[.int .i64 (n : Int), v, u] w fun e w' => e = .returned (.tuple #[.agg (csD n L), .int .u64 (S : Int), .int .i64 0]) ∧ Below w.heap.size w w') :
    Calls Tryd.prog 34 #[.int .i64 (n : Int), v, u] w fun e w' => e = .returned (.tuple #[.bool (admB n L S), .int .i64 0]) ∧ Below w.heap.size w w' := by
  have hr := Lib.hid hr
  have hd := Lib.hid (fun (W : World) (h : Below w.heap.size w W) => admissible67 (hT.call h) hD hS)
  clear hT hD hS
  generalize admB n L S = G at hd ⊢
  go_enter Tryd.func34, Tryd.ntmps34
  go_wp2_with (first
    | (go_at_call 69; refine (hr.out).mono ?_; rintro e w1 ⟨rfl, hb⟩; have hb1 := Lib.hid hb; have hth1 := Lib.hid (Th.new w1 (csD 0 []) 74 rfl); have hbA := Lib.hid (below_call hb (below_alloc1 w1 (.cells (csD 0 []) 74))); clear hb)
    | (refine ws74 (n := n) (L := L) rfl _ _ rfl rfl rfl hth1.out ?_; intro W1 hW1; have hd1 := Lib.hid (show DAt W1 w1.heap.size (n) (L) from by rw [hW1]; exact DAt.stored hth1.out); have hbW := Lib.hid (show Below w.heap.size w W1 from by rw [hW1]; exact below_setC hb1.out.size _ _ _ hbA.out); clear hW1)
    | (refine wl74 rfl _ rfl rfl hd1.out ?_)
    | (go_at_call 67; refine (hd.out _ hbW.out).mono ?_; rintro e w2 ⟨rfl, hb⟩; have hb2 := Lib.hid (below_call hbW.out hb); clear hb))
  refine bodyPost_ret (results_tmp2 rfl _ _ _) rfl ?_
  exact ⟨rfl, hb2.out⟩
/-- The set and the error that Defends returns. -/
def defL (n : Int) (ps : List (Int × Int)) (xs : List Int) : List Int := if vldB n ps then match rdS n xs 0 0 with | some S => natI (bl (dfd n.toNat (natP ps) S)) | none => [] else []
def setE (n : Int) (ps : List (Int × Int)) (xs : List Int) : Int := if vldB n ps then match rdS n xs 0 0 with | some _ => 0 | none => 2 else 1
theorem defends35 {w : World} (hT : Tab w) {n : Int} {v u : Value} {ps : List (Int × Int)} {xs : List Int} (hp : ReadsP w v ps) (hl : ps.length ≤ 1000000) (hu : Reads w u xs) (hl2 : xs.length ≤ 1000000) :
    Calls Tryd.prog 35 #[.int .i64 n, v, u] w (MadeE w (defL n ps xs) (setE n ps xs)) := by
  unfold defL setE
  cases hv : vldB n ps
  · exact err35 (.inl rfl) (rd_bad hp hl hv)
  · obtain ⟨n, rfl⟩ : ∃ m : Nat, n = (m : Int) := ⟨n.toNat, by have h := hv; unfold vldB at h; simp only [Bool.and_eq_true, decide_eq_true_eq] at h; have := h.1.1.1; omega⟩
    have hD := (vld_ok hv).1
    rw [Int.toNat_natCast] at hD ⊢
    cases hr : rdS (n : Int) xs 0 0 with
    | none => exact err35 (.inr rfl) (rd_none hp hl hv hu hl2 hr)
    | some S =>
      have h := rd_some hp hl hv hu hl2 hr
      rw [Int.toNat_natCast] at h
      exact ok35 hT hD (rdS_lt hD.nn (by omega) (by omega) hr) h
def admR (n : Int) (ps : List (Int × Int)) (xs : List Int) : Bool := if vldB n ps then match rdS n xs 0 0 with | some S => admB n.toNat (natP ps) S | none => false else false
theorem admissible34 {w : World} (hT : Tab w) {n : Int} {v u : Value} {ps : List (Int × Int)} {xs : List Int} (hp : ReadsP w v ps) (hl : ps.length ≤ 1000000) (hu : Reads w u xs) (hl2 : xs.length ≤ 1000000) :
    Calls Tryd.prog 34 #[.int .i64 n, v, u] w fun e w' => e = .returned (.tuple #[.bool (admR n ps xs), .int .i64 (setE n ps xs)]) ∧ Below w.heap.size w w' := by
  unfold admR setE
  cases hv : vldB n ps
  · exact err34 (.inl rfl) (rd_bad hp hl hv)
  · obtain ⟨n, rfl⟩ : ∃ m : Nat, n = (m : Int) := ⟨n.toNat, by have h := hv; unfold vldB at h; simp only [Bool.and_eq_true, decide_eq_true_eq] at h; have := h.1.1.1; omega⟩
    have hD := (vld_ok hv).1
    rw [Int.toNat_natCast] at hD ⊢
    cases hr : rdS (n : Int) xs 0 0 with
    | none => exact err34 (.inr rfl) (rd_none hp hl hv hu hl2 hr)
    | some S =>
      have h := rd_some hp hl hv hu hl2 hr
      rw [Int.toNat_natCast] at h
      exact ok34 hT hD (rdS_lt hD.nn (by omega) (by omega) hr) h
end Go.Proofs.YtpcjigdmfchbdaaDoor
