import Derived.Test.YtpcjigdmfchbdaaDoorX
namespace Go.Proofs.YtpcjigdmfchbdaaDoor
open Go.RowKit Go.Shelf Cl

/-- Sets as they are listed. -/
def lists (l : List Nat) : List (List Int) := srt (l.map fun S => natI (bl S))
def ListsEnd (w : World) (xss : List (List Int)) (e : Ending) (w' : World) : Prop := ∃ v, e = .returned v ∧ OwnG w' w.heap.size v xss ∧ Below w.heap.size w w'
theorem natI_len (S : Nat) : (natI (bl S)).length ≤ 12 := by unfold natI; rw [List.length_map]; exact bl_len S
set_option maxRecDepth 100000 in
set_option maxHeartbeats 1000000 in
theorem listed53 {w : World} (hT : Tab w) {B : Nat} {v : Value} {xs : List Nat} (hx : OwnU w B v xs) (hxs : ∀ x ∈ xs, x < 4096) (hl : xs.length ≤ 4096) :
    Calls Tryd.prog 53 #[v] w (ListsEnd w (lists xs)) := by
  have hx' := Lib.hid hx
  have hxs' := Lib.hid (getD_lt hxs)
  obtain ⟨ao, c, rfl, -⟩ := hx.len
  obtain ⟨N, hN⟩ : ∃ N, N = xs.length := ⟨_, rfl⟩
  have hN' := Lib.hid hN
  obtain ⟨f, hf⟩ : ∃ f : Nat → List Int, f = fun S => natI (bl S) := ⟨_, rfl⟩
  have hf' := Lib.hid (show ∀ S, f S = natI (bl S) from fun S => by rw [hf])
  have hli := Lib.hid (fun (W : World) (S : Nat) (hS : S < 4096) (h : Below w.heap.size w W) => show Calls Tryd.prog 49 #[.int .u64 (S : Int)] W (ListEnd W (f S)) from by rw [hf]; exact list49 (hT.call h) hS)
  have hso := Lib.hid (fun (W : World) (v : Value) (h : OwnG W w.heap.size v (xs.map f)) => sort76 h (by rw [List.length_map]; omega) (fun j => by
    rw [List.getD_eq_getElem?_getD, List.getElem?_map]
    cases e : xs[j]? with
    | none => simp
    | some S =>
      have e2 : f S = natI (bl S) := by rw [hf]
      have := natI_len S
      show (f S).length ≤ _
      rw [e2]; omega))
  have hres : lists xs = srt (xs.map f) := by unfold lists; rw [hf]
  rw [hres]
  rw [← hN] at hl hx' ⊢
  clear hT hx hxs hN hf hres
  go_enter Tryd.func53, Tryd.ntmps53
  go_wp2_with fail
  go_loopw [3, 8] (fun v3 p wr => ∃ k : Nat, k ≤ N ∧ p = .int .i64 (k : Int) ∧ Hid (OwnG wr w.heap.size v3 ((xs.take k).map f)) ∧ Hid (Below w.heap.size w wr)) (fun _ p _ => N - (intOf p).toNat)
  case atStart => exact ⟨0, Nat.zero_le _, rfl, Lib.hid ⟨[], World.ownsRow_nil _ _ _ _, rfl, fun j hj => by simp at hj⟩, Lib.hid (Below.refl _ _)⟩
  case round =>
    obtain ⟨k, hk2, rfl, ho, hb⟩ := hrel
    by_cases hlt : k < N
    · obtain ⟨g2, cap, e1, _, hg2, hcell⟩ := hx'.out.parts (fun e => by have := hN'.out; rw [e] at this; simp at this; omega)
      have ck := (hb.out.cell (p := ⟨g2, k, none⟩) hg2).trans (hcell k (by rw [← hN'.out]; exact hlt))
      obtain ⟨rfl, rfl⟩ : ao = some ⟨g2, 0, none⟩ ∧ c = cap := by injection e1 with a _ b; exact ⟨a, b⟩
      have hc := Lib.hid (hli.out wr _ (hxs'.out k) hb.out)
      have hnx : (xs.take (k + 1)).map f = (xs.take k).map f ++ [f (xs.getD k 0)] := by
        rw [take_snoc xs k (by rw [← hN'.out]; exact hlt), List.map_append]; rfl
      have hlen := Lib.hid (show ((xs.take k).map f).length ≤ 1000000 by rw [List.length_map, List.length_take]; omega)
      have hi1 : (k : Int) < N := by omega
      generalize xs.getD k 0 = y at ck hc hnx
      have hnx' := Lib.hid hnx
      clear hcell e1 hnx
      go_wp2_with (first
        | (go_at_call 49; refine (hc.out).mono ?_; rintro e w2 ⟨v2, rfl, ho2, hb2⟩; obtain ⟨ao2, c2, rfl, -⟩ := id ho2.1.shape; have ho2' := Lib.hid (ho2.1.base hb.out.size); have hb2' := Lib.hid hb2; clear hb2 ho2)
        | (at_builtin; refine app_row (ho.out.below hb2'.out) ho2'.out hlen.out (Nat.le_trans hb.out.size hb2'.out.size) rfl _ _ rfl rfl rfl ?_; intro v' w3 h1 h2 _; have h1q := Lib.hid h1; have h2q := Lib.hid h2; clear h1 h2))
      go_roundw
      case rel => exact ⟨k + 1, by omega, by go_num, Lib.hid (by rw [hnx'.out]; exact h1q.out), Lib.hid ((below_call hb.out hb2'.out).trans h2q.out)⟩
      case measure => simp [intOf]; omega
    · obtain rfl : k = N := by omega
      have hO := Lib.hid (show OwnG wr w.heap.size u3 (xs.map f) from by have := ho.out; rw [List.take_of_length_le (by rw [← hN'.out]; exact Nat.le_refl _)] at this; exact this)
      have hs := Lib.hid (hso.out wr u3 hO.out)
      clear ho
      go_wp2_with (first
        | (go_at_call 76; refine (hs.out).mono ?_; rintro e w4 ⟨rfl, ho4, hb4⟩; have ho4' := Lib.hid ho4; have hb4' := Lib.hid hb4; clear ho4 hb4))
      go_ret
      exact ⟨_, rfl, ho4'.out, hb.out.trans hb4'.out⟩
def MadeG (w : World) (xss : List (List Int)) (err : Int) (e : Ending) (w' : World) : Prop := ∃ v, e = .returned (.tuple #[v, .int .i64 err]) ∧ OwnG w' w.heap.size v xss ∧ Below w.heap.size w w'
theorem OwnG.nil (w : World) (B : Nat) : OwnG w B (.slice none 0 0) [] := ⟨[], World.ownsRow_nil _ _ _ _, rfl, fun j hj => by simp at hj⟩
def resG (n : Int) (ps : List (Int × Int)) (xs : List (List Int)) : List (List Int) := if vldB n ps then xs else []
theorem sets_lt {n : Nat} (hn : n ≤ 12) {k : Nat → Bool} : ∀ x ∈ sets n k, x < 4096 := fun _ hx => lt12 hn (mem_sets.1 hx).1
theorem sets_len {n : Nat} (hn : n ≤ 12) {k : Nat → Bool} : (sets n k).length ≤ 4096 := Nat.le_trans (filter_range_le _ _) (pow12 hn)
theorem grt_lt {l : List Nat} {m : Nat → Nat} (h : ∀ x ∈ l, x < 4096) : ∀ x ∈ grt l m, x < 4096 := fun x hx => h x (mem_grt.1 hx).1
theorem grt_len {l : List Nat} {m : Nat → Nat} (h : l.length ≤ 4096) : (grt l m).length ≤ 4096 := Nat.le_trans (List.length_filter_le _ _) h

set_option maxRecDepth 100000 in
set_option maxHeartbeats 1000000 in
theorem preferred25 {w : World} (hT : Tab w) {n : Int} {v : Value} {ps : List (Int × Int)} (hp : ReadsP w v ps) (hl : ps.length ≤ 1000000) :
    Calls Tryd.prog 25 #[.int .i64 n, v] w (MadeG w (resG n ps (lists (prefs n.toNat (natP ps)))) (resE n ps)) := by
  unfold resG resE
  cases hv : vldB n ps
  · have hr := Lib.hid (read_bad hp hl hv)
    clear hp hl hv hT
    go_enter Tryd.func25, Tryd.ntmps25

    go_wp2_with (first
        | (go_at_call 47; refine (hr.out).mono ?_; rintro e w1 ⟨rfl, hb⟩; have hb1 := Lib.hid hb; have hth1 := Lib.hid (Th.new w1 (csD 0 []) 74 rfl); have hbA := Lib.hid (below_call hb (below_alloc1 w1 (.cells (csD 0 []) 74))); clear hb)
        | (refine ws74 (n := 0) (L := []) rfl _ _ rfl rfl rfl hth1.out ?_; intro W1 hW1; have hd1 := Lib.hid (show DAt W1 w1.heap.size (0) ([]) from by rw [hW1]; exact DAt.stored hth1.out); have hbW := Lib.hid (show Below w.heap.size w W1 from by rw [hW1]; exact below_setC hb1.out.size _ _ _ hbA.out); clear hW1)
        | (refine wl74 rfl _ rfl rfl hd1.out ?_))
    refine bodyPost_ret (results_tmp2 rfl _ _ _) rfl ?_
    exact ⟨_, rfl, OwnG.nil _ _, hbW.out⟩
  · have hr := Lib.hid (read_ok hp hl hv)
    have hD := (vld_ok hv).1
    obtain ⟨m, hm⟩ : ∃ m, m = n.toNat := ⟨_, rfl⟩
    obtain ⟨L, hL⟩ : ∃ L, L = natP ps := ⟨_, rfl⟩
    rw [← hm, ← hL] at hr hD ⊢
    clear hm hL
    have hg := Lib.hid (fun (W : World) (h : Below w.heap.size w W) => preferred54 (hT.call h) hD)
    have hli := Lib.hid (fun (W : World) (B : Nat) (v : Value) (h : Below w.heap.size w W) (hx : OwnU W B v (prefs m L)) => show Calls Tryd.prog 53 #[v] W (ListsEnd W (lists (prefs m L))) from listed53 (hT.call h) hx (grt_lt (sets_lt hD.nn)) (grt_len (sets_len hD.nn)))
    clear hp hl hv hT hD
    go_enter Tryd.func25, Tryd.ntmps25

    go_wp2_with (first
        | (go_at_call 47; refine (hr.out).mono ?_; rintro e w1 ⟨rfl, hb⟩; have hb1 := Lib.hid hb; have hth1 := Lib.hid (Th.new w1 (csD 0 []) 74 rfl); have hbA := Lib.hid (below_call hb (below_alloc1 w1 (.cells (csD 0 []) 74))); clear hb)
        | (refine ws74 (n := m) (L := L) rfl _ _ rfl rfl rfl hth1.out ?_; intro W1 hW1; have hd1 := Lib.hid (show DAt W1 w1.heap.size (m) (L) from by rw [hW1]; exact DAt.stored hth1.out); have hbW := Lib.hid (show Below w.heap.size w W1 from by rw [hW1]; exact below_setC hb1.out.size _ _ _ hbA.out); clear hW1)
        | (refine wl74 rfl _ rfl rfl hd1.out ?_)
        | (go_at_call 54; refine (hg.out _ hbW.out).mono ?_; rintro e w2 ⟨v2, rfl, ho, hb⟩; have ho2 := Lib.hid ho; have hb2 := Lib.hid (below_call hbW.out hb); clear hb ho)
        | (go_at_call 53; refine (hli.out _ _ _ hb2.out ho2.out).mono ?_; rintro e w3 ⟨v3, rfl, ho, hb⟩; have ho3 := Lib.hid (ho.base hb2.out.size); have hb3 := Lib.hid (below_call hb2.out hb); clear hb ho))
    refine bodyPost_ret (results_tmp2 rfl _ _ _) rfl ?_
    exact ⟨_, rfl, ho3.out, hb3.out⟩
set_option maxRecDepth 100000 in
set_option maxHeartbeats 1000000 in
theorem stable26 {w : World} (hT : Tab w) {n : Int} {v : Value} {ps : List (Int × Int)} (hp : ReadsP w v ps) (hl : ps.length ≤ 1000000) :
    Calls Tryd.prog 26 #[.int .i64 n, v] w (MadeG w (resG n ps (lists (stables n.toNat (natP ps)))) (resE n ps)) := by
  unfold resG resE
  cases hv : vldB n ps
  · have hr := Lib.hid (read_bad hp hl hv)
    clear hp hl hv hT
    go_enter Tryd.func26, Tryd.ntmps26

    go_wp2_with (first
        | (go_at_call 47; refine (hr.out).mono ?_; rintro e w1 ⟨rfl, hb⟩; have hb1 := Lib.hid hb; have hth1 := Lib.hid (Th.new w1 (csD 0 []) 74 rfl); have hbA := Lib.hid (below_call hb (below_alloc1 w1 (.cells (csD 0 []) 74))); clear hb)
        | (refine ws74 (n := 0) (L := []) rfl _ _ rfl rfl rfl hth1.out ?_; intro W1 hW1; have hd1 := Lib.hid (show DAt W1 w1.heap.size (0) ([]) from by rw [hW1]; exact DAt.stored hth1.out); have hbW := Lib.hid (show Below w.heap.size w W1 from by rw [hW1]; exact below_setC hb1.out.size _ _ _ hbA.out); clear hW1)
        | (refine wl74 rfl _ rfl rfl hd1.out ?_))
    refine bodyPost_ret (results_tmp2 rfl _ _ _) rfl ?_
    exact ⟨_, rfl, OwnG.nil _ _, hbW.out⟩
  · have hr := Lib.hid (read_ok hp hl hv)
    have hD := (vld_ok hv).1
    obtain ⟨m, hm⟩ : ∃ m, m = n.toNat := ⟨_, rfl⟩
    obtain ⟨L, hL⟩ : ∃ L, L = natP ps := ⟨_, rfl⟩
    rw [← hm, ← hL] at hr hD ⊢
    clear hm hL
    have hg := Lib.hid (fun (W : World) (h : Below w.heap.size w W) => show Calls Tryd.prog 55 #[.agg (csD m L), .func (.func 56) #[.agg (csD m L)] #[]] W (SetsEnd W (stables m L)) from sets55s hD (fun W2 S hS h2 => stable56 (hT.call (below_call h h2)) hD hS))
    have hli := Lib.hid (fun (W : World) (B : Nat) (v : Value) (h : Below w.heap.size w W) (hx : OwnU W B v (stables m L)) => show Calls Tryd.prog 53 #[v] W (ListsEnd W (lists (stables m L))) from listed53 (hT.call h) hx (sets_lt hD.nn) (sets_len hD.nn))
    clear hp hl hv hT hD
    go_enter Tryd.func26, Tryd.ntmps26

    go_wp2_with (first
        | (go_at_call 47; refine (hr.out).mono ?_; rintro e w1 ⟨rfl, hb⟩; have hb1 := Lib.hid hb; have hth1 := Lib.hid (Th.new w1 (csD 0 []) 74 rfl); have hbA := Lib.hid (below_call hb (below_alloc1 w1 (.cells (csD 0 []) 74))); clear hb)
        | (refine ws74 (n := m) (L := L) rfl _ _ rfl rfl rfl hth1.out ?_; intro W1 hW1; have hd1 := Lib.hid (show DAt W1 w1.heap.size (m) (L) from by rw [hW1]; exact DAt.stored hth1.out); have hbW := Lib.hid (show Below w.heap.size w W1 from by rw [hW1]; exact below_setC hb1.out.size _ _ _ hbA.out); clear hW1)
        | (refine wl74 rfl _ rfl rfl hd1.out ?_)
        | (go_at_call 55; refine (hg.out _ hbW.out).mono ?_; rintro e w2 ⟨v2, rfl, ho, hb⟩; have ho2 := Lib.hid ho; have hb2 := Lib.hid (below_call hbW.out hb); clear hb ho)
        | (go_at_call 53; refine (hli.out _ _ _ hb2.out ho2.out).mono ?_; rintro e w3 ⟨v3, rfl, ho, hb⟩; have ho3 := Lib.hid (ho.base hb2.out.size); have hb3 := Lib.hid (below_call hb2.out hb); clear hb ho))
    refine bodyPost_ret (results_tmp2 rfl _ _ _) rfl ?_
    exact ⟨_, rfl, ho3.out, hb3.out⟩
set_option maxRecDepth 100000 in
set_option maxHeartbeats 1000000 in
theorem complete27 {w : World} (hT : Tab w) {n : Int} {v : Value} {ps : List (Int × Int)} (hp : ReadsP w v ps) (hl : ps.length ≤ 1000000) :
    Calls Tryd.prog 27 #[.int .i64 n, v] w (MadeG w (resG n ps (lists (coms n.toNat (natP ps)))) (resE n ps)) := by
  unfold resG resE
  cases hv : vldB n ps
  · have hr := Lib.hid (read_bad hp hl hv)
    clear hp hl hv hT
    go_enter Tryd.func27, Tryd.ntmps27

    go_wp2_with (first
        | (go_at_call 47; refine (hr.out).mono ?_; rintro e w1 ⟨rfl, hb⟩; have hb1 := Lib.hid hb; have hth1 := Lib.hid (Th.new w1 (csD 0 []) 74 rfl); have hbA := Lib.hid (below_call hb (below_alloc1 w1 (.cells (csD 0 []) 74))); clear hb)
        | (refine ws74 (n := 0) (L := []) rfl _ _ rfl rfl rfl hth1.out ?_; intro W1 hW1; have hd1 := Lib.hid (show DAt W1 w1.heap.size (0) ([]) from by rw [hW1]; exact DAt.stored hth1.out); have hbW := Lib.hid (show Below w.heap.size w W1 from by rw [hW1]; exact below_setC hb1.out.size _ _ _ hbA.out); clear hW1)
        | (refine wl74 rfl _ rfl rfl hd1.out ?_))
    refine bodyPost_ret (results_tmp2 rfl _ _ _) rfl ?_
    exact ⟨_, rfl, OwnG.nil _ _, hbW.out⟩
  · have hr := Lib.hid (read_ok hp hl hv)
    have hD := (vld_ok hv).1
    obtain ⟨m, hm⟩ : ∃ m, m = n.toNat := ⟨_, rfl⟩
    obtain ⟨L, hL⟩ : ∃ L, L = natP ps := ⟨_, rfl⟩
    rw [← hm, ← hL] at hr hD ⊢
    clear hm hL
    have hg := Lib.hid (fun (W : World) (h : Below w.heap.size w W) => show Calls Tryd.prog 55 #[.agg (csD m L), .func (.func 57) #[.agg (csD m L)] #[]] W (SetsEnd W (coms m L)) from sets55c hD (fun W2 S hS h2 => complete57 (hT.call (below_call h h2)) hD (lt12 hD.nn hS)))
    have hli := Lib.hid (fun (W : World) (B : Nat) (v : Value) (h : Below w.heap.size w W) (hx : OwnU W B v (coms m L)) => show Calls Tryd.prog 53 #[v] W (ListsEnd W (lists (coms m L))) from listed53 (hT.call h) hx (sets_lt hD.nn) (sets_len hD.nn))
    clear hp hl hv hT hD
    go_enter Tryd.func27, Tryd.ntmps27

    go_wp2_with (first
        | (go_at_call 47; refine (hr.out).mono ?_; rintro e w1 ⟨rfl, hb⟩; have hb1 := Lib.hid hb; have hth1 := Lib.hid (Th.new w1 (csD 0 []) 74 rfl); have hbA := Lib.hid (below_call hb (below_alloc1 w1 (.cells (csD 0 []) 74))); clear hb)
        | (refine ws74 (n := m) (L := L) rfl _ _ rfl rfl rfl hth1.out ?_; intro W1 hW1; have hd1 := Lib.hid (show DAt W1 w1.heap.size (m) (L) from by rw [hW1]; exact DAt.stored hth1.out); have hbW := Lib.hid (show Below w.heap.size w W1 from by rw [hW1]; exact below_setC hb1.out.size _ _ _ hbA.out); clear hW1)
        | (refine wl74 rfl _ rfl rfl hd1.out ?_)
        | (go_at_call 55; refine (hg.out _ hbW.out).mono ?_; rintro e w2 ⟨v2, rfl, ho, hb⟩; have ho2 := Lib.hid ho; have hb2 := Lib.hid (below_call hbW.out hb); clear hb ho)
        | (go_at_call 53; refine (hli.out _ _ _ hb2.out ho2.out).mono ?_; rintro e w3 ⟨v3, rfl, ho, hb⟩; have ho3 := Lib.hid (ho.base hb2.out.size); have hb3 := Lib.hid (below_call hb2.out hb); clear hb ho))
    refine bodyPost_ret (results_tmp2 rfl _ _ _) rfl ?_
    exact ⟨_, rfl, ho3.out, hb3.out⟩
end Go.Proofs.YtpcjigdmfchbdaaDoor
