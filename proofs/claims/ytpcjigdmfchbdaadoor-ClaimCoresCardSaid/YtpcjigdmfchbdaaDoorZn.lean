import Derived.Test.YtpcjigdmfchbdaaDoorZm
namespace Go.Proofs.YtpcjigdmfchbdaaDoor
open Go.RowKit Go.Shelf Cl

theorem cmn_step (n : Nat) {l : List Nat} {k : Nat} (h : k < l.length) : (l.take (k + 1)).foldl (fun m s => m &&& s) (2 ^ n - 1) = (l.take k).foldl (fun m s => m &&& s) (2 ^ n - 1) &&& l.getD k 0 := by
  rw [take_max h, List.foldl_append]; rfl
theorem cmn_lt4 {n : Nat} (hn : n ≤ 12) (l : List Nat) : l.foldl (fun m s => m &&& s) (2 ^ n - 1) < 4096 := lt12 hn (cmn_lt n l)
/-- Like it was, but for one block. -/
def But (b : Nat) (w w' : World) : Prop := w'.heap.size = w.heap.size ∧ ∀ p : Addr, p.block ≠ b → w'.cell? p = w.cell? p
theorem But.refl (b : Nat) (w : World) : But b w w := ⟨rfl, fun _ _ => rfl⟩
theorem But.set {b : Nat} {w w' : World} (h : But b w w') (j : Nat) (u : Value) : But b w (w'.setCell ⟨b, j, none⟩ u) :=
  ⟨by simpa using h.1, fun p hp => (World.cell?_setCell_other _ _ _ _ (fun e => hp (by rw [← e]))).trans (h.2 p hp)⟩
theorem DAt.but {W W' : World} {b b6 n : Nat} {L : Atts} (h : DAt W b6 n L) (hb : But b W W') (hne : b6 ≠ b) : DAt W' b6 n L :=
  ⟨by rw [hb.1]; exact h.1, fun j v hj => (hb.2 _ (by exact hne)).trans (h.2 j v hj)⟩
set_option maxRecDepth 100000 in
set_option maxHeartbeats 4000000 in
theorem ideal32 {w : World} (hT : Tab w) {n : Int} {v : Value} {ps : List (Int × Int)} (hp : ReadsP w v ps) (hl : ps.length ≤ 1000000) :
    Calls Tryd.prog 32 #[.int .i64 n, v] w (MadeE w (resL n ps (natI (bl (idl n.toNat (natP ps))))) (resE n ps)) := by
  unfold resL resE
  cases hv : vldB n ps
  · have hr := Lib.hid (read_bad hp hl hv)
    clear hp hl hv hT
    go_enter Tryd.func32, Tryd.ntmps32
    go_wp2_with (first
        | (go_at_call 47; refine (hr.out).mono ?_; rintro e w1 ⟨rfl, hb⟩; have hb1 := Lib.hid hb; have hth1 := Lib.hid (Th.new w1 (csD 0 []) 74 rfl); have hbA := Lib.hid (below_call hb (below_alloc1 w1 (.cells (csD 0 []) 74))); clear hb)
        | (refine ws74 (n := 0) (L := []) rfl _ _ rfl rfl rfl hth1.out ?_; intro W1 hW1; have hd1 := Lib.hid (show DAt W1 w1.heap.size (0) ([]) from by rw [hW1]; exact DAt.stored hth1.out); have hbW := Lib.hid (show Below w.heap.size w W1 from by rw [hW1]; exact below_setC hb1.out.size _ _ _ hbA.out); have hs1 := Lib.hid (show w1.heap.size < W1.heap.size from (DAt.stored hth1.out (n := 0) (L := []) |> fun h => by rw [hW1]; exact h.1)); clear hW1))
    refine bodyPost_ret (results_tmp2 rfl _ _ _) rfl ?_
    exact ⟨_, rfl, Ints.nil _ _, hbW.out⟩
  · have hr := Lib.hid (read_ok hp hl hv)
    have hD := (vld_ok hv).1
    have hnn := hD.nn
    have hD' := Lib.hid hD
    have hT' := Lib.hid hT
    generalize natP ps = L at hr hD' ⊢
    generalize n.toNat = m at hr hD' hnn ⊢
    clear hp hl hv hT hD
    have hpw : 2 ^ m ≤ 4096 := pow12 hnn
    have hal := Lib.hid (fun (W : World) => all64 (w := W) hD'.out)
    have hpr := Lib.hid (fun (W : World) (h : Below w.heap.size w W) => preferred54 (hT'.out.call h) hD'.out)
    have hle := Lib.hid (show (prefs m L).length ≤ 4096 from grt_len (sets_len hnn))
    have hlt4 := Lib.hid (show ∀ j, (prefs m L).getD j 0 < 4096 from getD_lt (fun x hx => lt12 hnn ((mem_prefs hnn).1 hx).1))
    have hmx := Lib.hid (fun (W : World) (B : Nat) (v : Value) (h : OwnU W B v (idls m L)) => max68 h (idl_mem hnn) (fun x hx => inn_le (idl_top hx)) (sets_len hnn))
    have hli := Lib.hid (fun (W : World) (h : Below w.heap.size w W) => list49 (hT'.out.call h) (R := idl m L) (lt12 hnn (idl_lt hnn)))
    have hst := Lib.hid (fun (W : World) (b6 b8 : Nat) (h : Below w.heap.size w W) (hB8 : b8 < W.heap.size) (h8 : W.cell? ⟨b8, 0, none⟩ = some (.int .u64 (cmn m (prefs m L) : Int))) (h6 : DAt W b6 m L) =>
      show Calls Tryd.prog 55 #[.agg (csD m L), .func (.func 65) #[] #[.pointer (some ⟨b8, 0, none⟩), .pointer (some ⟨b6, 0, none⟩)]] W (SetsEnd W (idls m L)) from
        sets55i (w := W) hD'.out (q := fun s => (cmn m (prefs m L) ||| s == cmn m (prefs m L)) && admB m L s) (fun W' S hS hb => ideal65 (hT'.out.call (below_call h hb)) hD'.out (lt12 hnn hS) (cmn_lt4 hnn _) ((hb.cell (p := ⟨b8, 0, none⟩) hB8).trans h8) (h6.below hb)))
    generalize idls m L = I at hmx hst
    generalize idl m L = Z at hmx hli ⊢
    clear hD'
    have hcm : cmn m (prefs m L) = (prefs m L).foldl (fun m s => m &&& s) (2 ^ m - 1) := rfl
    rw [hcm] at hst
    clear hcm
    generalize prefs m L = P at hpr hle hlt4 hst
    obtain ⟨N, hN⟩ : ∃ N, N = P.length := ⟨_, rfl⟩
    rw [← hN] at hle
    have hN' := Lib.hid hN
    clear hN
    go_enter Tryd.func32, Tryd.ntmps32
    go_upto_region 5 with (first
        | (go_at_call 47; refine (hr.out).mono ?_; rintro e w1 ⟨rfl, hb⟩; have hb1 := Lib.hid hb; have hth1 := Lib.hid (Th.new w1 (csD 0 []) 74 rfl); have hbA := Lib.hid (below_call hb (below_alloc1 w1 (.cells (csD 0 []) 74))); clear hb)
        | (refine ws74 (n := m) (L := L) rfl _ _ rfl rfl rfl hth1.out ?_; intro W1 hW1; have hd1 := Lib.hid (show DAt W1 w1.heap.size (m) (L) from by rw [hW1]; exact DAt.stored hth1.out); have hbW := Lib.hid (show Below w.heap.size w W1 from by rw [hW1]; exact below_setC hb1.out.size _ _ _ hbA.out); have hs1 := Lib.hid (show w1.heap.size < W1.heap.size from (DAt.stored hth1.out (n := m) (L := L) |> fun h => by rw [hW1]; exact h.1)); clear hW1)
        | (refine wl74 rfl _ rfl rfl hd1.out ?_)
        | (go_at_call 64; refine (hal.out _).mono ?_; rintro e w2 ⟨rfl, hb⟩; have hb2 := Lib.hid (below_call hbW.out hb); have hs2 := Lib.hid (Nat.lt_of_lt_of_le hs1.out hb.size); have hd2 := Lib.hid (hd1.out.below hb); clear hb hd1))
    obtain ⟨W3, hW3⟩ : ∃ W, W = w2.alloc (.cells #[.int .u64 ((2 ^ m - 1 : Nat) : Int)] 71) := ⟨_, rfl⟩
    obtain ⟨b8, hb8⟩ : ∃ b, b = w2.heap.size := ⟨_, rfl⟩
    obtain ⟨b6, hb6⟩ : ∃ b, b = w1.heap.size := ⟨_, rfl⟩
    have hbX := Lib.hid (show Below w.heap.size w W3 from by rw [hW3]; exact hb2.out.alloc hb2.out.size _)
    have hd3 := Lib.hid (show DAt W3 b6 m L from by rw [hW3, hb6]; exact hd2.out.below (below_alloc1 _ _))
    have h8 := Lib.hid (show W3.cell? ⟨b8, 0, none⟩ = some (.int .u64 ((2 ^ m - 1 : Nat) : Int)) from by rw [hW3, hb8, cells_new]; rfl)
    have h8f := Lib.hid (show W3.frozen? ⟨b8, 0, none⟩ = false from by rw [hW3, hb8]; exact frozen_of_row _ _ _ _ 71 (heap_alloc_new w2 _))
    have h8s := Lib.hid (show b8 < W3.heap.size from by rw [hW3, hb8]; simp)
    have hne := Lib.hid (show b6 ≠ b8 from by rw [hb6, hb8]; exact Nat.ne_of_lt hs2.out)
    have hb8w := Lib.hid (show w.heap.size ≤ b8 from by rw [hb8]; exact hb2.out.size)
    rw [← hW3, ← hb8, ← hb6]
    clear hW3 hb8 hb6 hd2 hs2 hb2
    go_wp2_with (first
        | (refine wl74 rfl _ rfl rfl hd3.out ?_)
        | (go_at_call 54; refine (hpr.out _ hbX.out).mono ?_; rintro e w3 ⟨v3, rfl, ho, hb⟩; have ho3 := Lib.hid ho; obtain ⟨ao, c, rfl, -⟩ := id ho.len; rw [← hN'.out]; have hd4 := Lib.hid (hd3.out.below hb); have c8 := Lib.hid ((hb.cell (p := ⟨b8, 0, none⟩) h8s.out).trans h8.out); have f8 := Lib.hid ((hb.frozen (p := ⟨b8, 0, none⟩) h8s.out).trans h8f.out); have hb3 := Lib.hid (below_call hbX.out hb); have hz3 := Lib.hid (Nat.lt_of_lt_of_le h8s.out hb.size); clear hb ho h8 h8f hd3 hpr))
    go_loopw [26] (fun p wr => ∃ k : Nat, k ≤ N ∧ p = .int .i64 (k : Int) ∧ Hid (But b8 w3 wr) ∧ Hid (wr.cell? ⟨b8, 0, none⟩ = some (.int .u64 (((P.take k).foldl (fun m s => m &&& s) (2 ^ m - 1) : Nat) : Int))) ∧ Hid (wr.frozen? ⟨b8, 0, none⟩ = false) ∧ Hid (Below w.heap.size w wr)) (fun p _ => N - (intOf p).toNat)
    case atStart => exact ⟨0, Nat.zero_le _, rfl, Lib.hid (But.refl _ _), c8, f8, hb3⟩
    case round =>
      obtain ⟨k, hk, rfl, hbt, hc8, hf8, hbr⟩ := hrel
      by_cases hlt : k < N
      · obtain ⟨g2, cap, e1, hB, hg2, hcell⟩ := ho3.out.parts (fun e => by have := hN'.out; rw [e] at this; simp at this; omega)
        obtain ⟨rfl, rfl⟩ : ao = some ⟨g2, 0, none⟩ ∧ c = cap := by injection e1 with a _ b; exact ⟨a, b⟩
        have ck := (hbt.out.2 ⟨g2, k, none⟩ (by show g2 ≠ b8; have := h8s.out; omega)).trans (hcell k (by rw [← hN'.out]; exact hlt))
        have hy := hlt4.out k
        have hnx := Lib.hid (cmn_step m (l := P) (k := k) (by rw [← hN'.out]; exact hlt))
        have hand := and_any (cmn_lt4 hnn (P.take k)) hy
        have hc8' := hc8.out
        have hf8' := hf8.out
        have hi1 : (k : Int) < N := by omega
        have hN4 : N ≤ 4096 := hle.out
        generalize P.getD k 0 = y at ck hy hnx hand
        generalize (P.take k).foldl (fun m s => m &&& s) (2 ^ m - 1) = F at hc8' hnx hand
        clear hcell e1 hy
        go_wp2_with fail
        go_roundw
        case rel => exact ⟨k + 1, by omega, by go_num, Lib.hid (hbt.out.set _ _), Lib.hid (by rw [hnx.out]; exact World.cell?_setCell_same' _ _ _ (by rw [hc8']; rfl)), Lib.hid (by rw [World.frozen?_setCell]; exact hf8'), Lib.hid (below_set hbr.out hb8w.out)⟩
        case measure => simp [intOf]; omega
      · have htk : P.take k = P := List.take_of_length_le (by rw [← hN'.out]; omega)
        rw [htk] at hc8
        have hd5 := Lib.hid (hd4.out.but hbt.out hne.out)
        have hsz := Lib.hid (show b8 < wr.heap.size from by rw [hbt.out.1]; exact hz3.out)
        clear htk
        go_wp2_with (first
          | (refine wl74 rfl _ rfl rfl hd5.out ?_)
          | (go_at_call 55; refine (hst.out _ _ _ hbr.out hsz.out hc8.out hd5.out).mono ?_; rintro e w5 ⟨v5, rfl, ho, hb⟩; have ho5 := Lib.hid ho; have hb5 := Lib.hid (below_call hbr.out hb); clear ho hb)
          | (go_at_call 68; refine (hmx.out _ _ _ ho5.out).mono ?_; rintro e w6 ⟨rfl, rfl⟩)
          | (go_at_call 49; refine (hli.out _ hb5.out).mono ?_; rintro e w7 ⟨v7, rfl, ho, hb⟩; have ho7 := Lib.hid (ho.1.base hb5.out.size); have hb7 := Lib.hid (below_call hb5.out hb); clear hb ho))
        refine bodyPost_ret (results_tmp2 rfl _ _ _) rfl ?_
        exact ⟨_, rfl, ho7.out, hb7.out⟩
end Go.Proofs.YtpcjigdmfchbdaaDoor
