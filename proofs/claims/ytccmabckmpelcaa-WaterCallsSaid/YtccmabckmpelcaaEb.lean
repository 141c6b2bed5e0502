import Derived.Test.YtccmabckmpelcaaEa
namespace Go.Proofs.Ytccmabckmpelcaa
open Go.RowKit

theorem info4 : (Try.prog.info? 4).map (fun i => (i.zero, i.size, i.bytes)) = some (some (.bool false), 1, 1) := by kernel_rfl
/-- A row of marks of one's own. -/
def BRow (w : World) (B g n : Nat) (bs : List Bool) : Prop := w.ownsRow B 4 1 (.slice (some ⟨g, 0, none⟩) n n) n (bs.map Value.bool) ∧ bs.length = n
theorem BRow.below {w w' : World} {B g n : Nat} {bs : List Bool} (h : BRow w B g n bs) (hb : Below w.heap.size w w') : BRow w' B g n bs := ⟨own_below h.1 hb, h.2⟩
theorem BRow.cell {w : World} {B g n : Nat} {bs : List Bool} (h : BRow w B g n bs) {j : Nat} (hj : j < n) : w.cell? ⟨g, j, none⟩ = some (.bool (bs.getD j false)) := by
  rw [h.1.cellAt j (by omega)]
  have := h.2
  simp [List.getD_eq_getElem?_getD, show j < bs.length by omega]
theorem BRow.frozen {w : World} {B g n : Nat} {bs : List Bool} (h : BRow w B g n bs) (j : Nat) : w.frozen? ⟨g, j, none⟩ = false := h.1.frozenAt j
theorem BRow.set {w : World} {B g n : Nat} {bs : List Bool} (h : BRow w B g n bs) (j : Nat) (y : Bool) : BRow (w.setCell ⟨g, j, none⟩ (.bool y)) B g n (bs.set j y) := by
  refine ⟨?_, by rw [List.length_set]; exact h.2⟩
  rw [List.map_set]; exact (h.1.stored j _).1
theorem make_brow {ops : Array Oper} {rest : List Oper} {o : Oper} {a : Act} {Q : Exit → Act → World → Prop} {w : World} {B : Nat}
    (n : Nat) (hC : n ≤ 1000000) (hB : B ≤ w.heap.size) (hg : o.guard = none) (l c : Operand) (hop : o.op = Op.makeSlice 70 l c)
    (hl : a.eval l = .int .i64 (n : Int)) (hc : a.eval c = .int .i64 (n : Int))
    (hK : ∀ w', BRow w' B w.heap.size n (List.replicate n false) → Below B w w' → wpList Try.prog ops Q rest (a.put o.dst (.slice (some ⟨w.heap.size, 0, none⟩) n n)) w') :
    wpList Try.prog ops Q (o :: rest) a w := by
  obtain ⟨i0, hi, hz0, hz1, hz2⟩ := info_parts info4
  refine wpList_plain hg fun K hK' => ?_
  have hr := run_make (P := Try.prog) w 70 4 i0 (.bool false) Try.underlying70 hi hz0 .i64 .i64 (n : Int) (n : Int) (by omega) (by omega) (by rw [hz2]; omega) (by omega)
  simp only [Int.toNat_natCast, hz1, Nat.mul_one] at hr
  unfold Oper.wp
  simp [execOp, hop, hl, hc, hr, Result.andThen]
  refine hK' _ _ (hK _ ⟨⟨by simp, .inr ⟨w.heap.size, n, _, rfl, hB, heap_alloc_new w _, Nat.le_refl _, by unfold maxLen; omega, by simp [size_madeCells], ?_⟩⟩, by simp⟩ ((Below.refl _ _).alloc hB _))
  show (madeCells #[Value.bool false] n).toList.take (n * 1) = _
  rw [toList_madeCells_one, Nat.mul_one, List.take_replicate, Nat.min_self, List.map_replicate]

/-- Which numbers were seen among the first `k`. -/
def seenK (ag : List Int) (n k : Nat) : List Bool := (List.range n).map fun (a : Nat) => decide (((a : Nat) : Int) ∈ ag.take k)
theorem seenK_zero (ag : List Int) (n : Nat) : seenK ag n 0 = List.replicate n false := by
  unfold seenK
  refine List.ext_getElem (by simp) fun i h1 h2 => ?_
  simp
theorem seenK_at (ag : List Int) (n k a : Nat) (h : a < n) : (seenK ag n k).getD a false = decide (((a : Nat) : Int) ∈ ag.take k) := by
  unfold seenK; simp [List.getD_eq_getElem?_getD, h]
theorem take_snocI (xs : List Int) (k : Nat) (h : k < xs.length) : xs.take (k + 1) = xs.take k ++ [xs.getD k 0] := by
  rw [List.take_succ_eq_append_getElem h]; simp [List.getD_eq_getElem?_getD, h]
theorem seenK_set (ag : List Int) (n k p : Nat) (hk : k < ag.length) (hp : ag.getD k 0 = (p : Int)) : (seenK ag n k).set p true = seenK ag n (k + 1) := by
  have ht := take_snocI ag k hk
  rw [hp] at ht
  unfold seenK
  refine List.ext_getElem (by simp) fun i h1 h2 => ?_
  rw [List.getElem_set]
  simp only [List.getElem_map, List.getElem_range]
  rw [ht]
  by_cases e : p = i
  · subst e; simp
  · rw [if_neg e]
    simp only [List.mem_append, List.mem_singleton]
    have : ¬ ((i : Int) = (p : Int)) := by omega
    simp [this]

set_option maxHeartbeats 4000000 in
set_option maxRecDepth 100000 in
theorem rights35 {w : World} {u v z : Value} {fs rs ag : List Int} (hu : Reads w u fs) (hv : Reads w v rs) (hz : Reads w z ag) (_ : fs.length ≤ 1000000) (_ : rs.length ≤ 1000000) (_ : ag.length ≤ 1000000) :
    Calls Try.prog 35 #[u, v, z] w fun e w' => e = .returned (.bool (rightsB fs rs ag)) ∧ Below w.heap.size w w' := by
  have hu' := Lib.hid hu
  have hv' := Lib.hid hv
  have hz' := Lib.hid hz
  obtain ⟨fo, fc, rfl, _, _⟩ := hu
  obtain ⟨ro, rc, rfl, _, _⟩ := hv
  obtain ⟨ao, ac, rfl, _, _⟩ := hz
  by_cases hlen : 1 ≤ fs.length ∧ fs.length ≤ 8
  · obtain ⟨hn1, hn8⟩ := hlen
    by_cases hrl : rs.length = fs.length
    · by_cases hal : ag.length = fs.length
      · obtain ⟨n, hn⟩ : ∃ n, n = fs.length := ⟨_, rfl⟩
        rw [hrl] at hv' ⊢
        rw [hal] at hz' ⊢
        rw [← hn] at hu' hv' hz' hn1 hn8 hrl hal ⊢
        have hn' := Lib.hid hn
        have hrl' := Lib.hid hrl
        have hal' := Lib.hid hal
        have hneq : ((n : Int) != (n : Int)) = false := by simp
        have hrb := Lib.hid (show rightsB fs rs ag = (amt fs && amt rs && agesB ag n) by
          unfold rightsB flowB
          rw [hrl, ← hn]
          simp [hn1, hn8])
        have wa : IntKind.i64.wrap ((n : Int) - 1) = (n : Int) - 1 := IntWalk.i64_in _ (by omega)
        clear hn hrl hal
        go_enter Try.func35, Try.ntmps35
        go_wp2_with (first | (go_at_call 42; refine (in42_yes _ 1 8 _ (by omega) (by omega)).mono ?_; rintro e w1 ⟨rfl, e1⟩; rw [e1]; clear e1) | (at_make; refine make_brow n (by omega) (Nat.le_refl w.heap.size) rfl _ _ rfl rfl rfl ?_; intro w3 hr3 hb3))
        obtain ⟨g0, hg0⟩ : ∃ g0, g0 = w.heap.size := ⟨_, rfl⟩
        rw [← hg0] at hr3 hb3 ⊢
        have hg0' := Lib.hid hg0
        clear hg0
        go_loopw [9] (fun i wr => ∃ (k : Nat), k ≤ n ∧ i = .int .i64 k ∧ Hid (∀ j, j < k → (0 ≤ fs.getD j 0 ∧ fs.getD j 0 ≤ 30) ∧ (0 ≤ rs.getD j 0 ∧ rs.getD j 0 ≤ 30) ∧ (0 ≤ ag.getD j 0 ∧ ag.getD j 0 < n)) ∧ Hid ((ag.take k).Nodup) ∧ BRow wr g0 g0 n (seenK ag n k) ∧ Below g0 w wr) (fun i _ => n - (intOf i).toNat)
        case atStart => exact ⟨0, Nat.zero_le _, rfl, Lib.hid (fun j hj => by omega), Lib.hid (by simp), by rw [seenK_zero]; exact hr3, hb3⟩
        case round =>
          obtain ⟨k, hk, rfl, hall, hnd, hrow, hb⟩ := hrel
          have hrow' := Lib.hid hrow
          clear hrow
          by_cases hlt : k < n
          · obtain ⟨g1, o1, rfl, hg1, hc1⟩ := hu'.out.at hn'.out.symm hlt
            obtain ⟨g2, o2, rfl, hg2, hc2⟩ := hv'.out.at hrl'.out hlt
            obtain ⟨g3, o3, rfl, hg3, hc3⟩ := hz'.out.at hal'.out hlt
            have c1 := (hb.cell (p := ⟨g1, o1 + k, none⟩) (by rw [hg0'.out]; exact hg1)).trans (hc1 k hlt)
            have c2 := (hb.cell (p := ⟨g2, o2 + k, none⟩) (by rw [hg0'.out]; exact hg2)).trans (hc2 k hlt)
            have c3 := (hb.cell (p := ⟨g3, o3 + k, none⟩) (by rw [hg0'.out]; exact hg3)).trans (hc3 k hlt)
            have hfalse := Lib.hid (show (fs.getD k 0 < 0 ∨ 30 < fs.getD k 0) ∨ (rs.getD k 0 < 0 ∨ 30 < rs.getD k 0) ∨ ((ag.getD k 0 < 0 ∨ (n : Int) ≤ ag.getD k 0) ∨ ag.getD k 0 ∈ ag.take k) → false = rightsB fs rs ag from fun h => by
              rw [hrb.out]
              rcases h with h | h | h
              · rw [amt_false (by rw [← hn'.out]; exact hlt) h]; rfl
              · rw [amt_false (by rw [hrl'.out]; exact hlt) h]; simp
              · rw [ages_not hal'.out hlt h]; simp)
            have hgo := Lib.hid (show (0 ≤ fs.getD k 0 ∧ fs.getD k 0 ≤ 30) → (0 ≤ rs.getD k 0 ∧ rs.getD k 0 ≤ 30) → (0 ≤ ag.getD k 0 ∧ ag.getD k 0 < n) → ∀ j, j < k + 1 → (0 ≤ fs.getD j 0 ∧ fs.getD j 0 ≤ 30) ∧ (0 ≤ rs.getD j 0 ∧ rs.getD j 0 ≤ 30) ∧ (0 ≤ ag.getD j 0 ∧ ag.getD j 0 < n) from fun a b c j hj => by
              by_cases e : j = k
              · rw [e]; exact ⟨a, b, c⟩
              · exact hall.out j (by omega))
            obtain ⟨x, hx⟩ : ∃ x, x = fs.getD k 0 := ⟨_, rfl⟩
            obtain ⟨y, hy⟩ : ∃ x, x = rs.getD k 0 := ⟨_, rfl⟩
            obtain ⟨q, hq⟩ : ∃ x, x = ag.getD k 0 := ⟨_, rfl⟩
            rw [← hx] at c1
            rw [← hy] at c2
            rw [← hq] at c3
            rw [← hx, ← hy, ← hq] at hfalse hgo
            have hq' := Lib.hid hq
            clear hc1 hc2 hc3 hx hy hq
            by_cases hxr : 0 ≤ x ∧ x ≤ 30
            · obtain ⟨x0, x1⟩ := hxr
              by_cases hyr : 0 ≤ y ∧ y ≤ 30
              · obtain ⟨y0, y1⟩ := hyr
                by_cases hqr : 0 ≤ q ∧ q < n
                · obtain ⟨q0, q1⟩ := hqr
                  obtain ⟨p, rfl⟩ : ∃ p : Nat, q = (p : Int) := ⟨q.toNat, by omega⟩
                  have hpn : p < n := by omega
                  have cb := hrow'.out.cell hpn
                  have fb := hrow'.out.frozen p
                  rw [seenK_at _ _ _ _ hpn] at cb
                  have hset := Lib.hid (seenK_set ag n k p (by rw [hal'.out]; exact hlt) hq'.out.symm)
                  by_cases hmem : ((p : Nat) : Int) ∈ ag.take k
                  · have hr := Lib.hid (hfalse.out (.inr (.inr (.inr hmem))))
                    have hdt : decide (((p : Nat) : Int) ∈ ag.take k) = true := by simpa using hmem
                    rw [hdt] at cb
                    clear hmem hdt
                    go_wp2_with fail
                    refine (in42_yes x 0 30 _ x0 x1).mono ?_
                    rintro e w1 ⟨rfl, e1⟩
                    rw [e1]
                    clear e1
                    go_wp2_with fail
                    refine (in42_yes y 0 30 _ y0 y1).mono ?_
                    rintro e w1 ⟨rfl, e1⟩
                    rw [e1]
                    clear e1
                    go_wp2_with fail
                    refine (in42_yes (p : Int) 0 ((n : Int) - 1) _ (by omega) (by omega)).mono ?_
                    rintro e w1 ⟨rfl, e1⟩
                    rw [e1]
                    clear e1
                    go_wp2_with fail
                    go_ret
                    exact ⟨ret_b hr.out, by rw [← hg0'.out]; exact hb⟩
                  · have hdt : decide (((p : Nat) : Int) ∈ ag.take k) = false := by simpa using hmem
                    rw [hdt] at cb
                    have hnd2 := Lib.hid (show (ag.take (k + 1)).Nodup by
                      rw [take_snocI ag k (by rw [hal'.out]; exact hlt), ← hq'.out, List.nodup_append]
                      refine ⟨hnd.out, by simp, fun a ha b hb2 => ?_⟩
                      simp at hb2
                      rintro rfl
                      exact hmem (hb2 ▸ ha))
                    have hgo2 := Lib.hid (hgo.out ⟨x0, x1⟩ ⟨y0, y1⟩ ⟨q0, q1⟩)
                    clear hmem hdt
                    go_wp2_with fail
                    refine (in42_yes x 0 30 _ x0 x1).mono ?_
                    rintro e w1 ⟨rfl, e1⟩
                    rw [e1]
                    clear e1
                    go_wp2_with fail
                    refine (in42_yes y 0 30 _ y0 y1).mono ?_
                    rintro e w1 ⟨rfl, e1⟩
                    rw [e1]
                    clear e1
                    go_wp2_with fail
                    refine (in42_yes (p : Int) 0 ((n : Int) - 1) _ (by omega) (by omega)).mono ?_
                    rintro e w1 ⟨rfl, e1⟩
                    rw [e1]
                    clear e1
                    go_wp2_with fail
                    go_roundw
                    case rel => exact ⟨k + 1, by omega, by go_num, hgo2, hnd2, by rw [← hset.out]; exact hrow'.out.set p true, below_set hb (Nat.le_refl _)⟩
                    case measure => simp [intOf]; omega
                · have hno := Lib.hid (show q < 0 ∨ (n : Int) - 1 < q by omega)
                  have hr := Lib.hid (hfalse.out (.inr (.inr (.inl (by omega)))))
                  clear hqr
                  go_wp2_with fail
                  refine (in42_yes x 0 30 _ x0 x1).mono ?_
                  rintro e w1 ⟨rfl, e1⟩
                  rw [e1]
                  clear e1
                  go_wp2_with fail
                  refine (in42_yes y 0 30 _ y0 y1).mono ?_
                  rintro e w1 ⟨rfl, e1⟩
                  rw [e1]
                  clear e1
                  go_wp2_with fail
                  refine (in42_no q 0 ((n : Int) - 1) _ hno.out).mono ?_
                  rintro e w1 ⟨rfl, e1⟩
                  rw [e1]
                  clear e1
                  go_wp2_with fail
                  go_ret
                  exact ⟨ret_b hr.out, by rw [← hg0'.out]; exact hb⟩
              · have hno := Lib.hid (show y < 0 ∨ 30 < y by omega)
                have hr := Lib.hid (hfalse.out (.inr (.inl (by omega))))
                clear hyr
                go_wp2_with fail
                refine (in42_yes x 0 30 _ x0 x1).mono ?_
                rintro e w1 ⟨rfl, e1⟩
                rw [e1]
                clear e1
                go_wp2_with fail
                refine (in42_no y 0 30 _ hno.out).mono ?_
                rintro e w1 ⟨rfl, e1⟩
                rw [e1]
                clear e1
                go_wp2_with fail
                go_ret
                exact ⟨ret_b hr.out, by rw [← hg0'.out]; exact hb⟩
            · have hno := Lib.hid (show x < 0 ∨ 30 < x by omega)
              have hr := Lib.hid (hfalse.out (.inl (by omega)))
              clear hxr
              go_wp2_with fail
              refine (in42_no x 0 30 _ hno.out).mono ?_
              rintro e w1 ⟨rfl, e1⟩
              rw [e1]
              clear e1
              go_wp2_with fail
              go_ret
              exact ⟨ret_b hr.out, by rw [← hg0'.out]; exact hb⟩
          · have hkn : k = n := by omega
            subst hkn
            have hr := Lib.hid (show true = rightsB fs rs ag by
              rw [hrb.out, amt_of (fun j hj => (hall.out j (by rw [← hn'.out] at hj; exact hj)).1), amt_of (fun j hj => (hall.out j (by rw [hrl'.out] at hj; exact hj)).2.1),
                ages_of hal'.out (fun j hj => (hall.out j hj).2.2) (by have := hnd.out; rwa [List.take_of_length_le (by rw [hal'.out]; exact Nat.le_refl _)] at this)]; rfl)
            go_wp2
            go_ret
            exact ⟨ret_b hr.out, by rw [← hg0'.out]; exact hb⟩
      · have hr := Lib.hid (show false = rightsB fs rs ag by unfold rightsB agesB; simp [hal])
        have ht : ((ag.length : Int) != (fs.length : Int)) = true := by simp; omega
        have hneq : ((fs.length : Int) != (fs.length : Int)) = false := by simp
        clear hal
        rw [hrl]
        go_enter Try.func35, Try.ntmps35
        go_wp2_with fail
        refine (in42_yes _ 1 8 _ (by omega) (by omega)).mono ?_
        rintro e w1 ⟨rfl, e1⟩
        rw [e1]
        clear e1
        go_wp2_with fail
        go_ret
        exact ⟨ret_b hr.out, Below.refl _ _⟩
    · have hr := Lib.hid (show false = rightsB fs rs ag by unfold rightsB; simp [hrl])
      have ht : ((rs.length : Int) != (fs.length : Int)) = true := by simp; omega
      clear hrl
      go_enter Try.func35, Try.ntmps35
      go_wp2_with fail
      refine (in42_yes _ 1 8 _ (by omega) (by omega)).mono ?_
      rintro e w1 ⟨rfl, e1⟩
      rw [e1]
      clear e1
      go_wp2_with fail
      go_ret
      exact ⟨ret_b hr.out, Below.refl _ _⟩
  · have hr := Lib.hid (show false = rightsB fs rs ag by
      unfold rightsB flowB
      by_cases e : 1 ≤ fs.length
      · simp [show ¬ fs.length ≤ 8 by omega]
      · simp [e])
    have hno := Lib.hid (show (fs.length : Int) < 1 ∨ 8 < (fs.length : Int) by omega)
    clear hlen
    go_enter Try.func35, Try.ntmps35
    go_wp2_with fail
    refine (in42_no _ 1 8 _ hno.out).mono ?_
    rintro e w1 ⟨rfl, e1⟩
    rw [e1]
    clear e1
    go_wp2_with fail
    go_ret
    exact ⟨ret_b hr.out, Below.refl _ _⟩
end Go.Proofs.Ytccmabckmpelcaa
