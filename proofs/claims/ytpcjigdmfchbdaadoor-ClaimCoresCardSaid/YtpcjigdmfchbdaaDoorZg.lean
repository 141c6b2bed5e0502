import Derived.Test.YtpcjigdmfchbdaaDoorZf
namespace Go.Proofs.YtpcjigdmfchbdaaDoor
open Go.RowKit Go.Shelf Cl

/-- append(s, y) of one struct, at a step of a drawn region. -/
theorem step_row {ops : Array Oper} {o : Oper} {a : Act} {w : World} {K : Act → World → Prop} {Q : Exit → Act → World → Prop} {E : Prop} {B n z bytes : Nat} {v : Value} {xs : List Value} {t e : TypeId} {i0 : TypeInfo} {zv : Value}
    (ht : Tryd.prog.underlying t = some (.slice e)) (hi : Tryd.prog.info? e = some i0) (hz0 : i0.zero = some zv) (hz1 : i0.size = z) (hz2 : i0.bytes = bytes) (hzc : zv.cells.size = z) (hz : 0 < z) (hby : bytes ≤ 100)
    (hg : o.guard = none) (s x : Operand) (hop : o.op = Op.call { callee := Callee.builtin Builtin.append, args := #[s, x], argTypes := #[t, t] })
    (hown : w.ownsRow B e z v n xs) (hs : a.eval s = v) (g : Nat) (hx : a.eval x = .slice (some ⟨g, 0, none⟩) 1 1) (cs : List Value) (hl : cs.length = z) (hc : ∀ j u, cs[j]? = some u → w.cell? ⟨g, j, none⟩ = some u) (h1 : ∀ u ∈ cs, u.oneCell' = true) (hlen : n ≤ 999999) (hB : B ≤ w.heap.size)
    (hK : ∀ v' w', w'.ownsRow B e z v' (n + 1) (xs ++ cs) → Below B w w' → K (a.put o.dst v') w') :
    if Region.wanted o (yielded ops a.tmps) = true then Oper.wp Tryd.prog o a w K Q else E := by
  have hw : Region.wanted o (yielded ops a.tmps) = true := by simp [Region.wanted, hg]
  rw [if_pos hw]
  have hc2 : ∀ j u, cs[j]? = some u → w.cell? ((⟨g, 0, none⟩ : Addr).add j) = some u := by
    intro j u hj
    rw [Addr.add_mid, Nat.zero_add]; exact hc j u hj
  obtain ⟨v', w', hrun, r1, r2, _⟩ := run_append_own (P := Tryd.prog) w B t o.type e i0 zv z bytes ht hi hz0 hz1 hz2 hzc hz v n xs hown ⟨g, 0, none⟩ 1 1 cs (by rw [hl, Nat.one_mul]) hc2 h1 (by unfold maxLen; omega) (by have := Nat.mul_le_mul (show n + 1 ≤ 1000000 by omega) hby; omega) hB
  unfold Oper.wp
  simp [execOp, hop, resolve, invoke, builtin, hs, hx, hrun, Result.andThen]
  exact hK v' w' r1 ((Below.refl B w).grown r2 hB (fun k hk => (World.ownsRow.lt hown k hk).1))
def enc2 (x : Nat × Nat) : List Value := [.int .u8 (x.1 : Int), .int .u8 (x.2 : Int)]
theorem enc2_len (x : Nat × Nat) : (enc2 x).length = 2 := rfl
/-- A slice of pairs of bytes that came in. -/
def InDuo (w : World) (v : Value) (xs : List (Nat × Nat)) : Prop := FlatR w 2 v xs.length (flat enc2 xs) ∧ xs.length ≤ maxLen ∧ ∀ x ∈ xs, x.1 < 256 ∧ x.2 < 256
def OwnP (w : World) (B : Nat) (v : Value) (ps : List (Int × Int)) : Prop := w.ownsRow B 58 2 v ps.length (flat encP ps)
theorem OwnP.below {B : Nat} {v : Value} {ps : List (Int × Int)} {w w' : World} (h : OwnP w B v ps) (hb : Below w.heap.size w w') : OwnP w' B v ps := own_below h hb
theorem OwnP.reads {B : Nat} {v : Value} {ps : List (Int × Int)} {w : World} (h : OwnP w B v ps) : ReadsP w v ps := own_flatR h
theorem info58 : (Tryd.prog.info? 58).map (fun i => (i.zero, i.size, i.bytes)) = some (some (.agg #[.int .i64 0, .int .i64 0]), 2, 16) := by kernel_rfl
def szM (n most : Nat) : Nat := n % most + 1
/-- The dispute that is made. -/
def mkL (sz : Nat) (xs : List (Nat × Nat)) : Atts := (xs.take 40).map fun x => (x.1 % sz, x.2 % sz)
def toI (L : Atts) : List (Int × Int) := L.map fun p => ((p.1 : Int), (p.2 : Int))
theorem toI_snoc (L : Atts) (a b : Nat) : toI (L ++ [(a, b)]) = toI L ++ [((a : Int), (b : Int))] := by simp [toI]
theorem natP_toI (L : Atts) : natP (toI L) = L := by
  unfold natP toI
  rw [List.map_map]
  conv => rhs; rw [← List.map_id L]
  apply List.map_congr_left
  rintro ⟨a, b⟩ _
  simp
theorem mkL_within {sz : Nat} (h : 0 < sz) (xs : List (Nat × Nat)) : Within sz (mkL sz xs) := by
  intro p hp
  obtain ⟨x, _, rfl⟩ := List.mem_map.1 hp
  exact ⟨Nat.mod_lt _ h, Nat.mod_lt _ h⟩
theorem mkL_len (sz : Nat) (xs : List (Nat × Nat)) : (mkL sz xs).length ≤ 40 := by unfold mkL; rw [List.length_map, List.length_take]; omega
theorem mk_vld {sz : Nat} (h1 : 1 ≤ sz) (h2 : sz ≤ 12) (xs : List (Nat × Nat)) : vldB (sz : Int) (toI (mkL sz xs)) = true := by
  unfold vldB
  simp only [Bool.and_eq_true, decide_eq_true_eq, List.all_eq_true]
  refine ⟨⟨⟨by omega, by omega⟩, ?_⟩, fun p hp => ?_⟩
  · unfold toI; rw [List.length_map]; exact mkL_len sz xs
  · obtain ⟨q, hq, rfl⟩ := List.mem_map.1 hp
    have := mkL_within (by omega) xs q hq
    unfold okP
    simp only [Bool.and_eq_true, decide_eq_true_eq]
    exact ⟨⟨⟨by omega, by omega⟩, by omega⟩, by omega⟩
def MadeD (w : World) (sz : Nat) (L : Atts) (e : Ending) (w' : World) : Prop := ∃ v, e = .returned (.tuple #[.int .i64 (sz : Int), v]) ∧ OwnP w' w.heap.size v (toI L) ∧ Below w.heap.size w w'
set_option maxRecDepth 100000 in
set_option maxHeartbeats 4000000 in
theorem made43 {w : World} {n most : Nat} {v : Value} {xs : List (Nat × Nat)} (hn : n < 256) (hm1 : 1 ≤ most) (hm2 : most ≤ 12) (hx : InDuo w v xs) :
    Calls Tryd.prog 43 #[.int .u8 (n : Int), v, .int .i64 (most : Int)] w (MadeD w (szM n most) (mkL (szM n most) xs)) := by
  obtain ⟨⟨_, ao, c, rfl, hnc, _, hcl⟩, hmx, h8⟩ := hx
  have hcl' := Lib.hid hcl
  have h8' := Lib.hid h8
  obtain ⟨N, hN⟩ : ∃ N, N = xs.length := ⟨_, rfl⟩
  have hN' := Lib.hid hN
  rw [← hN] at hmx hnc ⊢
  have hmx' : N ≤ 9223372036854775807 := by unfold maxLen at hmx; omega
  obtain ⟨sz, hsz⟩ : ∃ sz, sz = szM n most := ⟨_, rfl⟩
  have hsz' : sz = n % most + 1 := hsz
  have hlt := Nat.mod_lt n (show 0 < most by omega)
  have hrem : ((n : Int) % (most : Int)) = ((n % most : Nat) : Int) := (Int.natCast_emod n most).symm
  rw [← hsz]
  clear hcl h8 hN hsz hmx hnc
  generalize n % most = r at hsz' hlt hrem
  have hszI : (sz : Int) = (r : Int) + 1 := by omega
  have hsz1 : 1 ≤ sz := by omega
  have hsz2 : sz ≤ 12 := by omega
  have hq := Lib.hid hszI
  clear hsz' hszI
  go_enter Tryd.func43, Tryd.ntmps43
  go_upto_region 2 with fail
  rw [← hq.out]
  clear hlt hrem hm1 hm2
  have hown0 := Lib.hid (show OwnP (w.alloc (.cells #[] 58)) w.heap.size (.slice (some ⟨w.heap.size, 0, none⟩) 0 0) (toI ((xs.take 0).map fun x => (x.1 % sz, x.2 % sz))) from World.ownsRow_made w #[] 0 (Nat.le_refl _) (by unfold maxLen; omega) (by simp))
  have hbw := Lib.hid (below_alloc1 w (.cells #[] 58))
  go_wp2_with fail
  go_loopw [9, 10] (fun v p wr => ∃ i : Nat, i ≤ N ∧ i ≤ 40 ∧ p = .int .i64 (i : Int) ∧ Hid (OwnP wr w.heap.size v (toI ((xs.take i).map fun x => (x.1 % sz, x.2 % sz)))) ∧ Hid (Below w.heap.size w wr)) (fun _ p _ => 40 - (intOf p).toNat)
  case atStart => exact ⟨0, Nat.zero_le _, by omega, rfl, hown0, hbw⟩
  case round =>
    obtain ⟨i, hi, hi40, rfl, ho, hb⟩ := hrel
    by_cases hlt : i < N ∧ i < 40
    · obtain ⟨hl1, hl2⟩ := hlt
      obtain ⟨g, o, rfl, hg0, hcell⟩ := hcl'.out (by rw [← hN'.out]; omega)
      have hix : i < xs.length := by rw [← hN'.out]; exact hl1
      have e0 := flat_at enc2_len xs i 0 hix (by decide)
      have e1 := flat_at enc2_len xs i 1 hix (by decide)
      have h88 := h8'.out xs[i] (List.getElem_mem hix)
      have hsn : (xs.take (i + 1)).map (fun x => (x.1 % sz, x.2 % sz)) = (xs.take i).map (fun x => (x.1 % sz, x.2 % sz)) ++ [(xs[i].1 % sz, xs[i].2 % sz)] := by
        rw [List.take_succ_eq_append_getElem hix, List.map_append]; rfl
      have hL : (toI ((xs.take i).map fun x => (x.1 % sz, x.2 % sz))).length = i := by unfold toI; rw [List.length_map, List.length_map, List.length_take]; omega
      have hL' := Lib.hid hL
      have f0 := hcell (i * 2 + 0) _ e0
      have f1 := hcell (i * 2 + 1) _ e1
      generalize xs[i] = x at f0 f1 h88 hsn
      obtain ⟨a, b⟩ := x
      have ca := Lib.hid (show wr.cell? ⟨g, o + i * 2, none⟩ = some (.int .u8 (a : Int)) from (hb.out.cell (p := ⟨g, o + i * 2, none⟩) hg0).trans f0)
      have cb := Lib.hid (show wr.cell? ⟨g, o + i * 2 + 1, none⟩ = some (.int .u8 (b : Int)) from (hb.out.cell (p := ⟨g, o + i * 2 + 1, none⟩) hg0).trans f1)
      obtain ⟨ha8, hb8⟩ := h88
      have ho' := Lib.hid (show wr.ownsRow w.heap.size 58 2 u9 i (flat encP (toI ((xs.take i).map fun x => (x.1 % sz, x.2 % sz)))) from by have := ho.out; unfold OwnP at this; rw [hL] at this; exact this)
      obtain ⟨pa, hpa⟩ : ∃ pa, pa = a % sz := ⟨_, rfl⟩
      obtain ⟨pb, hpb⟩ : ∃ pb, pb = b % sz := ⟨_, rfl⟩
      rw [← hpa, ← hpb] at hsn
      have hsn' := Lib.hid hsn
      have hma := Lib.hid (show ((a : Int)).tmod (sz : Int) = (pa : Int) from by rw [Int.tmod_eq_emod_of_nonneg (by omega), hpa]; rfl)
      have hmb := Lib.hid (show ((b : Int)).tmod (sz : Int) = (pb : Int) from by rw [Int.tmod_eq_emod_of_nonneg (by omega), hpb]; rfl)
      have hwa := Lib.hid (show IntKind.i64.wrap (a : Int) = a from IntWalk.i64_in _ ⟨by omega, by omega⟩)
      have hwb := Lib.hid (show IntKind.i64.wrap (b : Int) = b from IntWalk.i64_in _ ⟨by omega, by omega⟩)
      have hs0 := Lib.hid (show ¬ sz = 0 from by omega)
      clear hpa hpb
      have hg : g < wr.heap.size := Nat.lt_of_lt_of_le hg0 hb.out.size
      have hii := Lib.hid (show (i : Int) < N from by omega)
      clear hsn hL f0 f1 e0 e1 hcell ho
      have hi1 : (i : Int) < N := by omega
      have hi2 : (i : Int) < 40 := by omega
      go_wp2_with fail
      refine wp_region_noPanic ?_
      refine wp_region_any (by kernel_rfl) (wpAny_of_held (S := fun w' => Below w.heap.size w w' ∧ w'.cell? ⟨g, o + i * 2, none⟩ = some (.int .u8 (a : Int)) ∧ w'.cell? ⟨g, o + i * 2 + 1, none⟩ = some (.int .u8 (b : Int))) _ _ _ _ ?_)
      have hHeld : Below w.heap.size w wr.drew ∧ wr.drew.cell? ⟨g, o + i * 2, none⟩ = some (.int .u8 (a : Int)) ∧ wr.drew.cell? ⟨g, o + i * 2 + 1, none⟩ = some (.int .u8 (b : Int)) := ⟨hb.out.drew, ca.out, cb.out⟩
      change wpAnyH _ _ _ _ _ _ _ _ wr.drew
      simp only [List.size_toArray, List.length_cons, List.length_nil, Nat.reduceAdd, Array.replicate_succ, Array.replicate_zero, List.push_toArray, List.nil_append, List.cons_append]
      refine wpAnyH_take (i := 0) (v := u9) rfl (by kernel_rfl) (by kernel_rfl) (by kernel_rfl) (fun _ _ _ h => h) (Or.inl ⟨by rfl, ?_⟩) hHeld ?_
      · intro w' hSw; go_simp
      simp only [Act.put, List.setIfInBounds_toArray, List.set_cons_zero, List.set_cons_succ, List.getElem_toArray, List.getElem_cons_zero]
      refine wpAnyH_take (i := 1) (v := .slice (some ⟨g, o, none⟩) N c) rfl (by kernel_rfl) (by kernel_rfl) (by kernel_rfl) (fun _ _ _ h => h) (Or.inl ⟨by rfl, ?_⟩) hHeld ?_
      · intro w' hSw; go_simp
      simp only [Act.put, List.setIfInBounds_toArray, List.set_cons_zero, List.set_cons_succ, List.getElem_toArray, List.getElem_cons_succ, List.getElem_cons_zero]
      refine wpAnyH_take (i := 2) (v := .int .i64 (i : Int)) rfl (by kernel_rfl) (by kernel_rfl) (by kernel_rfl) (fun _ _ _ h => h) (Or.inl ⟨by rfl, ?_⟩) hHeld ?_
      · intro w' hSw; go_simp
      simp only [Act.put, List.setIfInBounds_toArray, List.set_cons_zero, List.set_cons_succ, List.getElem_toArray, List.getElem_cons_succ, List.getElem_cons_zero]
      refine wpAnyH_take (i := 3) (v := .pointer (some ⟨g, o + i * 2, none⟩)) rfl (by kernel_rfl) (by kernel_rfl) (by kernel_rfl) (fun _ _ _ h => h) (Or.inl ⟨by rfl, ?_⟩) hHeld ?_
      · intro w' hSw; have hi1 : (i : Int) < N := hii.out; go_simp
      simp only [Act.put, List.setIfInBounds_toArray, List.set_cons_zero, List.set_cons_succ, List.getElem_toArray, List.getElem_cons_succ, List.getElem_cons_zero]
      refine wpAnyH_take (i := 4) (v := .pointer (some ⟨g, o + i * 2, none⟩)) rfl (by kernel_rfl) (by kernel_rfl) (by kernel_rfl) (fun _ _ _ h => h) (Or.inl ⟨by rfl, ?_⟩) hHeld ?_
      · intro w' hSw; go_simp
      simp only [Act.put, List.setIfInBounds_toArray, List.set_cons_zero, List.set_cons_succ, List.getElem_toArray, List.getElem_cons_succ, List.getElem_cons_zero]
      refine wpAnyH_take (i := 5) (v := .int .u8 (a : Int)) rfl (by kernel_rfl) (by kernel_rfl) (by kernel_rfl) (fun _ _ _ h => h) (Or.inl ⟨by rfl, ?_⟩) hHeld ?_
      · intro w' hSw; have a0 := hSw.2.1; go_simp
      simp only [Act.put, List.setIfInBounds_toArray, List.set_cons_zero, List.set_cons_succ, List.getElem_toArray, List.getElem_cons_succ, List.getElem_cons_zero]
      refine wpAnyH_take (i := 6) (v := .int .i64 (a : Int)) rfl (by kernel_rfl) (by kernel_rfl) (by kernel_rfl) (fun _ _ _ h => h) (Or.inl ⟨by rfl, ?_⟩) hHeld ?_
      · intro w' hSw; have a0 := hwa.out; go_simp
      simp only [Act.put, List.setIfInBounds_toArray, List.set_cons_zero, List.set_cons_succ, List.getElem_toArray, List.getElem_cons_succ, List.getElem_cons_zero]
      refine wpAnyH_take (i := 7) (v := .int .i64 (sz : Int)) rfl (by kernel_rfl) (by kernel_rfl) (by kernel_rfl) (fun _ _ _ h => h) (Or.inl ⟨by rfl, ?_⟩) hHeld ?_
      · intro w' hSw; go_simp
      simp only [Act.put, List.setIfInBounds_toArray, List.set_cons_zero, List.set_cons_succ, List.getElem_toArray, List.getElem_cons_succ, List.getElem_cons_zero]
      refine wpAnyH_take (i := 8) (v := .int .i64 (pa : Int)) rfl (by kernel_rfl) (by kernel_rfl) (by kernel_rfl) (fun _ _ _ h => h) (Or.inl ⟨by rfl, ?_⟩) hHeld ?_
      · intro w' hSw; have a0 := hma.out; have a1 := hs0.out; go_simp
      simp only [Act.put, List.setIfInBounds_toArray, List.set_cons_zero, List.set_cons_succ, List.getElem_toArray, List.getElem_cons_succ, List.getElem_cons_zero]
      refine wpAnyH_take (i := 9) (v := .slice (some ⟨g, o, none⟩) N c) rfl (by kernel_rfl) (by kernel_rfl) (by kernel_rfl) (fun _ _ _ h => h) (Or.inl ⟨by rfl, ?_⟩) hHeld ?_
      · intro w' hSw; go_simp
      simp only [Act.put, List.setIfInBounds_toArray, List.set_cons_zero, List.set_cons_succ, List.getElem_toArray, List.getElem_cons_succ, List.getElem_cons_zero]
      refine wpAnyH_take (i := 10) (v := .int .i64 (i : Int)) rfl (by kernel_rfl) (by kernel_rfl) (by kernel_rfl) (fun _ _ _ h => h) (Or.inl ⟨by rfl, ?_⟩) hHeld ?_
      · intro w' hSw; go_simp
      simp only [Act.put, List.setIfInBounds_toArray, List.set_cons_zero, List.set_cons_succ, List.getElem_toArray, List.getElem_cons_succ, List.getElem_cons_zero]
      refine wpAnyH_take (i := 11) (v := .pointer (some ⟨g, o + i * 2, none⟩)) rfl (by kernel_rfl) (by kernel_rfl) (by kernel_rfl) (fun _ _ _ h => h) (Or.inl ⟨by rfl, ?_⟩) hHeld ?_
      · intro w' hSw; have hi1 : (i : Int) < N := hii.out; go_simp
      simp only [Act.put, List.setIfInBounds_toArray, List.set_cons_zero, List.set_cons_succ, List.getElem_toArray, List.getElem_cons_succ, List.getElem_cons_zero]
      refine wpAnyH_take (i := 12) (v := .pointer (some ⟨g, o + i * 2 + 1, none⟩)) rfl (by kernel_rfl) (by kernel_rfl) (by kernel_rfl) (fun _ _ _ h => h) (Or.inl ⟨by rfl, ?_⟩) hHeld ?_
      · intro w' hSw; go_simp
      simp only [Act.put, List.setIfInBounds_toArray, List.set_cons_zero, List.set_cons_succ, List.getElem_toArray, List.getElem_cons_succ, List.getElem_cons_zero]
      refine wpAnyH_take (i := 13) (v := .int .u8 (b : Int)) rfl (by kernel_rfl) (by kernel_rfl) (by kernel_rfl) (fun _ _ _ h => h) (Or.inl ⟨by rfl, ?_⟩) hHeld ?_
      · intro w' hSw; have a0 := hSw.2.2; go_simp
      simp only [Act.put, List.setIfInBounds_toArray, List.set_cons_zero, List.set_cons_succ, List.getElem_toArray, List.getElem_cons_succ, List.getElem_cons_zero]
      refine wpAnyH_take (i := 14) (v := .int .i64 (b : Int)) rfl (by kernel_rfl) (by kernel_rfl) (by kernel_rfl) (fun _ _ _ h => h) (Or.inl ⟨by rfl, ?_⟩) hHeld ?_
      · intro w' hSw; have a0 := hwb.out; go_simp
      simp only [Act.put, List.setIfInBounds_toArray, List.set_cons_zero, List.set_cons_succ, List.getElem_toArray, List.getElem_cons_succ, List.getElem_cons_zero]
      refine wpAnyH_take (i := 15) (v := .int .i64 (sz : Int)) rfl (by kernel_rfl) (by kernel_rfl) (by kernel_rfl) (fun _ _ _ h => h) (Or.inl ⟨by rfl, ?_⟩) hHeld ?_
      · intro w' hSw; go_simp
      simp only [Act.put, List.setIfInBounds_toArray, List.set_cons_zero, List.set_cons_succ, List.getElem_toArray, List.getElem_cons_succ, List.getElem_cons_zero]
      refine wpAnyH_take (i := 16) (v := .int .i64 (pb : Int)) rfl (by kernel_rfl) (by kernel_rfl) (by kernel_rfl) (fun _ _ _ h => h) (Or.inl ⟨by rfl, ?_⟩) hHeld ?_
      · intro w' hSw; have a0 := hmb.out; have a1 := hs0.out; go_simp
      simp only [Act.put, List.setIfInBounds_toArray, List.set_cons_zero, List.set_cons_succ, List.getElem_toArray, List.getElem_cons_succ, List.getElem_cons_zero]
      refine wpAnyH_take (i := 17) (v := .agg #[.int .i64 (pa : Int), .int .i64 (pb : Int)]) rfl (by kernel_rfl) (by kernel_rfl) (by kernel_rfl) (fun _ _ _ h => h) (Or.inl ⟨by rfl, ?_⟩) hHeld ?_
      · intro w' hSw; go_simp
      simp only [Act.put, List.setIfInBounds_toArray, List.set_cons_zero, List.set_cons_succ, List.getElem_toArray, List.getElem_cons_succ, List.getElem_cons_zero]
      refine wpAnyH_ready (rs := [18]) (by kernel_rfl) (by simp) ?_
      refine AllReadyH.cons rfl (fun K hK => ?_) AllReadyH.nil
      have hal : Below w.heap.size w (wr.drew.alloc (.cells #[.int .i64 (pa : Int), .int .i64 (pb : Int)] 58)) ∧ (wr.drew.alloc (.cells #[.int .i64 (pa : Int), .int .i64 (pb : Int)] 58)).cell? ⟨g, o + i * 2, none⟩ = some (.int .u8 (a : Int)) ∧ (wr.drew.alloc (.cells #[.int .i64 (pa : Int), .int .i64 (pb : Int)] 58)).cell? ⟨g, o + i * 2 + 1, none⟩ = some (.int .u8 (b : Int)) := ⟨hHeld.1.alloc hHeld.1.size _, ((below_alloc1 _ _).cell (p := ⟨g, o + i * 2, none⟩) hg).trans hHeld.2.1, ((below_alloc1 _ _).cell (p := ⟨g, o + i * 2 + 1, none⟩) hg).trans hHeld.2.2⟩
      go_simp
      refine hK.out _ _ hal (fun hHeld => ?_)
      clear hK K hal
      simp only [List.setIfInBounds_toArray, List.set_cons_zero, List.set_cons_succ]
      refine wpAnyH_ready (rs := [19]) (by kernel_rfl) (by simp) ?_
      refine AllReadyH.cons rfl (fun K hK => ?_) AllReadyH.nil
      obtain ⟨i0, hi, hz0, hz1, hz2⟩ := info_parts info58
      have hoa := own_below (own_below ho'.out (Below.refl wr.heap.size wr).drew) (below_alloc1 wr.drew (.cells #[.int .i64 (pa : Int), .int .i64 (pb : Int)] 58))
      refine step_row Tryd.underlying22 hi hz0 hz1 hz2 rfl (by decide) (by decide) rfl (.tmp 27) (.tmp 45) rfl hoa rfl wr.drew.heap.size rfl [.int .i64 (pa : Int), .int .i64 (pb : Int)] rfl (fun j u hj => by show (wr.drew.alloc (.cells #[.int .i64 (pa : Int), .int .i64 (pb : Int)] 58)).cell? ⟨wr.drew.heap.size, j, none⟩ = _; rw [cells_new]; simpa using hj) (by intro u hu; simp at hu; rcases hu with rfl | rfl <;> rfl) (by omega) hHeld.1.size ?_
      intro v' w3 h1 h2
      refine hK.out _ _ ⟨hHeld.1.trans h2, (h2.cell (p := ⟨g, o + i * 2, none⟩) hg0).trans hHeld.2.1, (h2.cell (p := ⟨g, o + i * 2 + 1, none⟩) hg0).trans hHeld.2.2⟩ (fun hHeld => ?_)
      clear hK K
      simp only [List.setIfInBounds_toArray, List.set_cons_zero, List.set_cons_succ]
      refine wpAnyH_take (i := 20) (v := v') rfl (by kernel_rfl) (by kernel_rfl) (by kernel_rfl) (fun _ _ _ h => h) (Or.inl ⟨by rfl, ?_⟩) hHeld ?_
      · intro w' hSw; go_simp
      simp only [Act.put, List.setIfInBounds_toArray, List.set_cons_zero, List.set_cons_succ, List.getElem_toArray, List.getElem_cons_succ, List.getElem_cons_zero]
      refine wpAnyH_done (by kernel_rfl) ?_ _
      have hfin := Lib.hid hHeld.1
      have h1q := Lib.hid (show OwnP w3 w.heap.size v' (toI ((xs.take (i + 1)).map fun x => (x.1 % sz, x.2 % sz))) from by
        unfold OwnP
        rw [hsn'.out, toI_snoc, List.length_append, hL'.out, flat_app]
        exact h1)
      clear hHeld h1 h2 hoa
      refine NoPanic.normal ?_
      go_wp2_with fail
      go_roundw
      case rel => exact ⟨i + 1, by omega, by omega, by go_num, h1q, hfin⟩
      case measure => simp [intOf]; omega
    · have hfin := Lib.hid (show OwnP wr w.heap.size u9 (toI (mkL sz xs)) from by
        have h := ho.out
        unfold mkL
        have e : xs.take i = xs.take 40 := by
          rcases (show i = 40 ∨ i = N by omega) with h | h
          · rw [h]
          · rw [List.take_of_length_le (by rw [← hN'.out]; omega), List.take_of_length_le (by rw [← hN'.out]; omega)]
        rw [← e]; exact h)
      rcases (show (¬ (i : Int) < N) ∨ ((i : Int) < N ∧ ¬ (i : Int) < 40) by omega) with h1 | ⟨h1, h2⟩
      all_goals
        go_wp2
        refine bodyPost_ret (results_tmp2 rfl _ _ _) rfl ?_
        exact ⟨_, rfl, hfin.out, hb.out⟩
end Go.Proofs.YtpcjigdmfchbdaaDoor
