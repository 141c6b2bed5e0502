import Derived.Test.YtjkbhdlbomcbeaaXh
import Derived.Deep.RegionLaw
namespace Go.Proofs.Ytjkbhdlbomcbeaa
open Go.RowKit Go.Shelf Shf

theorem info4 : (Try.prog.info? 4).map (fun i => (i.zero, i.size, i.bytes)) = some (some (.bool false), 1, 1) := by kernel_rfl
theorem make103 (W : World) (n : Nat) (hC : n ≤ 1000000) : Sem.run Try.prog (Instr.makeSlice 103 (.int .i64 (n : Int)) (.int .i64 (n : Int))) W = .ok (.slice (some ⟨W.heap.size, 0, none⟩) n n) (W.alloc (.cells (madeCells #[Value.bool false] n) 4)) := by
  obtain ⟨i0, hi, hz0, hz1, hz2⟩ := info_parts info4
  have hr := run_make (P := Try.prog) W 103 4 i0 (.bool false) Try.underlying103 hi hz0 .i64 .i64 (n : Int) (n : Int) (by omega) (by omega) (by rw [hz2]; omega) (by omega)
  simp only [Int.toNat_natCast, hz1, Nat.mul_one] at hr
  exact hr
theorem madeB_cell {n j : Nat} (h : j < n) : (madeCells #[Value.bool false] n)[j]? = some (Value.bool false) := by
  have := toList_madeCells_one (Value.bool false) n
  rw [← Array.getElem?_toList, this, List.getElem?_replicate, if_pos h]
theorem madeB_new (V : World) (n : Nat) (i : Nat) (h : i < n) : (V.alloc (.cells (madeCells #[Value.bool false] n) 4)).cell? ⟨V.heap.size, i, none⟩ = some (.bool false) := by
  rw [World.cell?_alloc_at (hn := rfl)]; exact madeB_cell h
def rdZ : Array Value := #[.int .i64 0, .slice none 0 0, .slice none 0 0, .slice none 0 0, .slice none 0 0]
theorem rd_there (V : World) (t : TypeId) : (V.alloc (.cells rdZ t)).there V.heap.size 0 5 := fun j hj => by
  refine ⟨?_, alloc_fz V _ t _⟩
  rw [World.cell?_alloc_at (hn := rfl), Nat.zero_add, Array.getElem?_eq_getElem (show j < rdZ.size from hj)]; rfl
theorem one_rd {P : Int} {a b c d : Option Addr} {n m k l n' m' k' l' : Nat} : ([.int .i64 P, .slice a n n', .slice b m m', .slice c k k', .slice d l l'] : List Value).toArray.all (·.oneCell') = true :=
  all_oneCell_toArray fun v hv => by
    simp only [List.mem_cons, List.not_mem_nil, or_false] at hv
    rcases hv with rfl | rfl | rfl | rfl | rfl <;> rfl
theorem rd_new {w0 V : World} {b ge n : Nat} {P : Int} {jv ov pv : Value} (hb : Below w0.heap.size w0 V) (h1 : w0.heap.size ≤ b) (h2 : w0.heap.size ≤ ge) (h3 : b < V.heap.size) (h4 : ge < V.heap.size) (hne : b ≠ ge)
    (ht : V.there b 0 5) (hc : ∀ i, i < n → V.cell? ⟨ge, i, none⟩ = some (.bool false)) (hg : ∀ j, V.frozen? ⟨ge, j, none⟩ = false) :
    Rd w0 (V.setCells b 0 [.int .i64 P, jv, ov, pv, .slice (some ⟨ge, 0, none⟩) n n]) b ge n P jv ov pv (fun _ => false) := by
  have hin : ∀ j (_ : j < 5), (V.setCells b 0 [.int .i64 P, jv, ov, pv, .slice (some ⟨ge, 0, none⟩) n n]).cell? ⟨b, j, none⟩ = ([.int .i64 P, jv, ov, pv, .slice (some ⟨ge, 0, none⟩) n n] : List Value)[j]? := fun j hj => by
    have := World.cell?_setCells_in b [.int .i64 P, jv, ov, pv, .slice (some ⟨ge, 0, none⟩) n n] 0 V (fun i hi => (ht i hi).1) j hj
    rw [Nat.zero_add] at this
    exact this.trans (List.getElem?_eq_getElem (show j < ([.int .i64 P, jv, ov, pv, .slice (some ⟨ge, 0, none⟩) n n] : List Value).length from hj)).symm
  have hbl := below_setC h1 [.int .i64 P, jv, ov, pv, .slice (some ⟨ge, 0, none⟩) n n] 0 V hb
  have hsz : (V.setCells b 0 [.int .i64 P, jv, ov, pv, .slice (some ⟨ge, 0, none⟩) n n]).heap.size = V.heap.size := by simp [World.setCells]
  refine ⟨hbl, h1, h2, by rw [hsz]; exact h3, by rw [hsz]; exact h4, hne, hin 0 (by decide), hin 1 (by decide), hin 2 (by decide), hin 3 (by decide), hin 4 (by decide), fun i hi => ?_, fun j => ?_⟩
  · rw [World.cell?_setCells_out b _ 0 V ⟨ge, i, none⟩ (fun h _ => absurd h.symm hne)]; exact hc i hi
  · rw [World.frozen?_setCells]; exact hg j
set_option maxHeartbeats 4000000 in
set_option maxRecDepth 100000 in
theorem parse53 {w : World} {P : Int} {ja oa pa : Option Addr} {n jc m oc q pc : Nat} {r : Value} (hq : q ≤ 100000) (hnode : ∀ W b ge, Rd w W b ge q P (.slice ja n jc) (.slice oa m oc) (.slice pa q pc) (fun _ => false) → Calls Try.prog 71 #[.pointer (some ⟨b, 0, none⟩), .int .i64 0] W fun e w' => e = .returned r ∧ Below w.heap.size w w') :
    Calls Try.prog 53 #[.agg #[.int .i64 P, .slice ja n jc, .slice oa m oc], .slice pa q pc] w fun e w' => e = .returned r ∧ Below w.heap.size w w' := by
  have hnode' := Lib.hid hnode
  clear hnode
  go_enter Try.func53, Try.ntmps53
  go_wp2_with fail
  obtain ⟨W, hW⟩ : ∃ W, W = w.alloc (Obj.cells #[Value.int IntKind.i64 P, Value.slice ja n jc, Value.slice oa m oc] 81) := ⟨_, rfl⟩
  rw [← hW]
  have c0 : W.cell? ⟨w.heap.size, 0, none⟩ = some (.int .i64 P) := by rw [hW]; rw [World.cell?_alloc_at (hn := rfl)]; rfl
  have c1 : W.cell? ⟨w.heap.size, 1, none⟩ = some (.slice ja n jc) := by rw [hW]; rw [World.cell?_alloc_at (hn := rfl)]; rfl
  have c2 : W.cell? ⟨w.heap.size, 2, none⟩ = some (.slice oa m oc) := by rw [hW]; rw [World.cell?_alloc_at (hn := rfl)]; rfl
  have hWb : Below w.heap.size w W := by rw [hW]; exact below_alloc1 _ _
  have hWs : W.heap.size = w.heap.size + 1 := by rw [hW]; simp
  obtain ⟨b1, hb1⟩ : ∃ b1, b1 = w.heap.size := ⟨_, rfl⟩
  rw [← hb1] at c0 c1 c2 hWs ⊢
  have hb12 : b1 < W.heap.size := by omega
  have hb1' := Lib.hid hb1
  have hWb' := Lib.hid hWb
  clear hW hWb hb1 hWs
  refine Code.wp_mono (Q := fun e a' W3 => e = .normal ∧ ∃ b ge tmps, a' = { tmps, defers := [] } ∧ tmps.getD 5 undef = .pointer (some ⟨b, 0, none⟩) ∧ tmps.size = 13 ∧ Rd w W3 b ge q P (.slice ja n jc) (.slice oa m oc) (.slice pa q pc) (fun _ => false)) ?_ ?_
  · rintro e a' W3 ⟨rfl, b, ge, tmps, rfl, htm, hts, hR⟩
    have hc := Lib.hid (hnode'.out W3 b ge hR)
    clear hR c0 c1 c2
    have htm2 : tmps[5]?.getD undef = .pointer (some ⟨b, 0, none⟩) := by simpa using htm
    have h10 : 12 < tmps.size := by omega
    have h2 : 4 < tmps.size := by omega
    have hts' := Lib.hid hts
    clear htm hts
    go_wp2_with (refine (hc.out).mono ?_; rintro e w4 ⟨rfl, hM⟩; have hM' := Lib.hid hM; clear hM)
    go_ret
    exact ⟨by simp [hts'.out], hM'.out⟩
  · refine wp_region_any (by kernel_rfl) (wpAny_of_held (S := fun w' => Below W.heap.size W w') _ _ _ _ ?_)
    have hHeld : Below W.heap.size W W.drew := (Below.refl _ _).drew
    change wpAnyH _ _ _ _ _ _ _ _ W.drew
    simp only [List.size_toArray, List.length_cons, List.length_nil, Nat.reduceAdd, Array.replicate_succ, Array.replicate_zero, List.push_toArray, List.nil_append, List.cons_append]
    have hmk := Lib.hid (fun (V : World) => make103 V q (by omega))
    refine wpAnyH_take (i := 0) (v := .agg #[.int .i64 P, .slice ja n jc, .slice oa m oc]) rfl (by kernel_rfl) (by kernel_rfl) (by kernel_rfl) (fun _ _ _ h => by cases h.1) (Or.inl ⟨by rfl, ?_⟩) hHeld ?_
    · intro w' hSw; have a0 := (hSw.cell (p := ⟨b1, 0, none⟩) hb12).trans c0; have a1 := (hSw.cell (p := ⟨b1, 1, none⟩) hb12).trans c1; have a2 := (hSw.cell (p := ⟨b1, 2, none⟩) hb12).trans c2; go_simp
    simp only [Act.put, List.setIfInBounds_toArray, List.set_cons_zero, List.set_cons_succ, List.getElem_toArray, List.getElem_cons_zero]
    refine wpAnyH_take (i := 1) (v := .slice pa q pc) rfl (by kernel_rfl) (by kernel_rfl) (by kernel_rfl) (fun _ _ _ h => by cases h.1) (Or.inl ⟨by rfl, ?_⟩) hHeld ?_
    · intro w' hSw; go_simp
    simp only [Act.put, List.setIfInBounds_toArray, List.set_cons_zero, List.set_cons_succ, List.getElem_toArray, List.getElem_cons_succ, List.getElem_cons_zero]
    refine wpAnyH_take (i := 2) (v := .slice pa q pc) rfl (by kernel_rfl) (by kernel_rfl) (by kernel_rfl) (fun _ _ _ h => by cases h.1) (Or.inl ⟨by rfl, ?_⟩) hHeld ?_
    · intro w' hSw; go_simp
    simp only [Act.put, List.setIfInBounds_toArray, List.set_cons_zero, List.set_cons_succ, List.getElem_toArray, List.getElem_cons_succ, List.getElem_cons_zero]
    refine wpAnyH_take (i := 3) (v := .int .i64 q) rfl (by kernel_rfl) (by kernel_rfl) (by kernel_rfl) (fun _ _ _ h => by cases h.1) (Or.inl ⟨by rfl, ?_⟩) hHeld ?_
    · intro w' hSw; go_simp
    simp only [Act.put, List.setIfInBounds_toArray, List.set_cons_zero, List.set_cons_succ, List.getElem_toArray, List.getElem_cons_succ, List.getElem_cons_zero]
    refine wpAnyH_ready (rs := [4, 6]) (by kernel_rfl) (by simp) ?_
    refine AllReadyH.cons rfl (fun K hK => ?_) (AllReadyH.cons rfl (fun K hK => ?_) AllReadyH.nil)
    · have hm := hmk.out W.drew
      have hal : Below W.heap.size W (W.alloc (.cells (madeCells #[Value.bool false] q) 4)).drew := (below_alloc1 _ _).drew
      go_simp
      refine hK.out _ _ hal (fun hHeld => ?_)
      clear hK K hal hm
      simp only [List.setIfInBounds_toArray, List.set_cons_zero, List.set_cons_succ]
      obtain ⟨wa, hwa⟩ : ∃ x, x = (W.alloc (.cells (madeCells #[Value.bool false] q) 4)).drew := ⟨_, rfl⟩
      rw [← hwa] at hHeld ⊢
      have hwa' := Lib.hid hwa
      have hwaB := Lib.hid hHeld
      obtain ⟨ga, hga⟩ : ∃ x, x = W.heap.size := ⟨_, rfl⟩
      have hga' := Lib.hid hga
      rw [← hga] at hHeld ⊢
      clear hwa hga
      refine wpAnyH_take (i := 5) (v := .agg #[.int .i64 P, .slice ja n jc, .slice oa m oc, .slice pa q pc, .slice (some ⟨ga, 0, none⟩) q q]) rfl (by kernel_rfl) (by kernel_rfl) (by kernel_rfl) (fun _ _ _ h => by cases h.1) (Or.inl ⟨by rfl, ?_⟩) hHeld ?_
      · intro w' hSw; go_simp
      simp only [Act.put, List.setIfInBounds_toArray, List.set_cons_zero, List.set_cons_succ, List.getElem_toArray, List.getElem_cons_succ, List.getElem_cons_zero]
      refine wpAnyH_ready (rs := [6]) (by kernel_rfl) (by simp) ?_
      refine AllReadyH.cons rfl (fun K hK => ?_) AllReadyH.nil
      have hal : Below ga W (wa.alloc (.cells rdZ 128)) := hHeld.alloc (by have := hHeld.size; rw [hga'.out]; exact this) _
      go_simp
      refine hK.out _ _ hal (fun hHeld => ?_)
      clear hK K hal
      simp only [List.setIfInBounds_toArray, List.set_cons_zero, List.set_cons_succ]
      refine wpAnyH_ready (rs := [7]) (by kernel_rfl) (by simp) ?_
      refine AllReadyH.cons rfl (fun K hK => ?_) AllReadyH.nil
      refine wp_store_mid 128 (.tmp 5) (.tmp 11) rfl wa.heap.size 0 [.int .i64 P, .slice ja n jc, .slice oa m oc, .slice pa q pc, .slice (some ⟨ga, 0, none⟩) q q].toArray (by rfl) (by rfl) (rd_there wa 128) (by kernel_rfl) one_rd ?_
      refine hK.out _ _ (below_setC (by have := hwaB.out.size; rw [hga'.out]; exact this) _ _ _ hHeld) (fun hHeld => ?_)
      clear hK K
      refine wpAnyH_done (by kernel_rfl) ?_ _
      have hbW : Below w.heap.size w wa := hWb'.out.trans (hwaB.out.mono hWb'.out.size)
      have hsa : wa.heap.size = W.heap.size + 1 := by rw [hwa'.out]; show (W.alloc _).heap.size = _; simp
      have hww := hWb'.out.size
      have hgW := hga'.out
      refine ⟨rfl, wa.heap.size, ga, _, rfl, rfl, rfl, ?_⟩
      refine rd_new (hbW.alloc (by omega) _) (by omega) (by omega) (by simp) (by simp; omega) (by omega) (rd_there wa 128) (fun i hi => ?_) (fun j => ?_)
      · rw [(below_alloc1 wa _).cell (p := ⟨ga, i, none⟩) (by show ga < _; omega), hwa'.out, hgW]; exact madeB_new W q i hi
      · rw [(below_alloc1 wa _).frozen (p := ⟨ga, j, none⟩) (by show ga < _; omega), hwa'.out, hgW]; exact alloc_fz W _ 4 j
    · have hal : Below W.heap.size W (W.alloc (.cells rdZ 128)).drew := (below_alloc1 _ _).drew
      go_simp
      refine hK.out _ _ hal (fun hHeld => ?_)
      clear hK K hal
      simp only [List.setIfInBounds_toArray, List.set_cons_zero, List.set_cons_succ]
      obtain ⟨wa, hwa⟩ : ∃ x, x = (W.alloc (.cells rdZ 128)).drew := ⟨_, rfl⟩
      change Below W.heap.size W (W.alloc (.cells rdZ 128)).drew at hHeld
      change wpAnyH _ _ _ _ _ _ _ _ (W.alloc (.cells rdZ 128)).drew
      rw [← hwa] at hHeld ⊢
      have hwa' := Lib.hid hwa
      have hwaB := Lib.hid hHeld
      obtain ⟨ga, hga⟩ : ∃ x, x = W.heap.size := ⟨_, rfl⟩
      have hga' := Lib.hid hga
      rw [← hga] at hHeld ⊢
      clear hwa hga
      refine wpAnyH_ready (rs := [4]) (by kernel_rfl) (by simp) ?_
      refine AllReadyH.cons rfl (fun K hK => ?_) AllReadyH.nil
      have hm := hmk.out wa
      have hal : Below ga W (wa.alloc (.cells (madeCells #[Value.bool false] q) 4)) := hHeld.alloc (by have := hHeld.size; rw [hga'.out]; exact this) _
      go_simp
      refine hK.out _ _ hal (fun hHeld => ?_)
      clear hK K hal hm
      simp only [List.setIfInBounds_toArray, List.set_cons_zero, List.set_cons_succ]
      refine wpAnyH_take (i := 5) (v := .agg #[.int .i64 P, .slice ja n jc, .slice oa m oc, .slice pa q pc, .slice (some ⟨wa.heap.size, 0, none⟩) q q]) rfl (by kernel_rfl) (by kernel_rfl) (by kernel_rfl) (fun _ _ _ h => by cases h.1) (Or.inl ⟨by rfl, ?_⟩) hHeld ?_
      · intro w' hSw; go_simp
      simp only [Act.put, List.setIfInBounds_toArray, List.set_cons_zero, List.set_cons_succ, List.getElem_toArray, List.getElem_cons_succ, List.getElem_cons_zero]
      refine wpAnyH_ready (rs := [7]) (by kernel_rfl) (by simp) ?_
      refine AllReadyH.cons rfl (fun K hK => ?_) AllReadyH.nil
      have hth : (wa.alloc (.cells (madeCells #[Value.bool false] q) 4)).there ga 0 5 := by
        refine World.there_alloc ?_ _
        rw [hwa'.out, hga'.out]; exact rd_there W 128
      refine wp_store_mid 128 (.tmp 5) (.tmp 11) rfl ga 0 [.int .i64 P, .slice ja n jc, .slice oa m oc, .slice pa q pc, .slice (some ⟨wa.heap.size, 0, none⟩) q q].toArray (by rfl) (by rfl) hth (by kernel_rfl) one_rd ?_
      refine hK.out _ _ (below_setC (Nat.le_refl _) _ _ _ hHeld) (fun hHeld => ?_)
      clear hK K
      refine wpAnyH_done (by kernel_rfl) ?_ _
      have hbW : Below w.heap.size w wa := hWb'.out.trans (hwaB.out.mono hWb'.out.size)
      have hsa : wa.heap.size = W.heap.size + 1 := by rw [hwa'.out]; show (W.alloc _).heap.size = _; simp
      have hww := hWb'.out.size
      have hgW := hga'.out
      refine ⟨rfl, ga, wa.heap.size, _, rfl, rfl, rfl, ?_⟩
      exact rd_new (hbW.alloc (by omega) _) (by omega) (by omega) (by simp; omega) (by simp) (by omega) hth (fun i hi => madeB_new wa q i hi) (fun j => alloc_fz _ _ _ _)
end Go.Proofs.Ytjkbhdlbomcbeaa
