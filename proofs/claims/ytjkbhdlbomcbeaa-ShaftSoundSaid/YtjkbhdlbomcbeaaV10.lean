import Derived.Test.YtjkbhdlbomcbeaaV9
import Derived.Laws.StructEq
import Derived.Deep.RegionLaw
import Derived.Deep.RegionHeld3
import Derived.Deep.Cut
import Derived.Deep.CutRange
namespace Go.Proofs.Ytjkbhdlbomcbeaa
open Go.RowKit Go.Shelf Shf

theorem eq72 (a b c d e f a' b' c' d' e' f' : Int) (w : World) : (Op.equalIn 10000 72 (.agg #[.int .i64 a, .int .i64 b, .int .i64 c, .int .i64 d, .int .i64 e, .int .i64 f]) (.agg #[.int .i64 a', .int .i64 b', .int .i64 c', .int .i64 d', .int .i64 e', .int .i64 f'])).run Try.prog w = .ok (a == a' && (b == b' && (c == c' && (d == d' && (e == e' && f == f'))))) w := by
  have u3 := Try.underlying3
  have a3 := Try.isAgg3
  have z3 := Try.sizeOf3
  have hS : Try.prog.underlying 72 = some (.struct (Try.prog.fieldsOf 72)) := by kernel_rfl
  have hp : Try.prog.stoodInHeld 72 = false := by kernel_rfl
  rw [show (10000 : Nat) = 9999 + 1 from rfl, run_equalIn_agg w 9999 72 _ _ hS hp]
  simp only [Program.fieldsOf, Try.underlying72]
  go_simp
  by_cases h1 : a = a' <;> simp [h1]
  by_cases h2 : b = b' <;> simp [h2]
  by_cases h3 : c = c' <;> simp [h3]
  by_cases h4 : d = d' <;> simp [h4]
  by_cases h5 : e = e' <;> simp [h5]
  by_cases h6 : f = f' <;> simp [h6]
theorem guard72 : Try.prog.eqGuardType Try.prog.depth 72 = false := by kernel_rfl
/-- A reader in memory: what it reads from, and what it has seen. -/
structure Rd (w0 w : World) (b ge n : Nat) (P : Int) (jv ov pv : Value) (sn : Nat → Bool) : Prop where
  below : Below w0.heap.size w0 w
  hb : w0.heap.size ≤ b
  hge : w0.heap.size ≤ ge
  hbw : b < w.heap.size
  hgw : ge < w.heap.size
  hne : b ≠ ge
  c0 : w.cell? ⟨b, 0, none⟩ = some (.int .i64 P)
  c1 : w.cell? ⟨b, 1, none⟩ = some jv
  c2 : w.cell? ⟨b, 2, none⟩ = some ov
  c3 : w.cell? ⟨b, 3, none⟩ = some pv
  c4 : w.cell? ⟨b, 4, none⟩ = some (.slice (some ⟨ge, 0, none⟩) n n)
  seen : ∀ i, i < n → w.cell? ⟨ge, i, none⟩ = some (.bool (sn i))
  fg : ∀ j, w.frozen? ⟨ge, j, none⟩ = false
/-- Nodes that are read. -/
def ReadsNd (w : World) (v : Value) (ns : List Nd) : Prop := ∃ ao c, v = .slice ao ns.length c ∧ ns.length ≤ c ∧ ∀ i, i < ns.length → ∃ g, ao = some ⟨g, 0, none⟩ ∧ g < w.heap.size ∧ w.cell? ⟨g, i * 6, none⟩ = some (.int .i64 (ns.getD i N0).k) ∧ w.cell? ⟨g, i * 6 + 1, none⟩ = some (.int .i64 (ns.getD i N0).j) ∧ w.cell? ⟨g, i * 6 + 2, none⟩ = some (.int .i64 (ns.getD i N0).a) ∧
    w.cell? ⟨g, i * 6 + 3, none⟩ = some (.int .i64 (ns.getD i N0).b) ∧ w.cell? ⟨g, i * 6 + 4, none⟩ = some (.int .i64 (ns.getD i N0).l) ∧ w.cell? ⟨g, i * 6 + 5, none⟩ = some (.int .i64 (ns.getD i N0).r)
theorem OwnN.reads {w : World} {B : Nat} {v : Value} {ns : List Nd} (h : OwnN w B v ns) : ReadsNd w v ns := by
  obtain ⟨ao, c, rfl, hc, hcl⟩ := own_cells h
  refine ⟨ao, c, rfl, hc, fun i hi => ?_⟩
  obtain ⟨g, rfl, _, hg, _⟩ := hcl (by omega)
  exact ⟨g, rfl, hg, h.cells hi⟩
theorem ReadsNd.below {w w' : World} {v : Value} {ns : List Nd} (h : ReadsNd w v ns) (hb : Below w.heap.size w w') : ReadsNd w' v ns := by
  obtain ⟨ao, c, rfl, hc, h⟩ := h
  refine ⟨ao, c, rfl, hc, fun i hi => ?_⟩
  obtain ⟨g, rfl, hg, h0, h1, h2, h3, h4, h5⟩ := h i hi
  exact ⟨g, rfl, Nat.lt_of_lt_of_le hg hb.size, (hb.cell (p := ⟨g, i * 6, none⟩) hg).trans h0, (hb.cell (p := ⟨g, i * 6 + 1, none⟩) hg).trans h1, (hb.cell (p := ⟨g, i * 6 + 2, none⟩) hg).trans h2, (hb.cell (p := ⟨g, i * 6 + 3, none⟩) hg).trans h3, (hb.cell (p := ⟨g, i * 6 + 4, none⟩) hg).trans h4, (hb.cell (p := ⟨g, i * 6 + 5, none⟩) hg).trans h5⟩
set_option maxHeartbeats 4000000 in
set_option maxRecDepth 100000 in
/-- A node that tells of an order is read. -/
theorem nodeLate71 {w0 w : World} {b ge k i m oc : Nat} {oa : Option Addr} {P : Int} {jv pv : Value} {sn : Nat → Bool} {ns : List Nd} (hR : Rd w0 w b ge ns.length P jv (.slice oa m oc) pv sn) (hp : ReadsNd w0 pv ns) (hi : i < ns.length) (hsn : sn i = false) (hnd : ns.getD i N0 = ⟨3, k, 0, 0, 0, 0⟩) (hk : k < m) :
    Calls Try.prog 71 #[.pointer (some ⟨b, 0, none⟩), .int .i64 i] w fun e w' => e = .returned (.iface 126 (.agg #[.int .i64 k])) ∧ Below w0.heap.size w0 w' := by
  obtain ⟨pa, pc, rfl, hpc, hpat⟩ := hp
  obtain ⟨g, rfl, hg, n0, n1, n2, n3, n4, n5⟩ := hpat i hi
  rw [hnd] at n0 n1 n2 n3 n4 n5
  simp only at n0 n1 n2 n3 n4 n5
  have p0 := (hR.below.cell (p := ⟨g, i * 6, none⟩) hg).trans n0
  have p1 := (hR.below.cell (p := ⟨g, i * 6 + 1, none⟩) hg).trans n1
  have p2 := (hR.below.cell (p := ⟨g, i * 6 + 2, none⟩) hg).trans n2
  have p3 := (hR.below.cell (p := ⟨g, i * 6 + 3, none⟩) hg).trans n3
  have p4 := (hR.below.cell (p := ⟨g, i * 6 + 4, none⟩) hg).trans n4
  have p5 := (hR.below.cell (p := ⟨g, i * 6 + 5, none⟩) hg).trans n5
  have hgg : g ≠ ge := by have := hR.hge; omega
  obtain ⟨n, hn⟩ : ∃ n, n = ns.length := ⟨_, rfl⟩
  rw [← hn] at hR hi hpc
  have c3 := hR.c3
  have c4 := hR.c4
  have s0 := hR.seen i hi
  rw [hsn] at s0
  have f0 := hR.fg i
  have hR' := Lib.hid hR
  have hin : (i : Int) < (n : Int) := by omega
  have e1 := fun w : World => eq72 3 k 0 0 0 0 1 k 0 0 0 0 w
  have e2 := fun w : World => eq72 3 k 0 0 0 0 2 0 0 0 0 0 w
  have e3 := fun w : World => eq72 3 k 0 0 0 0 3 k 0 0 0 0 w
  simp at e1 e2 e3
  have hgd := guard72
  have hS : ∀ b' o', b' ≠ ge → (w.setCell ⟨ge, i, none⟩ (.bool true)).cell? ⟨b', o', none⟩ = w.cell? ⟨b', o', none⟩ := fun b' o' h => World.cell?_setCell_other _ _ _ _ (by simp <;> omega)
  have hbne := hR.hne
  have x2 := (hS b 2 hbne).trans hR.c2
  have x3 := (hS b 3 hbne).trans c3
  have y0 := (hS g _ hgg).trans p0
  have y1 := (hS g _ hgg).trans p1
  have y2 := (hS g _ hgg).trans p2
  have y3 := (hS g _ hgg).trans p3
  have y4 := (hS g _ hgg).trans p4
  have y5 := (hS g _ hgg).trans p5
  have hd1 : decide (n ≤ i) = false := by simp; omega
  have hbs := Lib.hid (show b < (w.setCell ⟨ge, i, none⟩ (.bool true)).heap.size by simpa using hR.hbw)
  have z2 := ((below_alloc1 (w.setCell ⟨ge, i, none⟩ (.bool true)) (.cells #[.int .i64 3, .int .i64 k, .int .i64 0, .int .i64 0, .int .i64 0, .int .i64 0] 72)).cell (p := ⟨b, 2, none⟩) hbs.out).trans x2
  have hbE := Lib.hid (show Below w0.heap.size w0 ((w.setCell ⟨ge, i, none⟩ (.bool true)).alloc (.cells #[.int .i64 3, .int .i64 k, .int .i64 0, .int .i64 0, .int .i64 0, .int .i64 0] 72)) from (below_set hR.below hR.hge).alloc (by simpa using hR.below.size) _)
  have hkm : (k : Int) < (m : Int) := by omega
  have hk0 : decide ((k : Int) ≥ 0) = true := by simp
  clear hR hpat hn hnd n0 n1 n2 n3 n4 n5 hS hgg hbne p0 p1 p2 p3 p4 p5
  go_enter Try.func71, Try.ntmps71
  go_wp2_with fail
  have hkm2 : (k : Int) < (m : Int) := by omega
  have hk02 : decide ((k : Int) ≥ 0) = true := by simp
  go_quiet (fail)
  go_wp2_with fail
  go_ret
  exact ⟨rfl, below_drewN hbE.out _⟩
end Go.Proofs.Ytjkbhdlbomcbeaa

namespace Go.Proofs.Ytjkbhdlbomcbeaa
open Go.RowKit Go.Shelf Shf

theorem info4 : (Try.prog.info? 4).map (fun i => (i.zero, i.size, i.bytes)) = some (some (.bool false), 1, 1) := by kernel_rfl
theorem make103 (W : World) (n : Nat) (hC : n ≤ 1000000) : Sem.run Try.prog (Instr.makeSlice 103 (.int .i64 (n : Int)) (.int .i64 (n : Int))) W = .ok (.slice (some ⟨W.heap.size, 0, none⟩) n n) (W.alloc (.cells (madeCells #[Value.bool false] n) 4)) := by
  obtain ⟨i0, hi, hz0, hz1, hz2⟩ := info_parts info4
  have hr := run_make (P := Try.prog) W 103 4 i0 (.bool false) Try.underlying103 hi hz0 .i64 .i64 (n : Int) (n : Int) (by omega) (by omega) (by rw [hz2]; omega) (by omega)
  simp only [Int.toNat_natCast, hz1, Nat.mul_one] at hr
  exact hr
theorem madeB_cell {n j : Nat} (h : j < n) : (madeCells #[Value.bool false] n)[j]? = some (Value.bool false) := by
  have := toList_madeCells_one (Value.bool false) n
  rw [← Array.getElem?_toList, this, List.getElem?_replicate, if_pos h]
theorem madeB_new (V : World) (n : Nat) (i : Nat) (h : i < n) : (V.alloc (.cells (madeCells #[Value.bool false] n) 4)).cell? ⟨V.heap.size, i, none⟩ = some (.bool false) := by
  rw [World.cell?_alloc_at (hn := rfl)]; exact madeB_cell h
def rdZ : Array Value := #[.int .i64 0, .slice none 0 0, .slice none 0 0, .slice none 0 0, .slice none 0 0]
theorem rd_there (V : World) (t : TypeId) : (V.alloc (.cells rdZ t)).there V.heap.size 0 5 := fun j hj => by
  refine ⟨?_, alloc_fz V _ t _⟩
  rw [World.cell?_alloc_at (hn := rfl), Nat.zero_add, Array.getElem?_eq_getElem (show j < rdZ.size from hj)]; rfl
theorem one_rd {P : Int} {a b c d : Option Addr} {n m k l n' m' k' l' : Nat} : ([.int .i64 P, .slice a n n', .slice b m m', .slice c k k', .slice d l l'] : List Value).toArray.all (·.oneCell') = true :=
  all_oneCell_toArray fun v hv => by
    simp only [List.mem_cons, List.not_mem_nil, or_false] at hv
    rcases hv with rfl | rfl | rfl | rfl | rfl <;> rfl
theorem rd_new {w0 V : World} {b ge n : Nat} {P : Int} {jv ov pv : Value} (hb : Below w0.heap.size w0 V) (h1 : w0.heap.size ≤ b) (h2 : w0.heap.size ≤ ge) (h3 : b < V.heap.size) (h4 : ge < V.heap.size) (hne : b ≠ ge)
    (ht : V.there b 0 5) (hc : ∀ i, i < n → V.cell? ⟨ge, i, none⟩ = some (.bool false)) (hg : ∀ j, V.frozen? ⟨ge, j, none⟩ = false) :
    Rd w0 (V.setCells b 0 [.int .i64 P, jv, ov, pv, .slice (some ⟨ge, 0, none⟩) n n]) b ge n P jv ov pv (fun _ => false) := by
  have hin : ∀ j (_ : j < 5), (V.setCells b 0 [.int .i64 P, jv, ov, pv, .slice (some ⟨ge, 0, none⟩) n n]).cell? ⟨b, j, none⟩ = ([.int .i64 P, jv, ov, pv, .slice (some ⟨ge, 0, none⟩) n n] : List Value)[j]? := fun j hj => by
    have := World.cell?_setCells_in b [.int .i64 P, jv, ov, pv, .slice (some ⟨ge, 0, none⟩) n n] 0 V (fun i hi => (ht i hi).1) j hj
    rw [Nat.zero_add] at this
    exact this.trans (List.getElem?_eq_getElem (show j < ([.int .i64 P, jv, ov, pv, .slice (some ⟨ge, 0, none⟩) n n] : List Value).length from hj)).symm
  have hbl := below_setC h1 [.int .i64 P, jv, ov, pv, .slice (some ⟨ge, 0, none⟩) n n] 0 V hb
  have hsz : (V.setCells b 0 [.int .i64 P, jv, ov, pv, .slice (some ⟨ge, 0, none⟩) n n]).heap.size = V.heap.size := by simp [World.setCells]
  refine ⟨hbl, h1, h2, by rw [hsz]; exact h3, by rw [hsz]; exact h4, hne, hin 0 (by decide), hin 1 (by decide), hin 2 (by decide), hin 3 (by decide), hin 4 (by decide), fun i hi => ?_, fun j => ?_⟩
  · rw [World.cell?_setCells_out b _ 0 V ⟨ge, i, none⟩ (fun h _ => absurd h.symm hne)]; exact hc i hi
  · rw [World.frozen?_setCells]; exact hg j
set_option maxHeartbeats 4000000 in
set_option maxRecDepth 100000 in
theorem parse53 {w : World} {P : Int} {ja oa pa : Option Addr} {n jc m oc q pc : Nat} {r : Value} (hq : q ≤ 100000) (hnode : ∀ W b ge, Rd w W b ge q P (.slice ja n jc) (.slice oa m oc) (.slice pa q pc) (fun _ => false) → Calls Try.prog 71 #[.pointer (some ⟨b, 0, none⟩), .int .i64 0] W fun e w' => e = .returned r ∧ Below w.heap.size w w') :
    Calls Try.prog 53 #[.agg #[.int .i64 P, .slice ja n jc, .slice oa m oc], .slice pa q pc] w fun e w' => e = .returned r ∧ Below w.heap.size w w' := by
  have hnode' := Lib.hid hnode
  clear hnode
  go_enter Try.func53, Try.ntmps53
  go_wp2_with fail
  obtain ⟨W, hW⟩ : ∃ W, W = w.alloc (Obj.cells #[Value.int IntKind.i64 P, Value.slice ja n jc, Value.slice oa m oc] 81) := ⟨_, rfl⟩
  rw [← hW]
  have c0 : W.cell? ⟨w.heap.size, 0, none⟩ = some (.int .i64 P) := by rw [hW]; rw [World.cell?_alloc_at (hn := rfl)]; rfl
  have c1 : W.cell? ⟨w.heap.size, 1, none⟩ = some (.slice ja n jc) := by rw [hW]; rw [World.cell?_alloc_at (hn := rfl)]; rfl
  have c2 : W.cell? ⟨w.heap.size, 2, none⟩ = some (.slice oa m oc) := by rw [hW]; rw [World.cell?_alloc_at (hn := rfl)]; rfl
  have hWb : Below w.heap.size w W := by rw [hW]; exact below_alloc1 _ _
  have hWs : W.heap.size = w.heap.size + 1 := by rw [hW]; simp
  obtain ⟨b1, hb1⟩ : ∃ b1, b1 = w.heap.size := ⟨_, rfl⟩
  rw [← hb1] at c0 c1 c2 hWs ⊢
  have hb12 : b1 < W.heap.size := by omega
  have hb1' := Lib.hid hb1
  have hWb' := Lib.hid hWb
  clear hW hWb hb1 hWs
  refine Code.wp_mono (Q := fun e a' W3 => e = .normal ∧ ∃ b ge tmps, a' = { tmps, defers := [] } ∧ tmps.getD 5 undef = .pointer (some ⟨b, 0, none⟩) ∧ tmps.size = 13 ∧ Rd w W3 b ge q P (.slice ja n jc) (.slice oa m oc) (.slice pa q pc) (fun _ => false)) ?_ ?_
  · rintro e a' W3 ⟨rfl, b, ge, tmps, rfl, htm, hts, hR⟩
    have hc := Lib.hid (hnode'.out W3 b ge hR)
    clear hR c0 c1 c2
    have htm2 : tmps[5]?.getD undef = .pointer (some ⟨b, 0, none⟩) := by simpa using htm
    have h10 : 12 < tmps.size := by omega
    have h2 : 4 < tmps.size := by omega
    have hts' := Lib.hid hts
    clear htm hts
    go_wp2_with (refine (hc.out).mono ?_; rintro e w4 ⟨rfl, hM⟩; have hM' := Lib.hid hM; clear hM)
    go_ret
    exact ⟨by simp [hts'.out], hM'.out⟩
  · refine wp_region_any (by kernel_rfl) (wpAny_of_held (S := fun w' => Below W.heap.size W w') _ _ _ _ ?_)
    have hHeld : Below W.heap.size W W.drew := (Below.refl _ _).drew
    change wpAnyH _ _ _ _ _ _ _ _ W.drew
    simp only [List.size_toArray, List.length_cons, List.length_nil, Nat.reduceAdd, Array.replicate_succ, Array.replicate_zero, List.push_toArray, List.nil_append, List.cons_append]
    have hmk := Lib.hid (fun (V : World) => make103 V q (by omega))
    refine wpAnyH_take (i := 0) (v := .agg #[.int .i64 P, .slice ja n jc, .slice oa m oc]) rfl (by kernel_rfl) (by kernel_rfl) (by kernel_rfl) (fun _ _ _ h => by cases h.1) (Or.inl ⟨by rfl, ?_⟩) hHeld ?_
    · intro w' hSw; have a0 := (hSw.cell (p := ⟨b1, 0, none⟩) hb12).trans c0; have a1 := (hSw.cell (p := ⟨b1, 1, none⟩) hb12).trans c1; have a2 := (hSw.cell (p := ⟨b1, 2, none⟩) hb12).trans c2; go_simp
    simp only [Act.put, List.setIfInBounds_toArray, List.set_cons_zero, List.set_cons_succ, List.getElem_toArray, List.getElem_cons_zero]
    refine wpAnyH_take (i := 1) (v := .slice pa q pc) rfl (by kernel_rfl) (by kernel_rfl) (by kernel_rfl) (fun _ _ _ h => by cases h.1) (Or.inl ⟨by rfl, ?_⟩) hHeld ?_
    · intro w' hSw; go_simp
    simp only [Act.put, List.setIfInBounds_toArray, List.set_cons_zero, List.set_cons_succ, List.getElem_toArray, List.getElem_cons_succ, List.getElem_cons_zero]
    refine wpAnyH_take (i := 2) (v := .slice pa q pc) rfl (by kernel_rfl) (by kernel_rfl) (by kernel_rfl) (fun _ _ _ h => by cases h.1) (Or.inl ⟨by rfl, ?_⟩) hHeld ?_
    · intro w' hSw; go_simp
    simp only [Act.put, List.setIfInBounds_toArray, List.set_cons_zero, List.set_cons_succ, List.getElem_toArray, List.getElem_cons_succ, List.getElem_cons_zero]
    refine wpAnyH_take (i := 3) (v := .int .i64 q) rfl (by kernel_rfl) (by kernel_rfl) (by kernel_rfl) (fun _ _ _ h => by cases h.1) (Or.inl ⟨by rfl, ?_⟩) hHeld ?_
    · intro w' hSw; go_simp
    simp only [Act.put, List.setIfInBounds_toArray, List.set_cons_zero, List.set_cons_succ, List.getElem_toArray, List.getElem_cons_succ, List.getElem_cons_zero]
    refine wpAnyH_ready (rs := [4, 6]) (by kernel_rfl) (by simp) ?_
    refine AllReadyH.cons rfl (fun K hK => ?_) (AllReadyH.cons rfl (fun K hK => ?_) AllReadyH.nil)
    · have hm := hmk.out W.drew
      have hal : Below W.heap.size W (W.alloc (.cells (madeCells #[Value.bool false] q) 4)).drew := (below_alloc1 _ _).drew
      go_simp
      refine hK.out _ _ hal (fun hHeld => ?_)
      clear hK K hal hm
      simp only [List.setIfInBounds_toArray, List.set_cons_zero, List.set_cons_succ]
      obtain ⟨wa, hwa⟩ : ∃ x, x = (W.alloc (.cells (madeCells #[Value.bool false] q) 4)).drew := ⟨_, rfl⟩
      rw [← hwa] at hHeld ⊢
      have hwa' := Lib.hid hwa
      have hwaB := Lib.hid hHeld
      obtain ⟨ga, hga⟩ : ∃ x, x = W.heap.size := ⟨_, rfl⟩
      have hga' := Lib.hid hga
      rw [← hga] at hHeld ⊢
      clear hwa hga
      refine wpAnyH_take (i := 5) (v := .agg #[.int .i64 P, .slice ja n jc, .slice oa m oc, .slice pa q pc, .slice (some ⟨ga, 0, none⟩) q q]) rfl (by kernel_rfl) (by kernel_rfl) (by kernel_rfl) (fun _ _ _ h => by cases h.1) (Or.inl ⟨by rfl, ?_⟩) hHeld ?_
      · intro w' hSw; go_simp
      simp only [Act.put, List.setIfInBounds_toArray, List.set_cons_zero, List.set_cons_succ, List.getElem_toArray, List.getElem_cons_succ, List.getElem_cons_zero]
      refine wpAnyH_ready (rs := [6]) (by kernel_rfl) (by simp) ?_
      refine AllReadyH.cons rfl (fun K hK => ?_) AllReadyH.nil
      have hal : Below ga W (wa.alloc (.cells rdZ 128)) := hHeld.alloc (by have := hHeld.size; rw [hga'.out]; exact this) _
      go_simp
      refine hK.out _ _ hal (fun hHeld => ?_)
      clear hK K hal
      simp only [List.setIfInBounds_toArray, List.set_cons_zero, List.set_cons_succ]
      refine wpAnyH_ready (rs := [7]) (by kernel_rfl) (by simp) ?_
      refine AllReadyH.cons rfl (fun K hK => ?_) AllReadyH.nil
      refine wp_store_mid 128 (.tmp 5) (.tmp 11) rfl wa.heap.size 0 [.int .i64 P, .slice ja n jc, .slice oa m oc, .slice pa q pc, .slice (some ⟨ga, 0, none⟩) q q].toArray (by rfl) (by rfl) (rd_there wa 128) (by kernel_rfl) one_rd ?_
      refine hK.out _ _ (below_setC (by have := hwaB.out.size; rw [hga'.out]; exact this) _ _ _ hHeld) (fun hHeld => ?_)
      clear hK K
      refine wpAnyH_done (by kernel_rfl) ?_ _
      have hbW : Below w.heap.size w wa := hWb'.out.trans (hwaB.out.mono hWb'.out.size)
      have hsa : wa.heap.size = W.heap.size + 1 := by rw [hwa'.out]; show (W.alloc _).heap.size = _; simp
      have hww := hWb'.out.size
      have hgW := hga'.out
      refine ⟨rfl, wa.heap.size, ga, _, rfl, rfl, rfl, ?_⟩
      refine rd_new (hbW.alloc (by omega) _) (by omega) (by omega) (by simp) (by simp; omega) (by omega) (rd_there wa 128) (fun i hi => ?_) (fun j => ?_)
      · rw [(below_alloc1 wa _).cell (p := ⟨ga, i, none⟩) (by show ga < _; omega), hwa'.out, hgW]; exact madeB_new W q i hi
      · rw [(below_alloc1 wa _).frozen (p := ⟨ga, j, none⟩) (by show ga < _; omega), hwa'.out, hgW]; exact alloc_fz W _ 4 j
    · have hal : Below W.heap.size W (W.alloc (.cells rdZ 128)).drew := (below_alloc1 _ _).drew
      go_simp
      refine hK.out _ _ hal (fun hHeld => ?_)
      clear hK K hal
      simp only [List.setIfInBounds_toArray, List.set_cons_zero, List.set_cons_succ]
      obtain ⟨wa, hwa⟩ : ∃ x, x = (W.alloc (.cells rdZ 128)).drew := ⟨_, rfl⟩
      change Below W.heap.size W (W.alloc (.cells rdZ 128)).drew at hHeld
      change wpAnyH _ _ _ _ _ _ _ _ (W.alloc (.cells rdZ 128)).drew
      rw [← hwa] at hHeld ⊢
      have hwa' := Lib.hid hwa
      have hwaB := Lib.hid hHeld
      obtain ⟨ga, hga⟩ : ∃ x, x = W.heap.size := ⟨_, rfl⟩
      have hga' := Lib.hid hga
      rw [← hga] at hHeld ⊢
      clear hwa hga
      refine wpAnyH_ready (rs := [4]) (by kernel_rfl) (by simp) ?_
      refine AllReadyH.cons rfl (fun K hK => ?_) AllReadyH.nil
      have hm := hmk.out wa
      have hal : Below ga W (wa.alloc (.cells (madeCells #[Value.bool false] q) 4)) := hHeld.alloc (by have := hHeld.size; rw [hga'.out]; exact this) _
      go_simp
      refine hK.out _ _ hal (fun hHeld => ?_)
      clear hK K hal hm
      simp only [List.setIfInBounds_toArray, List.set_cons_zero, List.set_cons_succ]
      refine wpAnyH_take (i := 5) (v := .agg #[.int .i64 P, .slice ja n jc, .slice oa m oc, .slice pa q pc, .slice (some ⟨wa.heap.size, 0, none⟩) q q]) rfl (by kernel_rfl) (by kernel_rfl) (by kernel_rfl) (fun _ _ _ h => by cases h.1) (Or.inl ⟨by rfl, ?_⟩) hHeld ?_
      · intro w' hSw; go_simp
      simp only [Act.put, List.setIfInBounds_toArray, List.set_cons_zero, List.set_cons_succ, List.getElem_toArray, List.getElem_cons_succ, List.getElem_cons_zero]
      refine wpAnyH_ready (rs := [7]) (by kernel_rfl) (by simp) ?_
      refine AllReadyH.cons rfl (fun K hK => ?_) AllReadyH.nil
      have hth : (wa.alloc (.cells (madeCells #[Value.bool false] q) 4)).there ga 0 5 := by
        refine World.there_alloc ?_ _
        rw [hwa'.out, hga'.out]; exact rd_there W 128
      refine wp_store_mid 128 (.tmp 5) (.tmp 11) rfl ga 0 [.int .i64 P, .slice ja n jc, .slice oa m oc, .slice pa q pc, .slice (some ⟨wa.heap.size, 0, none⟩) q q].toArray (by rfl) (by rfl) hth (by kernel_rfl) one_rd ?_
      refine hK.out _ _ (below_setC (Nat.le_refl _) _ _ _ hHeld) (fun hHeld => ?_)
      clear hK K
      refine wpAnyH_done (by kernel_rfl) ?_ _
      have hbW : Below w.heap.size w wa := hWb'.out.trans (hwaB.out.mono hWb'.out.size)
      have hsa : wa.heap.size = W.heap.size + 1 := by rw [hwa'.out]; show (W.alloc _).heap.size = _; simp
      have hww := hWb'.out.size
      have hgW := hga'.out
      refine ⟨rfl, ga, wa.heap.size, _, rfl, rfl, rfl, ?_⟩
      exact rd_new (hbW.alloc (by omega) _) (by omega) (by omega) (by simp; omega) (by simp) (by omega) hth (fun i hi => madeB_new wa q i hi) (fun j => alloc_fz _ _ _ _)
end Go.Proofs.Ytjkbhdlbomcbeaa

namespace Go.Proofs.Ytjkbhdlbomcbeaa
open Go.RowKit Go.Shelf Shf

@[local go_sem] theorem meth126 (v : Value) (w : World) : (method 259 126 v "bolster/shaft.refutes").run Try.prog w = .ok (76, v) w := by kernel_rfl
set_option maxHeartbeats 4000000 in
set_option maxRecDepth 100000 in
theorem provesLate32 {w : World} {v pv : Value} {P : Int} {js : List J} {os : List (Int × Int)} (h : ShV w v P js os) (h7 : js.length ≤ 7) (h21 : os.length ≤ 21) (hv : validB P js os = true) {k : Nat} (hk : k < (shOf P js os).os.length) (hd : lateO (shOf P js os) k = true) (hp : ReadsNd w pv [⟨3, k, 0, 0, 0, 0⟩]) :
    Calls Try.prog 32 #[v, pv] w fun e w' => e = .returned (.tuple #[.bool true, .int .i64 0]) ∧ Below w.heap.size w w' := by
  obtain ⟨jv, ov, rfl, rj, ro⟩ := h
  obtain ⟨ja, n, jc, rfl⟩ : ∃ a n c, jv = .slice a n c := by obtain ⟨a, c, e, _⟩ := rj; exact ⟨_, _, _, e⟩
  obtain ⟨oa, oc, rfl, -⟩ := ro.at
  have hpr := Lib.hid (fun (W : World) (hb : Below w.heap.size w W) => hp.below hb)
  obtain ⟨pa, pc, rfl, -⟩ := hp
  simp only [List.length_cons, List.length_nil, Nat.zero_add] at hpr ⊢
  obtain ⟨m, hm⟩ : ∃ m, m = os.length := ⟨_, rfl⟩
  have hkm : k < m := by rw [hm]; simpa [shOf] using hk
  rw [← hm] at ro ⊢
  have hb0 := Lib.hid (below_alloc1 w (.cells #[.int .i64 P, .slice ja n jc, .slice oa m oc] 25))
  have hsh := Lib.hid (fun (W : World) (hb : Below w.heap.size w W) => (show ShV W (.agg #[.int .i64 P, .slice ja n jc, .slice oa m oc]) P js os from ⟨_, _, rfl, rj.below hb, ro.below hb⟩))
  have hn := Lib.hid (new37' (rj.below hb0.out) (ro.below hb0.out) h7 h21 hv)
  obtain ⟨hV, hos⟩ := valid_sh hv
  have hlt := Lib.hid (fun (W : World) (hb : Below w.heap.size w W) => late76 (w := W) (s := shOf P js os) hV.loose (by rw [hos]; exact hsh.out W hb) hk hd)
  have hps := Lib.hid (fun (W : World) (hb : Below w.heap.size w W) => parse53 (w := W) (P := P) (ja := ja) (oa := oa) (pa := pa) (n := n) (jc := jc) (m := m) (oc := oc) (q := 1) (pc := pc) (r := .iface 126 (.agg #[.int .i64 k])) (by omega) (fun W3 b ge hR => nodeLate71 (i := 0) (ns := [⟨3, k, 0, 0, 0, 0⟩]) hR (hpr.out W hb) (by simp) rfl rfl hkm))
  clear hV hos hv rj ro h7 h21 hk hd hm
  go_enter Try.func32, Try.ntmps32
  go_wp2_with (
    first
    | (go_at_call 37; refine (hn.out).mono ?_; rintro e w1 ⟨rfl, hb1⟩
       have hT1 := Lib.hid (Three.new w1 (.int .i64 P) (.slice ja n jc) (.slice oa m oc) 81)
       have hs1 := Lib.hid (show w1.heap.size < (w1.alloc (.cells #[.int .i64 P, .slice ja n jc, .slice oa m oc] 81)).heap.size by simp)
       have hb1' := Lib.hid (below_call (below_call hb0.out hb1) (below_alloc1 _ (.cells #[.int .i64 P, .slice ja n jc, .slice oa m oc] 81)))
       have hc1 := Lib.hid (hps.out _ hb1'.out)
       clear hb1)
    | (go_at_call 53; refine (hc1.out).mono ?_; rintro e w2 ⟨rfl, hb2⟩
       have hb2' := Lib.hid (below_call hb1'.out hb2)
       obtain ⟨⟨z0, z1, z2⟩, -⟩ := hT1.out.keep hb2 hs1.out
       have hl2 := Lib.hid (hlt.out _ hb2'.out)
       clear hb2)
    | (go_at_call 76; refine (hl2.out).mono ?_; rintro e w3 ⟨rfl, hb3⟩
       have hb3' := Lib.hid (below_call hb2'.out hb3)
       clear hb3))
  go_ret2
  exact ⟨rfl, hb3'.out⟩
end Go.Proofs.Ytjkbhdlbomcbeaa

namespace Go.Proofs.Ytjkbhdlbomcbeaa
open Go.RowKit Go.Shelf Shf

theorem tab_succ (n : Nat) (F : Nat → Int) : tab (n + 1) F = tab n F ++ [F n] := by
  unfold tab; rw [List.range_succ, List.map_append]; rfl
theorem sm_act_in {s : Sh} (hs : Loose s) {S : Nat → Int} {t : Int} {i : Nat} (hi : i ≤ s.n) : 0 ≤ sm i (fun k => act (s.job k) (S k) t) ∧ sm i (fun k => act (s.job k) (S k) t) ≤ 120 := by
  have h := sm_bound (b := 20) (f := fun k => act (s.job k) (S k) t) (by omega) i (fun k hk => act_in (by have := hs.jobs k (by omega); omega) _ _)
  have hn := hs.num
  omega
set_option maxHeartbeats 4000000 in
set_option maxRecDepth 100000 in
theorem refLoad34 {w : World} {v u : Value} {s : Sh} {os : List (Int × Int)} {xs : List Int} (hs : Loose s) (h : ShV w v s.P s.js os) (hx : Reads w u xs) (hl : xs.length = s.n) (hr : ∀ i, i < s.n → 0 ≤ xs.getD i 0 ∧ xs.getD i 0 ≤ 24) :
    Calls Try.prog 34 #[v, u] w (Made w (loadL s fun i => xs.getD i 0)) := by
  obtain ⟨jv, ov, rfl, rj, ro⟩ := h
  obtain ⟨ja, jc, rfl, hjc, hjat⟩ := rj.at
  obtain ⟨oa, m, oc, rfl⟩ : ∃ a n c, ov = .slice a n c := by obtain ⟨a, c, e, _⟩ := ro; exact ⟨_, _, _, e⟩
  obtain ⟨xa, xc, rfl, hxc⟩ := hx.len
  have h6 := hs.num
  rw [show s.js.length = s.n from rfl] at hjat hjc rj ⊢
  rw [hl] at hx hxc ⊢
  obtain ⟨n, hn⟩ : ∃ n, n = s.n := ⟨_, rfl⟩
  rw [← hn] at hjat hjc h6 rj hx hxc hr hl ⊢
  obtain ⟨S, hS⟩ : ∃ S : Nat → Int, S = fun i => xs.getD i 0 := ⟨_, rfl⟩
  rw [← hS]
  have hxat := Lib.hid (fun (k : Nat) (hk : k < n) => (show ∃ g o, xa = some ⟨g, o, none⟩ ∧ g < w.heap.size ∧ w.cell? ⟨g, o + k, none⟩ = some (.int .i64 (S k)) ∧ 0 ≤ S k ∧ S k ≤ 24 from by
    obtain ⟨g, o, e, hg, h⟩ := hx.at hl hk
    rw [hS]
    exact ⟨g, o, e, hg, h k hk, hr k hk⟩))
  have hn' := Lib.hid hn
  have hjat' := Lib.hid hjat
  have hs' := Lib.hid hs
  have hb0 := Lib.hid (below_alloc1 w (.cells #[.int .i64 s.P, .slice ja n jc, .slice oa m oc] 25))
  have ht0 := Lib.hid (Three.new w (.int .i64 s.P) (.slice ja n jc) (.slice oa m oc) 25)
  have hz0 := Lib.hid (show (w.alloc (.cells #[.int .i64 s.P, .slice ja n jc, .slice oa m oc] 25)).heap.size = w.heap.size + 1 by simp)
  clear hn hjat hs hx hr hl rj ro hS
  go_enter Try.func34, Try.ntmps34
  go_wp2_with fail
  obtain ⟨W0, hW0⟩ : ∃ W0, W0 = w.alloc (.cells #[.int .i64 s.P, .slice ja n jc, .slice oa m oc] 25) := ⟨_, rfl⟩
  rw [← hW0] at hb0 ht0 hz0 ⊢
  clear hW0
  have hlit := Lib.hid (show Ints (W0.alloc (.cells #[] 3)) (w.heap.size + 1) (.slice (some ⟨w.heap.size + 1, 0, none⟩) 0 0) [] from by
    have h := Ints.lit W0 (w.heap.size + 1) (by have := hz0.out; omega)
    rw [hz0.out] at h
    exact h)
  have hb1 := Lib.hid (below_alloc1 W0 (.cells #[] 3))
  have hbA := Lib.hid (show Below (w.heap.size + 1) W0 (W0.alloc (.cells #[] 3)) from hb1.out.mono (by have := hz0.out; omega))
  go_loopw [5, 6] (fun ov tv wr => ∃ t : Nat, t ≤ 24 ∧ tv = .int .i64 t ∧ Hid (Ints wr (w.heap.size + 1) ov (tab t fun t => loadAt s S (t : Int))) ∧ Hid (Below (w.heap.size + 1) W0 wr)) (fun _ tv _ => 24 - (intOf tv).toNat)
  case atStart => exact ⟨0, Nat.zero_le _, rfl, Lib.hid hlit.out, hbA⟩
  case round =>
    clear hlit hb1 hbA
    obtain ⟨t, ht, rfl, hI, hB⟩ := hrel
    obtain ⟨oa', oc', rfl, -⟩ := hI.out.shape
    obtain ⟨wo, rfl⟩ : ∃ wo : World, wo = wr := ⟨_, rfl⟩
    rw [tab_len] at hI ⊢
    by_cases htn : t < 24
    · have htB : decide ((t : Int) < 24) = true := by simp; omega
      go_wp2_with fail
      clear htB
      go_loopw [7, 8] (fun sv iv wi => ∃ i : Nat, i ≤ n ∧ iv = .int .i64 i ∧ sv = .int .i64 (sm i fun k => act (s.job k) (S k) (t : Int)) ∧ Hid (Below wo.heap.size wo wi)) (fun _ iv _ => n - (intOf iv).toNat)
      case atStart => exact ⟨0, Nat.zero_le _, rfl, rfl, Lib.hid (Below.refl _ _)⟩
      case round =>
        obtain ⟨i, hi, rfl, rfl, hBi⟩ := hrel
        obtain ⟨wi, rfl⟩ : ∃ wi : World, wi = wr := ⟨_, rfl⟩
        have hsz := hB.out.size
        rw [hz0.out] at hsz
        have hBw := Lib.hid (show Below w.heap.size w wi from hb0.out.trans ((hB.out.mono (Nat.le_succ _)).trans (hBi.out.mono (by omega))))
        obtain ⟨⟨z0, z1, z2⟩, -⟩ := (ht0.out.keep hB.out (Nat.lt_succ_self _)).keep hBi.out (by omega)
        have hin2 := sm_act_in hs'.out (S := S) (t := (t : Int)) (i := i) (by rw [← hn'.out]; exact hi)
        have hnx := Lib.hid (show sm (i + 1) (fun k => act (s.job k) (S k) (t : Int)) = sm i (fun k => act (s.job k) (S k) (t : Int)) + act (s.job i) (S i) (t : Int) from rfl)
        obtain ⟨z, hz⟩ : ∃ z, z = sm i (fun k => act (s.job k) (S k) (t : Int)) := ⟨_, rfl⟩
        rw [← hz] at hin2 hnx ⊢
        by_cases hin : i < n
        · obtain ⟨g, rfl, hg, k0, k1, k2, k3⟩ := hjat'.out i hin
          have d2 := (hBw.out.cell (p := ⟨g, i * 4 + 2, none⟩) hg).trans k2
          have d3 := (hBw.out.cell (p := ⟨g, i * 4 + 3, none⟩) hg).trans k3
          have hjb := hs'.out.jobs i (by rw [← hn'.out]; exact hin)
          obtain ⟨⟨f, tt, l, p⟩, hjq⟩ : ∃ j, j = s.js.getD i J0 := ⟨_, rfl⟩
          rw [show s.job i = s.js.getD i J0 from rfl] at hjb hnx
          rw [← hjq] at d2 d3 hjb hnx
          simp only at d2 d3 hjb
          have hin' : (i : Int) < (n : Int) := by omega
          obtain ⟨gx, ox, rfl, hgx, e0, hS0⟩ := hxat.out i hin
          have c0 := (hBw.out.cell (p := ⟨gx, ox + i, none⟩) hgx).trans e0
          obtain ⟨x, hx⟩ : ∃ x : Nat, S i = (x : Int) := ⟨(S i).toNat, by omega⟩
          rw [hx] at c0 hS0 hnx
          clear k0 k1 k2 k3 hjq hx e0 hz
          have hact := Lib.hid (show act ⟨f, tt, l, p⟩ (x : Int) (t : Int) = if (x : Int) ≤ (t : Int) ∧ (t : Int) < (x : Int) + l then p else 0 from rfl)
          by_cases c1 : x ≤ t
          · by_cases c2 : (t : Int) - (x : Int) < l
            · have hv := Lib.hid (show sm (i + 1) (fun k => act (s.job k) (S k) (t : Int)) = z + p by rw [hnx.out, hact.out, if_pos (by omega)])
              go_wp2_with fail
              go_quiet (fail)
              go_wp2_with fail
              exact ⟨⟨i + 1, by omega, by go_num, int_eq hv.out.symm, Lib.hid (below_drewN hBi.out _)⟩, by simp [intOf]; omega⟩
            · have hv := Lib.hid (show sm (i + 1) (fun k => act (s.job k) (S k) (t : Int)) = z by rw [hnx.out, hact.out, if_neg (by omega)]; omega)
              have hc2' : decide ((t : Int) - (x : Int) < l) = false := by simpa using c2
              go_wp2_with fail
              go_quiet (fail)
              go_wp2_with fail
              exact ⟨⟨i + 1, by omega, by go_num, int_eq hv.out.symm, Lib.hid (below_drewN hBi.out _)⟩, by simp [intOf]; omega⟩
          · have hv := Lib.hid (show sm (i + 1) (fun k => act (s.job k) (S k) (t : Int)) = z by rw [hnx.out, hact.out, if_neg (by omega)]; omega)
            have c1' : decide (x ≤ t) = false := by simpa using c1
            go_wp2_with fail
            go_quiet (fail)
            go_wp2_with fail
            exact ⟨⟨i + 1, by omega, by go_num, int_eq hv.out.symm, Lib.hid (below_drewN hBi.out _)⟩, by simp [intOf]; omega⟩
        · obtain rfl : i = n := by omega
          have hIi := Lib.hid (hI.out.below (hBi.out))
          have hBB := Lib.hid (show Below (w.heap.size + 1) W0 wi from hB.out.trans (hBi.out.mono hsz))
          have hsi := Lib.hid (show w.heap.size + 1 ≤ wi.heap.size from Nat.le_trans hsz hBi.out.size)
          have hz' := Lib.hid (show loadAt s S (t : Int) = z by rw [hz, hn'.out]; rfl)
          clear hz hnx
          go_wp2_with (
            at_builtin; refine app_int hIi.out (by rw [tab_len]; omega) hsi.out rfl _ _ rfl rfl rfl ?_; intro v5 w5 hI5 hb5
            have hI5' := Lib.hid hI5
            have hb5' := Lib.hid (hBB.out.trans hb5)
            clear hI5 hb5)
          have hI6 := Lib.hid (show Ints w5 (w.heap.size + 1) v5 (tab (t + 1) fun t => loadAt s S (t : Int)) from by
            rw [tab_succ, hz'.out]; exact hI5'.out)
          exact ⟨⟨t + 1, by omega, by go_num, hI6, hb5'⟩, by simp [intOf]; omega⟩
    · obtain rfl : t = 24 := by omega
      go_wp2_with fail
      go_ret
      exact ⟨_, rfl, hI.out.base (Nat.le_succ _), hb0.out.trans (hB.out.mono (Nat.le_succ _))⟩
end Go.Proofs.Ytjkbhdlbomcbeaa

namespace Go.Proofs.Ytjkbhdlbomcbeaa
open Go.RowKit Go.Shelf Shf

/-- What a job needs from `a` up to `b`. -/
def needJ (j : J) (a b : Int) : Int := j.p * min (min (min j.l (b - a)) (max 0 (j.f + j.l - a))) (max 0 (b - lat j))
def JobIn (j : J) : Prop := 0 ≤ j.f ∧ j.f ≤ 24 ∧ 1 ≤ j.l ∧ j.l ≤ 24 ∧ j.t ≤ 24 ∧ 0 ≤ j.t ∧ 1 ≤ j.p ∧ j.p ≤ 20
theorem needJ_in {j : J} (h : JobIn j) {a b : Int} (hab : a ≤ b) : 0 ≤ needJ j a b ∧ needJ j a b ≤ 480 := by
  unfold JobIn at h
  unfold needJ
  obtain ⟨m, hm⟩ : ∃ m, m = min (min (min j.l (b - a)) (max 0 (j.f + j.l - a))) (max 0 (b - lat j)) := ⟨_, rfl⟩
  rw [← hm]
  have h1 : 0 ≤ m ∧ m ≤ 24 := by omega
  exact ⟨Int.mul_nonneg (by omega) h1.1, by
    have := Int.mul_le_mul (show j.p ≤ 20 by omega) h1.2 h1.1 (by omega)
    omega⟩
theorem run_min4 {P : Program} {w : World} (ts : Array TypeId) (t : TypeId) (a b c d m : Int) (hm : m = min (min (min a b) c) d) : (Builtin.min_ ts t #[.int .i64 a, .int .i64 b, .int .i64 c, .int .i64 d]).run P w = .ok (.int .i64 m) w := by
  have e : (if d < (if c < (if b < a then b else a) then c else (if b < a then b else a)) then d else (if c < (if b < a then b else a) then c else (if b < a then b else a))) = m := by
    rw [hm]; split <;> split <;> split <;> omega
  have h : (Builtin.min_ ts t #[.int .i64 a, .int .i64 b, .int .i64 c, .int .i64 d]).run P w = .ok (.int .i64 (if d < (if c < (if b < a then b else a) then c else (if b < a then b else a)) then d else (if c < (if b < a then b else a) then c else (if b < a then b else a)))) w := by
    simp [Builtin.min_, Builtin.min2]
  rw [h, e]
set_option maxHeartbeats 4000000 in
set_option maxRecDepth 100000 in
theorem need66 {w : World} {j : J} (h : JobIn j) {a b : Int} (ha : 0 ≤ a ∧ a ≤ 24) (hb : 0 ≤ b ∧ b ≤ 24) (hab : a ≤ b) :
    Calls Try.prog 66 #[.agg #[.int .i64 j.f, .int .i64 j.t, .int .i64 j.l, .int .i64 j.p], .int .i64 a, .int .i64 b] w fun e w' => e = .returned (.int .i64 (needJ j a b)) ∧ Below w.heap.size w w' := by
  have hin := needJ_in h hab
  obtain ⟨f, t, l, p⟩ := j
  unfold JobIn at h
  simp only at h ⊢
  have e38 := Lib.hid (show ∀ W, Calls Try.prog 38 #[.agg #[.int .i64 f, .int .i64 t, .int .i64 l, .int .i64 p]] W fun e w' => e = .returned (.int .i64 (t - l)) ∧ Below W.heap.size W w' from fun W => latest38 ⟨f, t, l, p⟩ (by simp only; omega))
  obtain ⟨x, hx⟩ : ∃ x, x = max 0 (f + l - a) := ⟨_, rfl⟩
  obtain ⟨y, hy⟩ : ∃ y, y = max 0 (b - (t - l)) := ⟨_, rfl⟩
  have hneed : needJ ⟨f, t, l, p⟩ a b = p * min (min (min l (b - a)) x) y := by rw [hx, hy]; rfl
  obtain ⟨m, hm⟩ : ∃ m, m = min (min (min l (b - a)) x) y := ⟨_, rfl⟩
  rw [← hm] at hneed
  rw [hneed] at hin ⊢
  have s1 : IntKind.i64.wrap (f + l) = f + l := IntWalk.i64_in _ (by omega)
  have s2 : IntKind.i64.wrap (f + l - a) = f + l - a := IntWalk.i64_in _ (by omega)
  have s3 : IntKind.i64.wrap (b - (t - l)) = b - (t - l) := IntWalk.i64_in _ (by omega)
  have s4 : IntKind.i64.wrap (p * m) = p * m := IntWalk.i64_in _ (by omega)
  have hxy : 0 ≤ x ∧ x ≤ 48 ∧ 0 ≤ y ∧ y ≤ 48 := by omega
  have hm4 := fun (W : World) => run_min4 (P := Try.prog) (w := W) #[3, 3, 3, 3] 3 l (b - a) x y m hm
  have hx' := Lib.hid hx
  have hy' := Lib.hid hy
  have hb0 := Lib.hid (below_alloc1 w (.cells #[.int .i64 f, .int .i64 t, .int .i64 l, .int .i64 p] 56))
  clear hx hy hneed hm hin
  go_enter Try.func66, Try.ntmps66
  go_wp2_with fail
  obtain ⟨W, hW⟩ : ∃ W, W = w.alloc (.cells #[.int .i64 f, .int .i64 t, .int .i64 l, .int .i64 p] 56) := ⟨_, rfl⟩
  have q0 : W.cell? ⟨w.heap.size, 0, none⟩ = some (.int .i64 f) := by rw [hW]; simp
  have q1 : W.cell? ⟨w.heap.size, 1, none⟩ = some (.int .i64 t) := by rw [hW]; simp
  have q2 : W.cell? ⟨w.heap.size, 2, none⟩ = some (.int .i64 l) := by rw [hW]; simp
  have q3 : W.cell? ⟨w.heap.size, 3, none⟩ = some (.int .i64 p) := by rw [hW]; simp
  have hwW := Lib.hid (show w.heap.size < W.heap.size by rw [hW]; simp)
  rw [← hW] at hb0 ⊢
  clear hW
  go_cut [7, 8] from 9 to 21 (fun xv yv wx => ∃ w4 : World, w4 = wx ∧ xv = .int .i64 x ∧ yv = .int .i64 y ∧ Hid (Below W.heap.size W w4))
  case first =>
    by_cases hx2 : 0 < f + l - a <;> by_cases hy2 : 0 < b - (t - l)
    all_goals
      refine wp_region_noPanic ?_
      go_region_held3 (fun w' => w'.cell? ⟨w.heap.size, 0, none⟩ = some (.int .i64 f) ∧ w'.cell? ⟨w.heap.size, 1, none⟩ = some (.int .i64 t) ∧ w'.cell? ⟨w.heap.size, 2, none⟩ = some (.int .i64 l) ∧ w'.cell? ⟨w.heap.size, 3, none⟩ = some (.int .i64 p))
        (first
          | exact ⟨q0, q1, q2, q3⟩
          | exact ⟨(hbW.cell (p := ⟨w.heap.size, 0, none⟩) hwW.out).trans q0, (hbW.cell (p := ⟨w.heap.size, 1, none⟩) hwW.out).trans q1, (hbW.cell (p := ⟨w.heap.size, 2, none⟩) hwW.out).trans q2, (hbW.cell (p := ⟨w.heap.size, 3, none⟩) hwW.out).trans q3⟩)
        ((go_at_call 38; refine (e38.out _).mono ?_; rintro e wk ⟨rfl, hbk⟩; have hbW := (Below.refl W.heap.size W).drew.trans hbk))
      all_goals refine NoPanic.normal ?_
      all_goals go_wp2_with fail
      all_goals go_meet
      all_goals exact ⟨_, rfl, int_eq (by rw [hx'.out]; omega), int_eq (by rw [hy'.out]; omega), Lib.hid hbW⟩
  case rest =>
    obtain ⟨w4, rfl, rfl, rfl, hb4⟩ := hcut
    have r0 := (hb4.out.cell (p := ⟨w.heap.size, 0, none⟩) hwW.out).trans q0
    have r2 := (hb4.out.cell (p := ⟨w.heap.size, 2, none⟩) hwW.out).trans q2
    have r3 := (hb4.out.cell (p := ⟨w.heap.size, 3, none⟩) hwW.out).trans q3
    have hbE := Lib.hid (below_call hb0.out hb4.out)
    go_wp2_with fail
    go_ret
    exact ⟨rfl, hbE.out⟩
end Go.Proofs.Ytjkbhdlbomcbeaa
