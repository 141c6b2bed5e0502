import Derived.Test.YtjkbhdlbomcbeaaS
import Derived.Deep.RegionLaw
import Derived.Deep.MidRow
namespace Go.Proofs.Ytjkbhdlbomcbeaa
open Go.RowKit Shf

theorem made_cell {n j : Nat} (h : j < n) : (madeCells #[Value.int .i64 0] n)[j]? = some (Value.int .i64 0) := by
  have := toList_madeCells_one (Value.int .i64 0) n
  rw [← Array.getElem?_toList, this, List.getElem?_replicate, if_pos h]
theorem made_new (V : World) (n : Nat) (i : Nat) (h : i < n) : (V.alloc (.cells (madeCells #[Value.int .i64 0] n) 3)).cell? ⟨V.heap.size, i, none⟩ = some (.int .i64 0) := by
  rw [World.cell?_alloc_at (hn := rfl)]; exact made_cell h
theorem alloc_fz (V : World) (cs : Array Value) (t : TypeId) (j : Nat) : (V.alloc (.cells cs t)).frozen? ⟨V.heap.size, j, none⟩ = false := frozen_of_row _ _ j _ t (heap_alloc_new V (.cells cs t))
def layZ : Array Value := #[.int .i64 0, .slice none 0 0, .slice none 0 0, .slice none 0 0, .int .i64 0, .int .i64 0, .int .i64 0, .int .i64 0, .int .i64 0, .int .i64 0, .int .i64 0, .int .i64 0, .int .i64 0, .int .i64 0, .int .i64 0, .int .i64 0, .int .i64 0, .int .i64 0, .int .i64 0, .int .i64 0, .int .i64 0, .int .i64 0, .int .i64 0, .int .i64 0, .int .i64 0, .int .i64 0, .int .i64 0, .int .i64 0]
theorem lay_there (V : World) (t : TypeId) : (V.alloc (.cells layZ t)).there V.heap.size 0 28 := fun j hj => by
  refine ⟨?_, alloc_fz V _ t _⟩
  rw [World.cell?_alloc_at (hn := rfl), Nat.zero_add, Array.getElem?_eq_getElem (show j < layZ.size from hj)]; rfl
def layC (P : Int) (jv ov ev : Value) : List Value := .int .i64 P :: jv :: ov :: ev :: List.replicate 24 (.int .i64 0)
theorem one_layC {P : Int} {a b c : Option Addr} {n m k n' m' k' : Nat} : (layC P (.slice a n n') (.slice b m m') (.slice c k k')).toArray.all (·.oneCell') = true :=
  all_oneCell_toArray fun v hv => by
    simp only [layC, List.mem_cons, List.mem_replicate] at hv
    rcases hv with rfl | rfl | rfl | rfl | ⟨_, rfl⟩ <;> rfl
theorem below_setC {B g : Nat} {W0 : World} (hg : B ≤ g) : ∀ (vs : List Value) (o : Nat) (w : World), Below B W0 w → Below B W0 (w.setCells g o vs)
  | [], _, _, h => h
  | _ :: vs, o, _, h => below_setC hg vs (o + 1) _ (below_set h hg)
theorem lay_new {w0 V : World} {b ge n : Nat} {jv ov : Value} {s : Sh} (rj : ReadsJ w0 jv s.js) (ro : ReadsO w0 ov (osI s)) (hn : n = s.n) (hb : Below w0.heap.size w0 V) (h1 : w0.heap.size ≤ b) (h2 : w0.heap.size ≤ ge) (h3 : b < V.heap.size) (h4 : ge < V.heap.size) (hne : b ≠ ge)
    (ht : V.there b 0 28) (hf : ∀ j, V.frozen? ⟨b, j, none⟩ = false) (hc : ∀ i, i < n → V.cell? ⟨ge, i, none⟩ = some (.int .i64 0)) (hg : ∀ j, V.frozen? ⟨ge, j, none⟩ = false) :
    Lay w0 (V.setCells b 0 (layC s.P jv ov (.slice (some ⟨ge, 0, none⟩) n n))) b ge n jv ov s (fun _ => 0) (fun _ => 0) := by
  subst hn
  have hin : ∀ j (_ : j < 28), (V.setCells b 0 (layC s.P jv ov (.slice (some ⟨ge, 0, none⟩) s.n s.n))).cell? ⟨b, j, none⟩ = (layC s.P jv ov (.slice (some ⟨ge, 0, none⟩) s.n s.n))[j]? := fun j hj => by
    have := World.cell?_setCells_in b (layC s.P jv ov (.slice (some ⟨ge, 0, none⟩) s.n s.n)) 0 V (fun i hi => (ht i hi).1) j hj
    rw [Nat.zero_add] at this
    exact this.trans (List.getElem?_eq_getElem (show j < (layC s.P jv ov (.slice (some ⟨ge, 0, none⟩) s.n s.n)).length from hj)).symm
  have hsz : ∀ (vs : List Value) (o : Nat) (w : World), (w.setCells b o vs).heap.size = w.heap.size := fun vs => by
    induction vs with
    | nil => intro o w; rfl
    | cons v vs ih => intro o w; show ((w.setCell _ _).setCells b (o + 1) vs).heap.size = _; rw [ih]; simp
  have hbl : ∀ (vs : List Value) (o : Nat) (w : World), Below w0.heap.size w0 w → Below w0.heap.size w0 (w.setCells b o vs) := fun vs => by
    induction vs with
    | nil => intro o w h; exact h
    | cons v vs ih => intro o w h; exact ih (o + 1) _ (below_set h h1)
  refine ⟨rj, ro, hbl _ _ _ hb, h1, h2, by rw [hsz]; exact h3, by rw [hsz]; exact h4, hne, Nat.le_refl _, (hin 0 (by decide)).trans rfl, hin 1 (by decide), hin 2 (by decide), hin 3 (by decide), fun t ht => ?_, fun i hi => ?_, fun j => ?_, fun j => ?_⟩
  · rw [hin (4 + t) (by omega)]
    rw [Nat.add_comm]
    show (List.replicate 24 (Value.int .i64 0))[t]? = _
    rw [List.getElem?_replicate, if_pos ht]
  · rw [World.cell?_setCells_out b _ 0 V ⟨ge, i, none⟩ (fun h _ => absurd h.symm hne)]; exact hc i hi
  · rw [World.frozen?_setCells]; exact hf j
  · rw [World.frozen?_setCells]; exact hg j
set_option maxHeartbeats 4000000 in
set_option maxRecDepth 100000 in
theorem canBeDone42 {w : World} {v : Value} {s : Sh} (hs : Loose s) (h : ShV w v s.P s.js (osI s)) :
    Calls Try.prog 42 #[v] w fun e w' => e = .returned (.bool (cbd s)) ∧ Below w.heap.size w w' := by
  obtain ⟨jv, ov, rfl, hj, ho⟩ := h
  have hj' := Lib.hid hj
  have ho' := Lib.hid ho
  obtain ⟨ja, jc, rfl, -, -⟩ := hj.at
  obtain ⟨oa, oc, rfl, -, -⟩ := ho.at
  obtain ⟨n, hn⟩ : ∃ n, n = s.js.length := ⟨_, rfl⟩
  obtain ⟨m, hm⟩ : ∃ m, m = (osI s).length := ⟨_, rfl⟩
  have h6 := hs.num
  rw [show s.n = s.js.length from rfl, ← hn] at h6
  rw [← hn] at hj' ⊢
  rw [← hm] at ho' ⊢
  have hs' := Lib.hid hs
  have hn' := Lib.hid hn
  clear hj ho hs hn hm
  go_enter Try.func42, Try.ntmps42
  go_wp2_with fail
  obtain ⟨W, hW⟩ : ∃ W, W = w.alloc (Obj.cells #[Value.int IntKind.i64 s.P, Value.slice ja n jc, Value.slice oa m oc] 81) := ⟨_, rfl⟩
  rw [← hW]
  have c0 : W.cell? ⟨w.heap.size, 0, none⟩ = some (.int .i64 s.P) := by rw [hW]; rw [World.cell?_alloc_at (hn := rfl)]; rfl
  have c1 : W.cell? ⟨w.heap.size, 1, none⟩ = some (.slice ja n jc) := by rw [hW]; rw [World.cell?_alloc_at (hn := rfl)]; rfl
  have c2 : W.cell? ⟨w.heap.size, 2, none⟩ = some (.slice oa m oc) := by rw [hW]; rw [World.cell?_alloc_at (hn := rfl)]; rfl
  have hWb : Below w.heap.size w W := by rw [hW]; exact below_alloc1 _ _
  have hWs : W.heap.size = w.heap.size + 1 := by rw [hW]; simp
  obtain ⟨b1, hb1⟩ : ∃ b1, b1 = w.heap.size := ⟨_, rfl⟩
  rw [← hb1] at c0 c1 c2 hWs ⊢
  have hb12 : b1 < W.heap.size := by omega
  have hb1' := Lib.hid hb1
  have hWb' := Lib.hid hWb
  clear hW hWb hb1 hWs
  refine Code.wp_mono (Q := fun e a' W3 => e = .normal ∧ ∃ b ge tmps, a' = { tmps, defers := [] } ∧ tmps.getD 3 undef = .pointer (some ⟨b, 0, none⟩) ∧ tmps.size = 11 ∧ Lay w W3 b ge n (.slice ja n jc) (.slice oa m oc) s (fun _ => 0) (fun _ => 0)) ?_ ?_
  · rintro e a' W3 ⟨rfl, b, ge, tmps, rfl, htm, hts, hL⟩
    have hP := part_none hs'.out
    have hL' := Lib.hid (show Lay w W3 b ge n (.slice ja n jc) (.slice oa m oc) s (fun t => used s (List.replicate s.n none) t) (endOf s (List.replicate s.n none)) from hL.same (fun t _ => (used_none s t).symm) (fun i _ => (endOf_open (at_none s.n i)).symm))
    have hc := Lib.hid (complete58 hs'.out s.n _ W3 hP (openN_le s _) hL'.out)
    have hlow := Lib.hid (show w.heap.size ≤ b ∧ w.heap.size ≤ ge ∧ Below w.heap.size w W3 from ⟨hL.hb, hL.hge, hL.below⟩)
    clear hL hP c0 c1 c2
    have htm2 : tmps[3]?.getD undef = .pointer (some ⟨b, 0, none⟩) := by simpa using htm
    clear htm
    have hts' := Lib.hid hts
    have h10 : 10 < tmps.size := by omega
    have h2 : 2 < tmps.size := by omega
    clear hts
    go_wp2_with (refine (hc.out).mono ?_; rintro e w4 ⟨rfl, hM, -⟩; have hM' := Lib.hid hM; clear hM)
    go_ret
    have hts := hts'.out
    refine ⟨?_, ?_⟩
    · unfold cbd
      generalize comp s s.n (List.replicate s.n none) = d
      simp [hts]
    exact hM'.out.below hlow.out.2.2 hlow.out.1 hlow.out.2.1 hlow.out.2.2.size
  · refine wp_region_any (by kernel_rfl) (wpAny_of_held (S := fun w' => Below W.heap.size W w') _ _ _ _ ?_)
    have hHeld : Below W.heap.size W W.drew := (Below.refl _ _).drew
    change wpAnyH _ _ _ _ _ _ _ _ W.drew
    simp only [List.size_toArray, List.length_cons, List.length_nil, Nat.reduceAdd, Array.replicate_succ, Array.replicate_zero, List.push_toArray, List.nil_append, List.cons_append]
    have hmk := Lib.hid (fun (V : World) => make26 V n (by omega))
    refine wpAnyH_take (i := 0) (v := .agg #[.int .i64 s.P, .slice ja n jc, .slice oa m oc]) rfl (by kernel_rfl) (by kernel_rfl) (by kernel_rfl) (fun _ _ _ h => by cases h.1) (Or.inl ⟨by rfl, ?_⟩) hHeld ?_
    · intro w' hSw; have a0 := (hSw.cell (p := ⟨b1, 0, none⟩) hb12).trans c0; have a1 := (hSw.cell (p := ⟨b1, 1, none⟩) hb12).trans c1; have a2 := (hSw.cell (p := ⟨b1, 2, none⟩) hb12).trans c2; go_simp
    simp only [Act.put, List.setIfInBounds_toArray, List.set_cons_zero, List.set_cons_succ, List.getElem_toArray, List.getElem_cons_zero]
    refine wpAnyH_take (i := 1) (v := .pointer (some ⟨b1, 1, none⟩)) rfl (by kernel_rfl) (by kernel_rfl) (by kernel_rfl) (fun _ _ _ h => by cases h.1) (Or.inl ⟨by rfl, ?_⟩) hHeld ?_
    · intro w' hSw; go_simp
    simp only [Act.put, List.setIfInBounds_toArray, List.set_cons_zero, List.set_cons_succ, List.getElem_toArray, List.getElem_cons_succ, List.getElem_cons_zero]
    refine wpAnyH_take (i := 2) (v := .slice ja n jc) rfl (by kernel_rfl) (by kernel_rfl) (by kernel_rfl) (fun _ _ _ h => by cases h.1) (Or.inl ⟨by rfl, ?_⟩) hHeld ?_
    · intro w' hSw; have a1 := (hSw.cell (p := ⟨b1, 1, none⟩) hb12).trans c1; go_simp
    simp only [Act.put, List.setIfInBounds_toArray, List.set_cons_zero, List.set_cons_succ, List.getElem_toArray, List.getElem_cons_succ, List.getElem_cons_zero]
    refine wpAnyH_take (i := 3) (v := .int .i64 n) rfl (by kernel_rfl) (by kernel_rfl) (by kernel_rfl) (fun _ _ _ h => by cases h.1) (Or.inl ⟨by rfl, ?_⟩) hHeld ?_
    · intro w' hSw; go_simp
    simp only [Act.put, List.setIfInBounds_toArray, List.set_cons_zero, List.set_cons_succ, List.getElem_toArray, List.getElem_cons_succ, List.getElem_cons_zero]
    refine wpAnyH_ready (rs := [4, 6]) (by kernel_rfl) (by simp) ?_
    refine AllReadyH.cons rfl (fun K hK => ?_) (AllReadyH.cons rfl (fun K hK => ?_) AllReadyH.nil)
    · have hm := hmk.out W.drew
      have hal : Below W.heap.size W (W.alloc (.cells (madeCells #[Value.int IntKind.i64 0] n) 3)).drew := (below_alloc1 _ _).drew
      go_simp
      refine hK.out _ _ hal (fun hHeld => ?_)
      clear hK K hal hm
      simp only [List.setIfInBounds_toArray, List.set_cons_zero, List.set_cons_succ]
      obtain ⟨wa, hwa⟩ : ∃ x, x = (W.alloc (.cells (madeCells #[Value.int IntKind.i64 0] n) 3)).drew := ⟨_, rfl⟩
      rw [← hwa] at hHeld ⊢
      have hwa' := Lib.hid hwa
      have hwaB := Lib.hid hHeld
      obtain ⟨ga, hga⟩ : ∃ x, x = W.heap.size := ⟨_, rfl⟩
      have hga' := Lib.hid hga
      rw [← hga] at hHeld ⊢
      clear hwa hga
      refine wpAnyH_take (i := 5) (v := .agg #[.int .i64 s.P, .slice ja n jc, .slice oa m oc, .slice (some ⟨ga, 0, none⟩) n n, .int .i64 0, .int .i64 0, .int .i64 0, .int .i64 0, .int .i64 0, .int .i64 0, .int .i64 0, .int .i64 0, .int .i64 0, .int .i64 0, .int .i64 0, .int .i64 0, .int .i64 0, .int .i64 0, .int .i64 0, .int .i64 0, .int .i64 0, .int .i64 0, .int .i64 0, .int .i64 0, .int .i64 0, .int .i64 0, .int .i64 0, .int .i64 0]) rfl (by kernel_rfl) (by kernel_rfl) (by kernel_rfl) (fun _ _ _ h => by cases h.1) (Or.inl ⟨by rfl, ?_⟩) hHeld ?_
      · intro w' hSw; go_simp
      simp only [Act.put, List.setIfInBounds_toArray, List.set_cons_zero, List.set_cons_succ, List.getElem_toArray, List.getElem_cons_succ, List.getElem_cons_zero]
      refine wpAnyH_ready (rs := [6]) (by kernel_rfl) (by simp) ?_
      refine AllReadyH.cons rfl (fun K hK => ?_) AllReadyH.nil
      have hal : Below ga W (wa.alloc (.cells #[.int .i64 0, .slice none 0 0, .slice none 0 0, .slice none 0 0, .int .i64 0, .int .i64 0, .int .i64 0, .int .i64 0, .int .i64 0, .int .i64 0, .int .i64 0, .int .i64 0, .int .i64 0, .int .i64 0, .int .i64 0, .int .i64 0, .int .i64 0, .int .i64 0, .int .i64 0, .int .i64 0, .int .i64 0, .int .i64 0, .int .i64 0, .int .i64 0, .int .i64 0, .int .i64 0, .int .i64 0, .int .i64 0] 111)) := hHeld.alloc (by have := hHeld.size; rw [hga'.out]; exact this) _
      go_simp
      refine hK.out _ _ hal (fun hHeld => ?_)
      clear hK K hal
      simp only [List.setIfInBounds_toArray, List.set_cons_zero, List.set_cons_succ]
      refine wpAnyH_ready (rs := [7]) (by kernel_rfl) (by simp) ?_
      refine AllReadyH.cons rfl (fun K hK => ?_) AllReadyH.nil
      refine wp_store_mid 111 (.tmp 3) (.tmp 9) rfl wa.heap.size 0 (layC s.P (.slice ja n jc) (.slice oa m oc) (.slice (some ⟨ga, 0, none⟩) n n)).toArray (by rfl) (by rfl) (lay_there wa 111) (by kernel_rfl) one_layC ?_
      refine hK.out _ _ (below_setC (by have := hwaB.out.size; rw [hga'.out]; exact this) _ _ _ hHeld) (fun hHeld => ?_)
      clear hK K
      refine wpAnyH_done (by kernel_rfl) ?_ _
      have hbW : Below w.heap.size w wa := hWb'.out.trans (hwaB.out.mono hWb'.out.size)
      have hsa : wa.heap.size = W.heap.size + 1 := by rw [hwa'.out]; show (W.alloc _).heap.size = _; simp
      have hww := hWb'.out.size
      have hgW := hga'.out
      refine ⟨rfl, wa.heap.size, ga, _, rfl, rfl, rfl, ?_⟩
      refine lay_new hj'.out ho'.out hn'.out (hbW.alloc (by omega) _) (by omega) (by omega) (by simp) (by simp; omega) (by omega) (lay_there wa 111) (fun j => alloc_fz _ _ _ _) (fun i hi => ?_) (fun j => ?_)
      · rw [(below_alloc1 wa _).cell (p := ⟨ga, i, none⟩) (by show ga < _; omega), hwa'.out, hgW]; exact made_new W n i hi
      · rw [(below_alloc1 wa _).frozen (p := ⟨ga, j, none⟩) (by show ga < _; omega), hwa'.out, hgW]; exact alloc_fz W _ 3 j
    · have hal : Below W.heap.size W (W.alloc (.cells layZ 111)).drew := (below_alloc1 _ _).drew
      go_simp
      refine hK.out _ _ hal (fun hHeld => ?_)
      clear hK K hal
      simp only [List.setIfInBounds_toArray, List.set_cons_zero, List.set_cons_succ]
      obtain ⟨wa, hwa⟩ : ∃ x, x = (W.alloc (.cells layZ 111)).drew := ⟨_, rfl⟩
      change Below W.heap.size W (W.alloc (.cells layZ 111)).drew at hHeld
      change wpAnyH _ _ _ _ _ _ _ _ (W.alloc (.cells layZ 111)).drew
      rw [← hwa] at hHeld ⊢
      have hwa' := Lib.hid hwa
      have hwaB := Lib.hid hHeld
      obtain ⟨ga, hga⟩ : ∃ x, x = W.heap.size := ⟨_, rfl⟩
      have hga' := Lib.hid hga
      rw [← hga] at hHeld ⊢
      clear hwa hga
      refine wpAnyH_ready (rs := [4]) (by kernel_rfl) (by simp) ?_
      refine AllReadyH.cons rfl (fun K hK => ?_) AllReadyH.nil
      have hm := hmk.out wa
      have hal : Below ga W (wa.alloc (.cells (madeCells #[Value.int IntKind.i64 0] n) 3)) := hHeld.alloc (by have := hHeld.size; rw [hga'.out]; exact this) _
      go_simp
      refine hK.out _ _ hal (fun hHeld => ?_)
      clear hK K hal hm
      simp only [List.setIfInBounds_toArray, List.set_cons_zero, List.set_cons_succ]
      refine wpAnyH_take (i := 5) (v := .agg #[.int .i64 s.P, .slice ja n jc, .slice oa m oc, .slice (some ⟨wa.heap.size, 0, none⟩) n n, .int .i64 0, .int .i64 0, .int .i64 0, .int .i64 0, .int .i64 0, .int .i64 0, .int .i64 0, .int .i64 0, .int .i64 0, .int .i64 0, .int .i64 0, .int .i64 0, .int .i64 0, .int .i64 0, .int .i64 0, .int .i64 0, .int .i64 0, .int .i64 0, .int .i64 0, .int .i64 0, .int .i64 0, .int .i64 0, .int .i64 0, .int .i64 0]) rfl (by kernel_rfl) (by kernel_rfl) (by kernel_rfl) (fun _ _ _ h => by cases h.1) (Or.inl ⟨by rfl, ?_⟩) hHeld ?_
      · intro w' hSw; go_simp
      simp only [Act.put, List.setIfInBounds_toArray, List.set_cons_zero, List.set_cons_succ, List.getElem_toArray, List.getElem_cons_succ, List.getElem_cons_zero]
      refine wpAnyH_ready (rs := [7]) (by kernel_rfl) (by simp) ?_
      refine AllReadyH.cons rfl (fun K hK => ?_) AllReadyH.nil
      have hth : (wa.alloc (.cells (madeCells #[Value.int IntKind.i64 0] n) 3)).there ga 0 28 := by
        refine World.there_alloc ?_ _
        rw [hwa'.out, hga'.out]; exact lay_there W 111
      refine wp_store_mid 111 (.tmp 3) (.tmp 9) rfl ga 0 (layC s.P (.slice ja n jc) (.slice oa m oc) (.slice (some ⟨wa.heap.size, 0, none⟩) n n)).toArray (by rfl) (by rfl) hth (by kernel_rfl) one_layC ?_
      refine hK.out _ _ (below_setC (Nat.le_refl _) _ _ _ hHeld) (fun hHeld => ?_)
      clear hK K
      refine wpAnyH_done (by kernel_rfl) ?_ _
      have hbW : Below w.heap.size w wa := hWb'.out.trans (hwaB.out.mono hWb'.out.size)
      have hsa : wa.heap.size = W.heap.size + 1 := by rw [hwa'.out]; show (W.alloc _).heap.size = _; simp
      have hww := hWb'.out.size
      have hgW := hga'.out
      refine ⟨rfl, ga, wa.heap.size, _, rfl, rfl, rfl, ?_⟩
      refine lay_new hj'.out ho'.out hn'.out (hbW.alloc (by omega) _) (by omega) (by omega) (by simp; omega) (by simp) (by omega) hth (fun j => ?_) (fun i hi => made_new wa n i hi) (fun j => alloc_fz _ _ _ _)
      rw [(below_alloc1 wa _).frozen (p := ⟨ga, j, none⟩) (by show ga < _; omega), hwa'.out, hgW]; exact alloc_fz W _ 111 j
end Go.Proofs.Ytjkbhdlbomcbeaa
