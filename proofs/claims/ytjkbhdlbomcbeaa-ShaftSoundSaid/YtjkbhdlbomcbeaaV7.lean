import Derived.Test.YtjkbhdlbomcbeaaV6
import Derived.Deep.RegionLaw
import Derived.Deep.MidRow
import Derived.Test.YtjkbhdlbomcbeaaV5
import Derived.Maps.AppendAt
namespace Go.Proofs.Ytjkbhdlbomcbeaa
open Go.RowKit Shf

theorem made_cell {n j : Nat} (h : j < n) : (madeCells #[Value.int .i64 0] n)[j]? = some (Value.int .i64 0) := by
  have := toList_madeCells_one (Value.int .i64 0) n
  rw [← Array.getElem?_toList, this, List.getElem?_replicate, if_pos h]
theorem made_new (V : World) (n : Nat) (i : Nat) (h : i < n) : (V.alloc (.cells (madeCells #[Value.int .i64 0] n) 3)).cell? ⟨V.heap.size, i, none⟩ = some (.int .i64 0) := by
  rw [World.cell?_alloc_at (hn := rfl)]; exact made_cell h
theorem alloc_fz (V : World) (cs : Array Value) (t : TypeId) (j : Nat) : (V.alloc (.cells cs t)).frozen? ⟨V.heap.size, j, none⟩ = false := frozen_of_row _ _ j _ t (heap_alloc_new V (.cells cs t))
def layZ : Array Value := #[.int .i64 0, .slice none 0 0, .slice none 0 0, .slice none 0 0, .int .i64 0, .int .i64 0, .int .i64 0, .int .i64 0, .int .i64 0, .int .i64 0, .int .i64 0, .int .i64 0, .int .i64 0, .int .i64 0, .int .i64 0, .int .i64 0, .int .i64 0, .int .i64 0, .int .i64 0, .int .i64 0, .int .i64 0, .int .i64 0, .int .i64 0, .int .i64 0, .int .i64 0, .int .i64 0, .int .i64 0, .int .i64 0]
theorem lay_there (V : World) (t : TypeId) : (V.alloc (.cells layZ t)).there V.heap.size 0 28 := fun j hj => by
  refine ⟨?_, alloc_fz V _ t _⟩
  rw [World.cell?_alloc_at (hn := rfl), Nat.zero_add, Array.getElem?_eq_getElem (show j < layZ.size from hj)]; rfl
def layC (P : Int) (jv ov ev : Value) : List Value := .int .i64 P :: jv :: ov :: ev :: List.replicate 24 (.int .i64 0)
theorem one_layC {P : Int} {a b c : Option Addr} {n m k n' m' k' : Nat} : (layC P (.slice a n n') (.slice b m m') (.slice c k k')).toArray.all (·.oneCell') = true :=
  all_oneCell_toArray fun v hv => by
    simp only [layC, List.mem_cons, List.mem_replicate] at hv
    rcases hv with rfl | rfl | rfl | rfl | ⟨_, rfl⟩ <;> rfl
theorem below_setC {B g : Nat} {W0 : World} (hg : B ≤ g) : ∀ (vs : List Value) (o : Nat) (w : World), Below B W0 w → Below B W0 (w.setCells g o vs)
  | [], _, _, h => h
  | _ :: vs, o, _, h => below_setC hg vs (o + 1) _ (below_set h hg)
theorem lay_new {w0 V : World} {b ge n : Nat} {jv ov : Value} {s : Sh} (rj : ReadsJ w0 jv s.js) (ro : ReadsO w0 ov (osI s)) (hn : n = s.n) (hb : Below w0.heap.size w0 V) (h1 : w0.heap.size ≤ b) (h2 : w0.heap.size ≤ ge) (h3 : b < V.heap.size) (h4 : ge < V.heap.size) (hne : b ≠ ge)
    (ht : V.there b 0 28) (hf : ∀ j, V.frozen? ⟨b, j, none⟩ = false) (hc : ∀ i, i < n → V.cell? ⟨ge, i, none⟩ = some (.int .i64 0)) (hg : ∀ j, V.frozen? ⟨ge, j, none⟩ = false) :
    Lay w0 (V.setCells b 0 (layC s.P jv ov (.slice (some ⟨ge, 0, none⟩) n n))) b ge n jv ov s (fun _ => 0) (fun _ => 0) := by
  subst hn
  have hin : ∀ j (_ : j < 28), (V.setCells b 0 (layC s.P jv ov (.slice (some ⟨ge, 0, none⟩) s.n s.n))).cell? ⟨b, j, none⟩ = (layC s.P jv ov (.slice (some ⟨ge, 0, none⟩) s.n s.n))[j]? := fun j hj => by
    have := World.cell?_setCells_in b (layC s.P jv ov (.slice (some ⟨ge, 0, none⟩) s.n s.n)) 0 V (fun i hi => (ht i hi).1) j hj
    rw [Nat.zero_add] at this
    exact this.trans (List.getElem?_eq_getElem (show j < (layC s.P jv ov (.slice (some ⟨ge, 0, none⟩) s.n s.n)).length from hj)).symm
  have hsz : ∀ (vs : List Value) (o : Nat) (w : World), (w.setCells b o vs).heap.size = w.heap.size := fun vs => by
    induction vs with
    | nil => intro o w; rfl
    | cons v vs ih => intro o w; show ((w.setCell _ _).setCells b (o + 1) vs).heap.size = _; rw [ih]; simp
  have hbl : ∀ (vs : List Value) (o : Nat) (w : World), Below w0.heap.size w0 w → Below w0.heap.size w0 (w.setCells b o vs) := fun vs => by
    induction vs with
    | nil => intro o w h; exact h
    | cons v vs ih => intro o w h; exact ih (o + 1) _ (below_set h h1)
  refine ⟨rj, ro, hbl _ _ _ hb, h1, h2, by rw [hsz]; exact h3, by rw [hsz]; exact h4, hne, Nat.le_refl _, (hin 0 (by decide)).trans rfl, hin 1 (by decide), hin 2 (by decide), hin 3 (by decide), fun t ht => ?_, fun i hi => ?_, fun j => ?_, fun j => ?_⟩
  · rw [hin (4 + t) (by omega)]
    rw [Nat.add_comm]
    show (List.replicate 24 (Value.int .i64 0))[t]? = _
    rw [List.getElem?_replicate, if_pos ht]
  · rw [World.cell?_setCells_out b _ 0 V ⟨ge, i, none⟩ (fun h _ => absurd h.symm hne)]; exact hc i hi
  · rw [World.frozen?_setCells]; exact hf j
  · rw [World.frozen?_setCells]; exact hg j
set_option maxHeartbeats 4000000 in
set_option maxRecDepth 100000 in
theorem canBeDone42 {w : World} {v : Value} {s : Sh} (hs : Loose s) (h : ShV w v s.P s.js (osI s)) :
    Calls Try.prog 42 #[v] w fun e w' => e = .returned (.bool (cbd s)) ∧ Below w.heap.size w w' := by
  obtain ⟨jv, ov, rfl, hj, ho⟩ := h
  have hj' := Lib.hid hj
  have ho' := Lib.hid ho
  obtain ⟨ja, jc, rfl, -, -⟩ := hj.at
  obtain ⟨oa, oc, rfl, -, -⟩ := ho.at
  obtain ⟨n, hn⟩ : ∃ n, n = s.js.length := ⟨_, rfl⟩
  obtain ⟨m, hm⟩ : ∃ m, m = (osI s).length := ⟨_, rfl⟩
  have h6 := hs.num
  rw [show s.n = s.js.length from rfl, ← hn] at h6
  rw [← hn] at hj' ⊢
  rw [← hm] at ho' ⊢
  have hs' := Lib.hid hs
  have hn' := Lib.hid hn
  clear hj ho hs hn hm
  go_enter Try.func42, Try.ntmps42
  go_wp2_with fail
  obtain ⟨W, hW⟩ : ∃ W, W = w.alloc (Obj.cells #[Value.int IntKind.i64 s.P, Value.slice ja n jc, Value.slice oa m oc] 81) := ⟨_, rfl⟩
  rw [← hW]
  have c0 : W.cell? ⟨w.heap.size, 0, none⟩ = some (.int .i64 s.P) := by rw [hW]; rw [World.cell?_alloc_at (hn := rfl)]; rfl
  have c1 : W.cell? ⟨w.heap.size, 1, none⟩ = some (.slice ja n jc) := by rw [hW]; rw [World.cell?_alloc_at (hn := rfl)]; rfl
  have c2 : W.cell? ⟨w.heap.size, 2, none⟩ = some (.slice oa m oc) := by rw [hW]; rw [World.cell?_alloc_at (hn := rfl)]; rfl
  have hWb : Below w.heap.size w W := by rw [hW]; exact below_alloc1 _ _
  have hWs : W.heap.size = w.heap.size + 1 := by rw [hW]; simp
  obtain ⟨b1, hb1⟩ : ∃ b1, b1 = w.heap.size := ⟨_, rfl⟩
  rw [← hb1] at c0 c1 c2 hWs ⊢
  have hb12 : b1 < W.heap.size := by omega
  have hb1' := Lib.hid hb1
  have hWb' := Lib.hid hWb
  clear hW hWb hb1 hWs
  refine Code.wp_mono (Q := fun e a' W3 => e = .normal ∧ ∃ b ge tmps, a' = { tmps, defers := [] } ∧ tmps.getD 3 undef = .pointer (some ⟨b, 0, none⟩) ∧ tmps.size = 11 ∧ Lay w W3 b ge n (.slice ja n jc) (.slice oa m oc) s (fun _ => 0) (fun _ => 0)) ?_ ?_
  · rintro e a' W3 ⟨rfl, b, ge, tmps, rfl, htm, hts, hL⟩
    have hP := part_none hs'.out
    have hL' := Lib.hid (show Lay w W3 b ge n (.slice ja n jc) (.slice oa m oc) s (fun t => used s (List.replicate s.n none) t) (endOf s (List.replicate s.n none)) from hL.same (fun t _ => (used_none s t).symm) (fun i _ => (endOf_open (at_none s.n i)).symm))
    have hc := Lib.hid (complete58 hs'.out s.n _ W3 hP (openN_le s _) hL'.out)
    have hlow := Lib.hid (show w.heap.size ≤ b ∧ w.heap.size ≤ ge ∧ Below w.heap.size w W3 from ⟨hL.hb, hL.hge, hL.below⟩)
    clear hL hP c0 c1 c2
    have htm2 : tmps[3]?.getD undef = .pointer (some ⟨b, 0, none⟩) := by simpa using htm
    clear htm
    have hts' := Lib.hid hts
    have h10 : 10 < tmps.size := by omega
    have h2 : 2 < tmps.size := by omega
    clear hts
    go_wp2_with (refine (hc.out).mono ?_; rintro e w4 ⟨rfl, hM, -⟩; have hM' := Lib.hid hM; clear hM)
    go_ret
    have hts := hts'.out
    refine ⟨?_, ?_⟩
    · unfold cbd
      generalize comp s s.n (List.replicate s.n none) = d
      simp [hts]
    exact hM'.out.below hlow.out.2.2 hlow.out.1 hlow.out.2.1 hlow.out.2.2.size
  · refine wp_region_any (by kernel_rfl) (wpAny_of_held (S := fun w' => Below W.heap.size W w') _ _ _ _ ?_)
    have hHeld : Below W.heap.size W W.drew := (Below.refl _ _).drew
    change wpAnyH _ _ _ _ _ _ _ _ W.drew
    simp only [List.size_toArray, List.length_cons, List.length_nil, Nat.reduceAdd, Array.replicate_succ, Array.replicate_zero, List.push_toArray, List.nil_append, List.cons_append]
    have hmk := Lib.hid (fun (V : World) => make26 V n (by omega))
    refine wpAnyH_take (i := 0) (v := .agg #[.int .i64 s.P, .slice ja n jc, .slice oa m oc]) rfl (by kernel_rfl) (by kernel_rfl) (by kernel_rfl) (fun _ _ _ h => by cases h.1) (Or.inl ⟨by rfl, ?_⟩) hHeld ?_
    · intro w' hSw; have a0 := (hSw.cell (p := ⟨b1, 0, none⟩) hb12).trans c0; have a1 := (hSw.cell (p := ⟨b1, 1, none⟩) hb12).trans c1; have a2 := (hSw.cell (p := ⟨b1, 2, none⟩) hb12).trans c2; go_simp
    simp only [Act.put, List.setIfInBounds_toArray, List.set_cons_zero, List.set_cons_succ, List.getElem_toArray, List.getElem_cons_zero]
    refine wpAnyH_take (i := 1) (v := .pointer (some ⟨b1, 1, none⟩)) rfl (by kernel_rfl) (by kernel_rfl) (by kernel_rfl) (fun _ _ _ h => by cases h.1) (Or.inl ⟨by rfl, ?_⟩) hHeld ?_
    · intro w' hSw; go_simp
    simp only [Act.put, List.setIfInBounds_toArray, List.set_cons_zero, List.set_cons_succ, List.getElem_toArray, List.getElem_cons_succ, List.getElem_cons_zero]
    refine wpAnyH_take (i := 2) (v := .slice ja n jc) rfl (by kernel_rfl) (by kernel_rfl) (by kernel_rfl) (fun _ _ _ h => by cases h.1) (Or.inl ⟨by rfl, ?_⟩) hHeld ?_
    · intro w' hSw; have a1 := (hSw.cell (p := ⟨b1, 1, none⟩) hb12).trans c1; go_simp
    simp only [Act.put, List.setIfInBounds_toArray, List.set_cons_zero, List.set_cons_succ, List.getElem_toArray, List.getElem_cons_succ, List.getElem_cons_zero]
    refine wpAnyH_take (i := 3) (v := .int .i64 n) rfl (by kernel_rfl) (by kernel_rfl) (by kernel_rfl) (fun _ _ _ h => by cases h.1) (Or.inl ⟨by rfl, ?_⟩) hHeld ?_
    · intro w' hSw; go_simp
    simp only [Act.put, List.setIfInBounds_toArray, List.set_cons_zero, List.set_cons_succ, List.getElem_toArray, List.getElem_cons_succ, List.getElem_cons_zero]
    refine wpAnyH_ready (rs := [4, 6]) (by kernel_rfl) (by simp) ?_
    refine AllReadyH.cons rfl (fun K hK => ?_) (AllReadyH.cons rfl (fun K hK => ?_) AllReadyH.nil)
    · have hm := hmk.out W.drew
      have hal : Below W.heap.size W (W.alloc (.cells (madeCells #[Value.int IntKind.i64 0] n) 3)).drew := (below_alloc1 _ _).drew
      go_simp
      refine hK.out _ _ hal (fun hHeld => ?_)
      clear hK K hal hm
      simp only [List.setIfInBounds_toArray, List.set_cons_zero, List.set_cons_succ]
      obtain ⟨wa, hwa⟩ : ∃ x, x = (W.alloc (.cells (madeCells #[Value.int IntKind.i64 0] n) 3)).drew := ⟨_, rfl⟩
      rw [← hwa] at hHeld ⊢
      have hwa' := Lib.hid hwa
      have hwaB := Lib.hid hHeld
      obtain ⟨ga, hga⟩ : ∃ x, x = W.heap.size := ⟨_, rfl⟩
      have hga' := Lib.hid hga
      rw [← hga] at hHeld ⊢
      clear hwa hga
      refine wpAnyH_take (i := 5) (v := .agg #[.int .i64 s.P, .slice ja n jc, .slice oa m oc, .slice (some ⟨ga, 0, none⟩) n n, .int .i64 0, .int .i64 0, .int .i64 0, .int .i64 0, .int .i64 0, .int .i64 0, .int .i64 0, .int .i64 0, .int .i64 0, .int .i64 0, .int .i64 0, .int .i64 0, .int .i64 0, .int .i64 0, .int .i64 0, .int .i64 0, .int .i64 0, .int .i64 0, .int .i64 0, .int .i64 0, .int .i64 0, .int .i64 0, .int .i64 0, .int .i64 0]) rfl (by kernel_rfl) (by kernel_rfl) (by kernel_rfl) (fun _ _ _ h => by cases h.1) (Or.inl ⟨by rfl, ?_⟩) hHeld ?_
      · intro w' hSw; go_simp
      simp only [Act.put, List.setIfInBounds_toArray, List.set_cons_zero, List.set_cons_succ, List.getElem_toArray, List.getElem_cons_succ, List.getElem_cons_zero]
      refine wpAnyH_ready (rs := [6]) (by kernel_rfl) (by simp) ?_
      refine AllReadyH.cons rfl (fun K hK => ?_) AllReadyH.nil
      have hal : Below ga W (wa.alloc (.cells #[.int .i64 0, .slice none 0 0, .slice none 0 0, .slice none 0 0, .int .i64 0, .int .i64 0, .int .i64 0, .int .i64 0, .int .i64 0, .int .i64 0, .int .i64 0, .int .i64 0, .int .i64 0, .int .i64 0, .int .i64 0, .int .i64 0, .int .i64 0, .int .i64 0, .int .i64 0, .int .i64 0, .int .i64 0, .int .i64 0, .int .i64 0, .int .i64 0, .int .i64 0, .int .i64 0, .int .i64 0, .int .i64 0] 111)) := hHeld.alloc (by have := hHeld.size; rw [hga'.out]; exact this) _
      go_simp
      refine hK.out _ _ hal (fun hHeld => ?_)
      clear hK K hal
      simp only [List.setIfInBounds_toArray, List.set_cons_zero, List.set_cons_succ]
      refine wpAnyH_ready (rs := [7]) (by kernel_rfl) (by simp) ?_
      refine AllReadyH.cons rfl (fun K hK => ?_) AllReadyH.nil
      refine wp_store_mid 111 (.tmp 3) (.tmp 9) rfl wa.heap.size 0 (layC s.P (.slice ja n jc) (.slice oa m oc) (.slice (some ⟨ga, 0, none⟩) n n)).toArray (by rfl) (by rfl) (lay_there wa 111) (by kernel_rfl) one_layC ?_
      refine hK.out _ _ (below_setC (by have := hwaB.out.size; rw [hga'.out]; exact this) _ _ _ hHeld) (fun hHeld => ?_)
      clear hK K
      refine wpAnyH_done (by kernel_rfl) ?_ _
      have hbW : Below w.heap.size w wa := hWb'.out.trans (hwaB.out.mono hWb'.out.size)
      have hsa : wa.heap.size = W.heap.size + 1 := by rw [hwa'.out]; show (W.alloc _).heap.size = _; simp
      have hww := hWb'.out.size
      have hgW := hga'.out
      refine ⟨rfl, wa.heap.size, ga, _, rfl, rfl, rfl, ?_⟩
      refine lay_new hj'.out ho'.out hn'.out (hbW.alloc (by omega) _) (by omega) (by omega) (by simp) (by simp; omega) (by omega) (lay_there wa 111) (fun j => alloc_fz _ _ _ _) (fun i hi => ?_) (fun j => ?_)
      · rw [(below_alloc1 wa _).cell (p := ⟨ga, i, none⟩) (by show ga < _; omega), hwa'.out, hgW]; exact made_new W n i hi
      · rw [(below_alloc1 wa _).frozen (p := ⟨ga, j, none⟩) (by show ga < _; omega), hwa'.out, hgW]; exact alloc_fz W _ 3 j
    · have hal : Below W.heap.size W (W.alloc (.cells layZ 111)).drew := (below_alloc1 _ _).drew
      go_simp
      refine hK.out _ _ hal (fun hHeld => ?_)
      clear hK K hal
      simp only [List.setIfInBounds_toArray, List.set_cons_zero, List.set_cons_succ]
      obtain ⟨wa, hwa⟩ : ∃ x, x = (W.alloc (.cells layZ 111)).drew := ⟨_, rfl⟩
      change Below W.heap.size W (W.alloc (.cells layZ 111)).drew at hHeld
      change wpAnyH _ _ _ _ _ _ _ _ (W.alloc (.cells layZ 111)).drew
      rw [← hwa] at hHeld ⊢
      have hwa' := Lib.hid hwa
      have hwaB := Lib.hid hHeld
      obtain ⟨ga, hga⟩ : ∃ x, x = W.heap.size := ⟨_, rfl⟩
      have hga' := Lib.hid hga
      rw [← hga] at hHeld ⊢
      clear hwa hga
      refine wpAnyH_ready (rs := [4]) (by kernel_rfl) (by simp) ?_
      refine AllReadyH.cons rfl (fun K hK => ?_) AllReadyH.nil
      have hm := hmk.out wa
      have hal : Below ga W (wa.alloc (.cells (madeCells #[Value.int IntKind.i64 0] n) 3)) := hHeld.alloc (by have := hHeld.size; rw [hga'.out]; exact this) _
      go_simp
      refine hK.out _ _ hal (fun hHeld => ?_)
      clear hK K hal hm
      simp only [List.setIfInBounds_toArray, List.set_cons_zero, List.set_cons_succ]
      refine wpAnyH_take (i := 5) (v := .agg #[.int .i64 s.P, .slice ja n jc, .slice oa m oc, .slice (some ⟨wa.heap.size, 0, none⟩) n n, .int .i64 0, .int .i64 0, .int .i64 0, .int .i64 0, .int .i64 0, .int .i64 0, .int .i64 0, .int .i64 0, .int .i64 0, .int .i64 0, .int .i64 0, .int .i64 0, .int .i64 0, .int .i64 0, .int .i64 0, .int .i64 0, .int .i64 0, .int .i64 0, .int .i64 0, .int .i64 0, .int .i64 0, .int .i64 0, .int .i64 0, .int .i64 0]) rfl (by kernel_rfl) (by kernel_rfl) (by kernel_rfl) (fun _ _ _ h => by cases h.1) (Or.inl ⟨by rfl, ?_⟩) hHeld ?_
      · intro w' hSw; go_simp
      simp only [Act.put, List.setIfInBounds_toArray, List.set_cons_zero, List.set_cons_succ, List.getElem_toArray, List.getElem_cons_succ, List.getElem_cons_zero]
      refine wpAnyH_ready (rs := [7]) (by kernel_rfl) (by simp) ?_
      refine AllReadyH.cons rfl (fun K hK => ?_) AllReadyH.nil
      have hth : (wa.alloc (.cells (madeCells #[Value.int IntKind.i64 0] n) 3)).there ga 0 28 := by
        refine World.there_alloc ?_ _
        rw [hwa'.out, hga'.out]; exact lay_there W 111
      refine wp_store_mid 111 (.tmp 3) (.tmp 9) rfl ga 0 (layC s.P (.slice ja n jc) (.slice oa m oc) (.slice (some ⟨wa.heap.size, 0, none⟩) n n)).toArray (by rfl) (by rfl) hth (by kernel_rfl) one_layC ?_
      refine hK.out _ _ (below_setC (Nat.le_refl _) _ _ _ hHeld) (fun hHeld => ?_)
      clear hK K
      refine wpAnyH_done (by kernel_rfl) ?_ _
      have hbW : Below w.heap.size w wa := hWb'.out.trans (hwaB.out.mono hWb'.out.size)
      have hsa : wa.heap.size = W.heap.size + 1 := by rw [hwa'.out]; show (W.alloc _).heap.size = _; simp
      have hww := hWb'.out.size
      have hgW := hga'.out
      refine ⟨rfl, ga, wa.heap.size, _, rfl, rfl, rfl, ?_⟩
      refine lay_new hj'.out ho'.out hn'.out (hbW.alloc (by omega) _) (by omega) (by omega) (by simp; omega) (by simp) (by omega) hth (fun j => ?_) (fun i hi => made_new wa n i hi) (fun j => alloc_fz _ _ _ _)
      rw [(below_alloc1 wa _).frozen (p := ⟨ga, j, none⟩) (by show ga < _; omega), hwa'.out, hgW]; exact alloc_fz W _ 111 j
end Go.Proofs.Ytjkbhdlbomcbeaa

namespace Go.Proofs.Ytjkbhdlbomcbeaa
open Go.RowKit Shf

/-- The least number below `N` at which a test holds; `N` if it holds at none. -/
def Least (p : Nat → Bool) (N m : Nat) : Prop := m ≤ N ∧ (∀ i, i < m → p i = false) ∧ (m < N → p m = true)
def Srchd (p : Nat → Bool) (N : Nat) (w : World) (e : Ending) (w' : World) : Prop := ∃ m : Nat, e = .returned (.int .i64 (m : Int)) ∧ Least p N m ∧ Below w.heap.size w w'

set_option maxHeartbeats 2000000 in
set_option maxRecDepth 100000 in
theorem search59 {w : World} {N : Nat} (hN : N ≤ 1000000) (kf : FuncId) (cap : Array Value) (eg : ∀ args w, (callFunc kf args).run Try.prog w = .ok (.enter kf args) w) (p : Nat → Bool) (hp : ∀ a b, a ≤ b → p a = true → p b = true)
    (hcall : ∀ (W : World) (m : Nat), Below w.heap.size w W → m < N → Calls Try.prog kf (#[.int .i64 m] ++ cap) W fun e W' => e = .returned (.bool (p m)) ∧ Below W.heap.size W W') :
    Calls Try.prog 59 #[.int .i64 N, .func (.func kf) #[] cap] w (Srchd p N w) := by
  have hcall' := Lib.hid hcall
  have hp' := Lib.hid hp
  clear hcall hp
  go_enter Try.func59, Try.ntmps59
  go_wp2
  go_loopw [5, 6] (fun iv jv wr => ∃ (i j : Nat), i ≤ j ∧ j ≤ N ∧ iv = .int .i64 i ∧ jv = .int .i64 j ∧ Hid (∀ x, x < i → p x = false) ∧ Hid (j < N → p j = true) ∧ Hid (Below w.heap.size w wr)) (fun iv jv _ => (intOf jv - intOf iv).toNat)
  case atStart => exact ⟨0, N, Nat.zero_le _, Nat.le_refl _, rfl, rfl, Lib.hid (fun x h => by omega), Lib.hid (fun h => by omega), Lib.hid (Below.refl _ _)⟩
  case round =>
    obtain ⟨i, j, hij, hjN, rfl, rfl, h1, h2, hb⟩ := hrel
    obtain ⟨wo, rfl⟩ : ∃ wo : World, wo = wr := ⟨_, rfl⟩
    by_cases hlt : i < j
    · obtain ⟨h, hh⟩ : ∃ h : Nat, h = (i + j) / 2 := ⟨_, rfl⟩
      have hh2 : ((i : Int) + (j : Int)) / 2 = (h : Int) := by omega
      have hi1 : i ≤ h := by omega
      have hi2 : h < j := by omega
      have hcl := Lib.hid (hcall'.out wo h hb.out (by omega))
      clear hh
      obtain ⟨d, hd⟩ : ∃ d, d = p h := ⟨_, rfl⟩
      rw [← hd] at hcl
      have hd' := Lib.hid hd
      clear hd
      cases d
      · go_wp2_with (first | (refine (hcl.out).mono ?_; rintro e w1 ⟨rfl, hb1⟩))
        go_roundw
        case rel => exact ⟨h + 1, j, by omega, hjN, by go_num, rfl, Lib.hid (fun x hx => by
          cases e : p x with
          | false => rfl
          | true => have := hp'.out x h (by omega) e; rw [← hd'.out] at this; exact absurd this (by decide)), h2, Lib.hid (below_call hb.out hb1)⟩
        case measure => simp [intOf]; omega
      · go_wp2_with (first | (refine (hcl.out).mono ?_; rintro e w1 ⟨rfl, hb1⟩))
        go_roundw
        case rel => exact ⟨i, h, by omega, by omega, rfl, rfl, h1, Lib.hid (fun _ => hd'.out.symm), Lib.hid (below_call hb.out hb1)⟩
        case measure => simp [intOf]; omega
    · obtain rfl : i = j := by omega
      go_wp2
      go_ret
      exact ⟨i, rfl, ⟨hjN, h1.out, h2.out⟩, hb.out⟩

end Go.Proofs.Ytjkbhdlbomcbeaa

namespace Go.Proofs.Ytjkbhdlbomcbeaa
open Go.RowKit Shf

/-- The shaft that a valid value holds. -/
def shOf (P : Int) (js : List J) (os : List (Int × Int)) : Sh := ⟨P, js, os.map fun o => (o.1.toNat, o.2.toNat)⟩
structure Valid (s : Sh) : Prop where
  loose : Loose s
  wide : ∀ i, i < s.n → (s.job i).f + (s.job i).l ≤ (s.job i).t
theorem valid_sh {P : Int} {js : List J} {os : List (Int × Int)} (h : validB P js os = true) : Valid (shOf P js os) ∧ osI (shOf P js os) = os := by
  unfold validB at h
  simp only [Bool.and_eq_true, List.all_eq_true, inB, decide_eq_true_eq] at h
  obtain ⟨h1, h2, ⟨h3, h4⟩, ⟨h5, h6⟩, h7⟩ := h
  have key : ∀ j : J, jobB j = true → (0 ≤ j.f ∧ j.f ≤ 24) ∧ (0 ≤ j.t ∧ j.t ≤ 24) ∧ (1 ≤ j.l ∧ j.l ≤ 24) ∧ j.f + j.l ≤ j.t ∧ 1 ≤ j.p ∧ j.p ≤ 20 := by
    rintro ⟨f, t, l, p⟩ h; exact jobB_iff.1 h
  have hj : ∀ i, i < js.length → jobB (js.getD i J0) = true := fun i hi => by
    rw [List.getD_eq_getElem?_getD, List.getElem?_eq_getElem hi]; exact h1 _ (List.getElem_mem hi)
  refine ⟨⟨⟨fun i hi => ?_, fun o ho => ?_, ⟨h3, h4⟩, ?_, ?_⟩, fun i hi => ?_⟩, ?_⟩
  · have := key _ (hj i hi)
    show 0 ≤ (js.getD i J0).f ∧ (js.getD i J0).f ≤ 24 ∧ 1 ≤ (js.getD i J0).l ∧ (js.getD i J0).l ≤ 24 ∧ (js.getD i J0).t ≤ 24 ∧ 0 ≤ (js.getD i J0).t ∧ 1 ≤ (js.getD i J0).p ∧ (js.getD i J0).p ≤ 20
    omega
  · obtain ⟨o', ho', rfl⟩ := List.mem_map.1 ho
    have := ordB_iff.1 (h2 o' ho')
    show o'.1.toNat < js.length ∧ o'.2.toNat < js.length ∧ o'.1.toNat ≠ o'.2.toNat
    omega
  · show 1 ≤ js.length ∧ js.length ≤ 6
    omega
  · show (os.map _).length ≤ 20
    rw [List.length_map]; exact h7
  · have := key _ (hj i hi)
    show (js.getD i J0).f + (js.getD i J0).l ≤ (js.getD i J0).t
    omega
  · show (os.map _).map _ = os
    rw [List.map_map]
    conv => rhs; rw [← List.map_id os]
    refine List.map_congr_left fun o ho => ?_
    have := ordB_iff.1 (h2 o ho)
    show ((o.1.toNat : Int), (o.2.toNat : Int)) = o
    refine Prod.ext ?_ ?_
    · show (o.1.toNat : Int) = o.1; omega
    · show (o.2.toNat : Int) = o.2; omega
theorem Valid.lat {s : Sh} (h : Valid s) {i : Nat} (hi : i < s.n) : (s.job i).f ≤ lat (s.job i) := by have := h.wide i hi; unfold Shf.lat; omega
end Go.Proofs.Ytjkbhdlbomcbeaa

namespace Go.Proofs.Ytjkbhdlbomcbeaa
open Go.RowKit Shf

theorem canBeDone42' {w : World} {v : Value} {s : Sh} {d : Bool} (hs : Loose s) (h : ShV w v s.P s.js (osI s)) (hd : cbd s = d) :
    Calls Try.prog 42 #[v] w fun e w' => e = .returned (.bool d) ∧ Below w.heap.size w w' := by subst hd; exact canBeDone42 hs h
set_option maxHeartbeats 4000000 in
set_option maxRecDepth 100000 in
theorem first60 {w : World} {b g4 g5 k i : Nat} {c : Sh} {jv ov : Value} {f : Int} (hs : Loose c) (hk : k < c.n) (h0 : w.cell? ⟨b, 0, none⟩ = some (.int .i64 c.P)) (h1 : w.cell? ⟨b, 1, none⟩ = some jv) (h2 : w.cell? ⟨b, 2, none⟩ = some ov) (rj : ReadsJ w jv c.js) (ro : ReadsO w ov (osI c))
    (h4 : w.cell? ⟨g4, 0, none⟩ = some (.int .i64 k)) (h5 : w.cell? ⟨g5, 0, none⟩ = some (.int .i64 f)) (hf : (c.job k).f = f) (hi : f + i ≤ lat (c.job k)) :
    Calls Try.prog 60 #[.int .i64 i, .pointer (some ⟨b, 0, none⟩), .pointer (some ⟨g4, 0, none⟩), .pointer (some ⟨g5, 0, none⟩)] w fun e w' => e = .returned (.bool (cbd (till c k (f + i)))) ∧ Below w.heap.size w w' := by
  have hj := hs.jobs k hk
  have h6 := hs.num
  have hf0 : 0 ≤ f ∧ f ≤ 24 := by omega
  have hfi : f + i ≤ 24 := by unfold lat at hi; omega
  have hloose := Lib.hid (loose_till hs hk (x := f + i) (by omega) hi)
  have hkI : (k : Int) ≤ 6 := by omega
  have hu := Lib.hid (until61 (w := w) (v := .agg #[.int .i64 c.P, jv, ov]) (P := c.P) (js := c.js) (os := osI c) ⟨jv, ov, rfl, rj, ro⟩ (by have : c.js.length = c.n := rfl; omega) (i := k) hk (x := f + i) (by omega) (by have : c.js.getD k J0 = c.job k := rfl; rw [this]; omega))
  obtain ⟨d, hd⟩ : ∃ d, d = cbd (till c k (f + i)) := ⟨_, rfl⟩
  rw [← hd]
  have hd' := Lib.hid hd
  obtain ⟨ja, n, jc, rfl⟩ : ∃ a n c, jv = .slice a n c := by obtain ⟨a, c, e, _⟩ := rj; exact ⟨_, _, _, e⟩
  obtain ⟨oa, m, oc, rfl⟩ : ∃ a n c, ov = .slice a n c := by obtain ⟨a, c, e, _⟩ := ro; exact ⟨_, _, _, e⟩
  clear hs hk rj ro hf hi hj h6 hd
  go_enter Try.func60, Try.ntmps60
  go_wp2_with (first
    | (
    go_at_call 61; refine (hu.out).mono ?_; rintro e w1 ⟨v1, rfl, hv1, hb1⟩
    have hb1' := Lib.hid hb1
    have hc := Lib.hid (canBeDone42' (s := till c k (f + i)) hloose.out hv1 hd'.out.symm)
    clear hv1 hb1)
    | (
    go_at_call 42; refine (hc.out).mono ?_; rintro e w2 ⟨rfl, hb2⟩
    have hb2' := Lib.hid (below_call hb1'.out hb2)
    clear hb2))
  go_ret
  exact ⟨rfl, hb2'.out⟩
set_option maxHeartbeats 4000000 in
set_option maxRecDepth 100000 in
theorem leastEnd62 {w : World} {b i : Nat} {c : Sh} {jv ov : Value} (hs : Loose c) (h0 : w.cell? ⟨b, 0, none⟩ = some (.int .i64 c.P)) (h1 : w.cell? ⟨b, 1, none⟩ = some jv) (h2 : w.cell? ⟨b, 2, none⟩ = some ov) (rj : ReadsJ w jv c.js) (ro : ReadsO w ov (osI c)) (hi : i ≤ 24) :
    Calls Try.prog 62 #[.int .i64 i, .pointer (some ⟨b, 0, none⟩)] w fun e w' => e = .returned (.bool (cbd (ending c i))) ∧ Below w.heap.size w w' := by
  have h6 := hs.num
  have hloose := Lib.hid (loose_ending hs (e := (i : Int)) (by omega))
  have hu := Lib.hid (ending45 (w := w) (v := .agg #[.int .i64 c.P, jv, ov]) (P := c.P) (js := c.js) (os := osI c) ⟨jv, ov, rfl, rj, ro⟩ (by have : c.js.length = c.n := rfl; omega) (by intro e; have : c.js.length = c.n := rfl; rw [e] at this; simp at this; omega) (i : Int))
  obtain ⟨d, hd⟩ : ∃ d, d = cbd (ending c i) := ⟨_, rfl⟩
  rw [← hd]
  have hd' := Lib.hid hd
  obtain ⟨ja, n, jc, rfl⟩ : ∃ a n c, jv = .slice a n c := by obtain ⟨a, c, e, _⟩ := rj; exact ⟨_, _, _, e⟩
  obtain ⟨oa, m, oc, rfl⟩ : ∃ a n c, ov = .slice a n c := by obtain ⟨a, c, e, _⟩ := ro; exact ⟨_, _, _, e⟩
  clear hs rj ro h6 hd
  go_enter Try.func62, Try.ntmps62
  go_wp2_with (first
    | (
    go_at_call 45; refine (hu.out).mono ?_; rintro e w1 ⟨v1, rfl, hv1, hb1⟩
    have hb1' := Lib.hid hb1
    have hc := Lib.hid (canBeDone42' (s := ending c i) hloose.out hv1 hd'.out.symm)
    clear hv1 hb1)
    | (
    go_at_call 42; refine (hc.out).mono ?_; rintro e w2 ⟨rfl, hb2⟩
    have hb2' := Lib.hid (below_call hb1'.out hb2)
    clear hb2))
  go_ret
  exact ⟨rfl, hb2'.out⟩
end Go.Proofs.Ytjkbhdlbomcbeaa

namespace Go.Proofs.Ytjkbhdlbomcbeaa
open Go.RowKit Shf

/-- A shaft as a value, its orders named. -/
def ShOv (w : World) (v : Value) (P : Int) (js : List J) (os : List (Int × Int)) (ov : Value) : Prop := ∃ jv, v = .agg #[.int .i64 P, jv, ov] ∧ ReadsJ w jv js ∧ ReadsO w ov os
/-- A shaft with jobs of its own. -/
def ShOwn (w : World) (P : Int) (js : List J) (ov : Value) (e : Ending) (w' : World) : Prop := ∃ jv, e = .returned (.agg #[.int .i64 P, jv, ov]) ∧ OwnJ w' w.heap.size jv js ∧ Below w.heap.size w w'
/-- append(s, y) of one int; what else changes. -/
theorem app_int_at {ops : Array Oper} {rest : List Oper} {o : Oper} {a : Act} {Q : Exit → Act → World → Prop} {w : World} {B : Nat} {v : Value} {xs : List Int} {y : Int}
    (hown : Ints w B v xs) (hlen : xs.length ≤ 1000000) (hB : B ≤ w.heap.size) (hgd : o.guard = none) (s x : Operand)
    (ho : o.op = .call { callee := .builtin .append, args := #[s, x], argTypes := #[26, 26] }) (hs : a.eval s = v) (hx : a.eval x = .slice (some ⟨w.heap.size, 0, none⟩) 1 1)
    (h : ∀ v' w', Ints w' B v' (xs ++ [y]) → Below B w w' → (∀ g, g < w.heap.size → v.ownBlock ≠ some g → w'.heap[g]? = w.heap[g]?) → (∀ g, v'.ownBlock = some g → v.ownBlock = some g ∨ w.heap.size ≤ g) → wpList Try.prog ops Q rest (a.put o.dst v') w') : wpList Try.prog ops Q (o :: rest) a (w.alloc (.cells #[.int .i64 y] 3)) := by
  obtain ⟨i0, hi, hz0, hz1, hz2⟩ := info_parts info3
  refine wpList_append_own_at _ hgd s x 26 ho B 3 i0 (.int .i64 0) 1 8 Try.underlying26 hi hz0 hz1 hz2 rfl (by decide) v xs.length (xs.map (Value.int .i64)) hs (World.ownsRow.alloc hown _) ⟨w.heap.size, 0, none⟩ 1 1 [.int .i64 y] hx rfl ?_ ?_ ?_ ?_ ?_ ?_
  · exact cell_one_new _ _ _
  · intro u hu; simp at hu; subst hu; rfl
  · unfold maxLen; omega
  · omega
  · simp; omega
  · intro v' w' h2 h3 _ h5
    refine h v' w' ?_ ?_ (fun g hg hne => ?_) (fun g hg => ?_)
    · unfold Ints; simpa using h2
    · exact ((Below.refl B w).alloc hB _).grown h3 (by simp; omega) (fun k hk => (World.ownsRow.lt hown k hk).1)
    · rw [h3.block g (by simp; omega) (fun e => hne e.symm)]
      exact (below_alloc1 w _).block g hg
    · rcases h5 with h5 | h5
      · left; rw [← h5]; exact hg
      · right; rw [h5] at hg; injection hg with hg; rw [← hg]; simp
set_option maxHeartbeats 4000000 in
set_option maxRecDepth 100000 in
theorem until61o {w : World} {v : Value} {P : Int} {js : List J} {os : List (Int × Int)} {ov : Value} (h : ShOv w v P js os ov) (h7 : js.length ≤ 7) {i : Nat} (hi : i < js.length) {x : Int} (hx : -1000 ≤ x ∧ x ≤ 1000) (hl : -1000 ≤ (js.getD i J0).l ∧ (js.getD i J0).l ≤ 1000) :
    Calls Try.prog 61 #[v, .int .i64 i, .int .i64 x] w (ShOwn w P (js.set i (tillJ (js.getD i J0) x)) ov) := by
  obtain ⟨jv, rfl, hj, ho⟩ := h
  have hj' := Lib.hid hj
  have ho' := Lib.hid ho
  obtain ⟨oa, m, oc, rfl⟩ : ∃ oa m oc, ov = .slice oa m oc := by obtain ⟨oa, oc, e, _⟩ := ho; exact ⟨oa, _, oc, e⟩
  obtain ⟨ja, q, jc, rfl⟩ : ∃ oa m oc, jv = .slice oa m oc := by obtain ⟨oa, oc, e, _⟩ := hj; exact ⟨oa, _, oc, e⟩
  have hne := Lib.hid (show js ≠ [] by intro e; rw [e] at hi; simp at hi)
  obtain ⟨n, hn⟩ : ∃ n, n = js.length := ⟨_, rfl⟩
  have hn' := Lib.hid hn
  rw [← hn] at h7 hi
  have hwb := Lib.hid (((Below.refl w.heap.size w).alloc (Nat.le_refl _) (.cells #[.int .i64 P, (.slice ja q jc), (.slice oa m oc)] 81)).alloc (by simp) (.cells #[.int .i64 0, .slice none 0 0, .slice none 0 0] 81))
  have ht1 := Lib.hid ((Three.new w (.int .i64 P) (.slice ja q jc) (.slice oa m oc) 81).keep (below_alloc1 _ (.cells #[.int .i64 0, .slice none 0 0, .slice none 0 0] 81)) (by simp))
  have ht2 := Lib.hid (Three.new (w.alloc (.cells #[.int .i64 P, (.slice ja q jc), (.slice oa m oc)] 81)) (.int .i64 0) (.slice none 0 0) (.slice none 0 0) 81)
  rw [World.size_alloc] at ht2
  obtain ⟨⟨f, t, l, p⟩, hjq⟩ : ∃ j, j = js.getD i J0 := ⟨_, rfl⟩
  rw [← hjq] at hl ⊢
  simp only at hl
  have hjq' := Lib.hid hjq
  clear hj ho hn hjq
  have hcl := Lib.hid (fun (W : World) (h : ReadsJ W (.slice ja q jc) js) => clone63 h hne.out (by rw [← hn'.out]; exact h7))
  have hj1 := Lib.hid (hj'.out.below hwb.out)
  have hsz := Lib.hid (show ((w.alloc (.cells #[.int .i64 P, (.slice ja q jc), (.slice oa m oc)] 81)).alloc (.cells #[.int .i64 0, .slice none 0 0, .slice none 0 0] 81)).heap.size = w.heap.size + 1 + 1 by simp)
  obtain ⟨⟨k0, k1, k2⟩, kf⟩ := ht1.out
  go_enter Try.func61, Try.ntmps61
  go_wp2_with (
    go_at_call 63; refine (hcl.out _ hj1.out).mono ?_; rintro e wj ⟨jw, rfl, hown, hbc⟩
    have ht1j := Lib.hid (ht1.out.keep hbc (by rw [hsz.out]; omega))
    have ht2j := Lib.hid (ht2.out.keep hbc (by rw [hsz.out]; omega))
    obtain ⟨⟨x0, x1, x2⟩, xf⟩ := ht1j.out
    have xf1 := xf 1
    obtain ⟨g, c, rfl, hgc, hgB, hgw, -, hat, -, -⟩ := hown.parts hne.out
    rw [hsz.out] at hgB
    have hgw' := Lib.hid hgw
    have hat' := Lib.hid hat
    have hnl := hn'.out.symm
    have hown' := Lib.hid hown
    have hbc' := Lib.hid hbc
    clear xf hown hbc hat hgw)
  rename_i K hK0
  have hK := Lib.hid hK0
  clear hK0
  have hJ2 : OwnJ (wj.setCell ⟨w.heap.size, 1, none⟩ (.slice (some ⟨g, 0, none⟩) n c)) (w.heap.size + 2) (.slice (some ⟨g, 0, none⟩) n c) js := by
    have := hown'.out
    rw [hsz.out, hnl] at this
    exact ownsRow_setCell_below this (by show w.heap.size < _; omega) _
  have hwa := Lib.hid (below_set (k := 1) (u := .slice (some ⟨g, 0, none⟩) n c) (hwb.out.trans (hbc'.out.mono (by rw [hsz.out]; omega))) (Nat.le_refl _))
  have y0 : (wj.setCell ⟨w.heap.size, 1, none⟩ (.slice (some ⟨g, 0, none⟩) n c)).cell? ⟨w.heap.size, 0, none⟩ = some (.int .i64 P) := by rw [World.cell?_setCell_other _ _ _ _ (by simp)]; exact x0
  have y1 : (wj.setCell ⟨w.heap.size, 1, none⟩ (.slice (some ⟨g, 0, none⟩) n c)).cell? ⟨w.heap.size, 1, none⟩ = some (.slice (some ⟨g, 0, none⟩) n c) := World.cell?_setCell_same' _ _ _ (by rw [x1]; rfl)
  have y2 : (wj.setCell ⟨w.heap.size, 1, none⟩ (.slice (some ⟨g, 0, none⟩) n c)).cell? ⟨w.heap.size, 2, none⟩ = some (.slice oa m oc) := by rw [World.cell?_setCell_other _ _ _ _ (by simp)]; exact x2
  have hz2 := Lib.hid (show Three (wj.setCell ⟨w.heap.size, 1, none⟩ (.slice (some ⟨g, 0, none⟩) n c)) (w.heap.size + 1) (.int .i64 0) (.slice none 0 0) (.slice none 0 0) from ht2j.out.other (by simp))
  obtain ⟨wa, hwaq⟩ : ∃ wa, wa = wj.setCell ⟨w.heap.size, 1, none⟩ (.slice (some ⟨g, 0, none⟩) n c) := ⟨_, rfl⟩
  rw [← hwaq] at hJ2 hwa y0 y1 y2 hz2 ⊢
  obtain ⟨g', c', e', -, -, hgw2, hfz, hat2, -, hst⟩ := hJ2.parts hne.out
  obtain ⟨rfl, rfl⟩ : g = g' ∧ c = c' := by injection e' with a _ b; injection a with a; injection a with a; exact ⟨a, b⟩
  have d2 := (hat2 i (by rw [hnl]; exact hi)).2.2.1
  have d1 := (hat2 i (by rw [hnl]; exact hi)).2.1
  have hJ3 := Lib.hid (hst i (x + l) (by rw [hnl]; exact hi))
  have fz := hfz (i * 4 + 1)
  rw [← hjq'.out] at d2 d1 hJ3
  simp only at d2 d1 hJ3
  have hnc : n ≤ c := by omega
  have hic : (i : Int) < (n : Int) := by omega
  clear hwaq e' hst hat2 hfz hJ2 hown' hat' ht1j ht2j x0 x1 x2 xf1 kf k0 k1 k2
  clear ht1 ht2 hj1 hcl
  refine wp_region_still_tail 13 (by kernel_rfl) (by kernel_rfl) ?_
  simp only [List.take_succ_cons, List.take_zero, List.drop_succ_cons, List.drop_zero]
  iterate 13 still_step
  refine wpStill_nil ?_
  go_wp2_with fail
  refine hK.out _ _ ?_
  have hgb : w.heap.size ≤ g := by omega
  have hwb3 := Lib.hid ((below_set (k := i * 4 + 1) (u := .int .i64 (x + l)) hwa.out hgb).drew)
  have hz3 := Lib.hid (show Three (wa.setCell ⟨g, i * 4 + 1, none⟩ (.int .i64 (x + l))).drew (w.heap.size + 1) (.int .i64 0) (.slice none 0 0) (.slice none 0 0) from hz2.out.other (by omega))
  have hg1 : ¬ (g = w.heap.size) := by omega
  have c0 : (wa.setCell ⟨g, i * 4 + 1, none⟩ (.int .i64 (x + l))).drew.cell? ⟨w.heap.size, 0, none⟩ = some (.int .i64 P) := (World.cell?_setCell_other _ _ _ _ (by simp)).trans y0
  have c1 : (wa.setCell ⟨g, i * 4 + 1, none⟩ (.int .i64 (x + l))).drew.cell? ⟨w.heap.size, 1, none⟩ = some (.slice (some ⟨g, 0, none⟩) n c) := (World.cell?_setCell_other _ _ _ _ (by simp)).trans y1
  have c2 : (wa.setCell ⟨g, i * 4 + 1, none⟩ (.int .i64 (x + l))).drew.cell? ⟨w.heap.size, 2, none⟩ = some (.slice oa m oc) := (World.cell?_setCell_other _ _ _ _ (by simp)).trans y2
  have hJ4 := Lib.hid (show OwnJ (wa.setCell ⟨g, i * 4 + 1, none⟩ (.int .i64 (x + l))).drew (w.heap.size + 2) (.slice (some ⟨g, 0, none⟩) n c) (js.set i ⟨f, x + l, l, p⟩) from hJ3.out)
  obtain ⟨wb, hwbq⟩ : ∃ wb, wb = (wa.setCell ⟨g, i * 4 + 1, none⟩ (.int .i64 (x + l))).drew := ⟨_, rfl⟩
  rw [← hwbq] at hwb3 hz3 c0 c1 c2 hJ4 ⊢
  clear hwbq hJ3 hz2 hwa y0 y1 y2 d1 d2 fz hgw2
  obtain ⟨⟨z0, z1, z2⟩, zf⟩ := hz3.out
  have f0 := zf 0
  have f1 := zf 1
  have f2 := zf 2
  have hb2 : ¬ (w.heap.size + 1 = w.heap.size) := by omega
  clear zf hK
  have hend := Lib.hid (show OwnJ (((wb.setCell ⟨w.heap.size + 1, 0, none⟩ (.int .i64 P)).setCell ⟨w.heap.size + 1, 1, none⟩ (.slice (some ⟨g, 0, none⟩) n c)).setCell ⟨w.heap.size + 1, 2, none⟩ (.slice oa m oc)) w.heap.size (.slice (some ⟨g, 0, none⟩) n c) (js.set i ⟨f, x + l, l, p⟩) ∧ Below w.heap.size w (((wb.setCell ⟨w.heap.size + 1, 0, none⟩ (.int .i64 P)).setCell ⟨w.heap.size + 1, 1, none⟩ (.slice (some ⟨g, 0, none⟩) n c)).setCell ⟨w.heap.size + 1, 2, none⟩ (.slice oa m oc)) from by
    have hb := below_set (k := 2) (u := (.slice oa m oc)) (below_set (k := 1) (u := .slice (some ⟨g, 0, none⟩) n c) (below_set (k := 0) (u := .int .i64 P) hwb3.out (show w.heap.size ≤ w.heap.size + 1 by omega)) (show w.heap.size ≤ w.heap.size + 1 by omega)) (show w.heap.size ≤ w.heap.size + 1 by omega)
    have hs : ∀ k u W, OwnJ W (w.heap.size + 2) (.slice (some ⟨g, 0, none⟩) n c) (js.set i ⟨f, x + l, l, p⟩) → OwnJ (W.setCell ⟨w.heap.size + 1, k, none⟩ u) (w.heap.size + 2) (.slice (some ⟨g, 0, none⟩) n c) (js.set i ⟨f, x + l, l, p⟩) := fun k u W h => ownsRow_setCell_below h (by show w.heap.size + 1 < _; omega) u
    exact ⟨own_base (hs _ _ _ (hs _ _ _ (hs _ _ _ hJ4.out))) (by omega), hb⟩)
  go_wp2_with fail
  refine bodyPost_ret (results_cell_mid rfl _ _ (w.heap.size + 1) _ _ rfl hz3.out.stored.range Try.underlying81 rfl (by kernel_rfl)) rfl ?_
  exact ⟨_, rfl, hend.out.1, hend.out.2⟩
end Go.Proofs.Ytjkbhdlbomcbeaa
