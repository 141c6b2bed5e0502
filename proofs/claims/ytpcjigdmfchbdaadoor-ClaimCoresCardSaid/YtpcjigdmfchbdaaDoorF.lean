import Derived.Test.YtpcjigdmfchbdaaDoorE
import Derived.Deep.RegionWith
import Derived.Deep.CutRange
namespace Go.Proofs.YtpcjigdmfchbdaaDoor
open Go.RowKit Go.Shelf Cl
attribute [local go_sem] Oper.semAt_some

theorem cell_new_e (w : World) (u : Value) (t : TypeId) : (w.alloc (.cells #[u] t)).cell? ⟨w.heap.size, 0, none⟩ = some u ∧ (w.alloc (.cells #[u] t)).frozen? ⟨w.heap.size, 0, none⟩ = false := by
  constructor
  · rw [World.cell?_alloc_at (hn := rfl)]; rfl
  · exact frozen_of_row _ _ 0 _ t (heap_alloc_new w (.cells #[u] t))
theorem cells_new (w : World) (cs : Array Value) (t : TypeId) (j : Nat) : (w.alloc (.cells cs t)).cell? ⟨w.heap.size, j, none⟩ = cs[j]? := by
  rw [World.cell?_alloc_at (hn := rfl)]
def unK (f : Nat → Nat) (l : List Nat) : Nat := l.foldl (fun m i => m ||| f i) 0
theorem unK_snoc (f : Nat → Nat) (l : List Nat) (j : Nat) : unK f (l ++ [j]) = unK f l ||| f j := by simp [unK]
theorem unK_lt {f : Nat → Nat} (hf : ∀ i, f i < 4096) (l : List Nat) : unK f l < 4096 := by
  unfold unK
  have key : ∀ (l : List Nat) (m : Nat), m < 4096 → l.foldl (fun m i => m ||| f i) m < 4096 := by
    intro l
    induction l with
    | nil => exact fun m hm => hm
    | cons i l ih => exact fun m hm => ih _ (or_lt hm (hf i))
  exact key l 0 (by omega)
theorem bl_mem {S j k : Nat} (h : (bl S)[k]? = some j) : j < 12 ∧ S.testBit j = true := mem_bl.1 (List.mem_of_getElem? h)
def NumEnd (w : World) (h : Nat) (e : Ending) (w' : World) : Prop := e = .returned (.int .u64 (h : Int)) ∧ Below w.heap.size w w'

set_option maxHeartbeats 4000000 in
set_option maxRecDepth 100000 in
theorem union80 {w : World} (hT : Tab w) {cs : Array Value} {f : Nat → Nat} (hcs : cs.size = 12) (hc : ∀ i, i < 12 → cs[i]? = some (.int .u64 (f i : Int))) (hf : ∀ i, f i < 4096) {S : Nat} (hS : S < 4096) :
    Calls Tryd.prog 80 #[.agg cs, .int .u64 (S : Int)] w (NumEnd w (un f S)) := by
  have hf' := Lib.hid hf
  have hT' := Lib.hid hT
  have hc' := Lib.hid hc
  have hcs' := Lib.hid hcs
  clear hf hT hc hcs
  refine (callsIn_wide (n := 9)).1 ?_
  refine callsIn_of_wp_marks Tryd.func80 rfl trivial ?_ rfl
  simp only [Tryd.ntmps80, List.size_toArray, List.length_cons, List.length_nil, Nat.reduceAdd, Nat.reduceSub, Array.replicate_succ, Array.replicate_zero, List.push_toArray, List.append_toArray, List.nil_append, List.cons_append]
  refine wpIn_wide.2 ?_
  go_wp2_with fail
  obtain ⟨wj, hwj⟩ : ∃ wj, wj = (w.alloc (.cells cs 72)).alloc (.cells #[.int .u64 0] 71) := ⟨_, rfl⟩
  have hbj : Below w.heap.size w wj := by rw [hwj]; exact ((Below.refl _ _).alloc (Nat.le_refl _) _).alloc (by simp) _
  have hsj : wj.heap.size = w.heap.size + 1 + 1 := by rw [hwj]; simp
  have k1 := cell_new_e (w.alloc (.cells cs 72)) (.int .u64 0) 71
  rw [World.size_alloc] at k1
  have c0 : ∀ i, i < 12 → wj.cell? ⟨w.heap.size, i, none⟩ = some (.int .u64 (f i : Int)) := fun i hi => by
    rw [hwj]; exact ((below_alloc1 _ _).cell (p := ⟨_, i, none⟩) (by simp)).trans ((cells_new _ _ _ _).trans (hc'.out i hi))
  have c1 : wj.cell? ⟨w.heap.size + 1, 0, none⟩ = some (.int .u64 0) ∧ wj.frozen? ⟨w.heap.size + 1, 0, none⟩ = false := by rw [hwj]; exact k1
  rw [← hwj]
  have hgl := hT'.out.1
  obtain ⟨b2, hb2⟩ : ∃ b2, b2 = w.heap.size := ⟨_, rfl⟩
  obtain ⟨b5, hb5⟩ : ∃ b5, b5 = w.heap.size + 1 := ⟨_, rfl⟩
  rw [← hb2] at c0
  rw [← hb5] at c1 ⊢
  rw [← hb2]
  have hne : b2 ≠ b5 := by omega
  have hle : w.heap.size ≤ b5 := by omega
  have c0' : Hid (∀ i, i < 12 → wj.cell? ⟨b2, i, none⟩ = some (.int .u64 (f i : Int))) := Lib.hid c0
  clear hwj k1 hb2 hb5 c0 hgl
  refine wpIn_wide.1 (wpIn_each (n := 9) (by omega) hS (by rfl) rfl
    (fun k W => (Hid (∀ i, i < 12 → W.cell? ⟨b2, i, none⟩ = some (.int .u64 (f i : Int))) ∧ (W.cell? ⟨b5, 0, none⟩ = some (.int .u64 ((unK f ((bl S).take k) : Nat) : Int)) ∧ W.frozen? ⟨b5, 0, none⟩ = false)) ∧ Hid (Below w.heap.size w W)) ?hT ?hI ?h0
    (fun x => { tmps := #[.agg cs, .int .u64 S, .pointer (some ⟨b2, 0, none⟩), undef, .int .u64 0, .pointer (some ⟨b5, 0, none⟩), .int .i64 x, .int .u64 S, .func (.func 75) #[.int .u64 S] #[], .int .i64 x, undef, undef, undef, undef, undef, undef], defers := [] }) ?assign ?body ?done)
  case hT => exact fun k W h => hT'.out.call h.2.out
  case hI =>
    intro k W W' row hs hg hr
    have hr2 : ∀ r, row = some r → ∃ o : Obj, W.heap[r]? = some o ∧ o.isCells = false := fun r e => (hr r e).2
    exact ⟨⟨Lib.hid (fun i hi => cell_kept (hs.1.1.out i hi) hg hr2), ⟨cell_kept hs.1.2.1 hg hr2, (frozen_kept hs.1.2.1 hg hr2).trans hs.1.2.2⟩⟩, Lib.hid (hs.2.out.grown hg hs.2.out.size (fun r e => by have := (hr r e).1; omega))⟩
  case h0 => exact ⟨⟨c0', c1⟩, Lib.hid hbj⟩
  case assign =>
    intro l x W K hK
    gi_wp2
    exact hK
  case body =>
    rintro l k x W ⟨⟨d0, ⟨d1, d2⟩⟩, hbW⟩ hx
    have h1 : 1 ≤ 9 - 1 - 1 := by omega
    have hxn : x < 12 := (bl_mem hx).1
    have cx := d0.out x hxn
    obtain ⟨hk, he⟩ := List.getElem?_eq_some_iff.1 hx
    have hsn := Lib.hid (show unK f ((bl S).take (k + 1)) = unK f ((bl S).take k) ||| f x by rw [List.take_succ_eq_append_getElem hk, he, unK_snoc])
    have hor := or_any (unK_lt hf'.out ((bl S).take k)) (hf'.out x)
    obtain ⟨H, hHq⟩ : ∃ H, H = unK f ((bl S).take k) := ⟨_, rfl⟩
    obtain ⟨A, hAq⟩ : ∃ A, A = f x := ⟨_, rfl⟩
    rw [← hHq] at d1 hor hsn
    rw [← hAq] at cx hor hsn
    clear hHq hAq hk he
    gi_wp2_with fail
    refine inRound_still_tail 5 (by kernel_rfl) (by kernel_rfl) (by kernel_rfl) ?_
    simp only [List.take_succ_cons, List.take_zero, List.drop_succ_cons, List.drop_zero]
    change wpStill _ _ W.drew _ _ _
    iterate 2 still_step
    have hxi : (x : Int) < 12 := by omega
    iterate 3 still_step
    refine wpStill_nil ?_
    go_wp2_with fail
    refine ⟨((KeepsOthers.setCell W _ _).trans (KeepsOthers.drew _)).from _, ⟨Lib.hid fun i hi => ?_, ⟨?_, ?_⟩⟩, Lib.hid (below_set hbW.out hle).drew⟩
    · show (W.setCell _ _).cell? _ = _
      exact (World.cell?_setCell_other _ _ _ _ (by intro e; simp only [Addr.mk.injEq] at e; exact hne e.1.symm)).trans (d0.out i hi)
    · show (W.setCell _ _).cell? _ = _
      rw [hsn.out]
      exact World.cell?_setCell_same' _ _ _ (by rw [d1]; rfl)
    · show (W.setCell _ _).frozen? _ = _
      rw [World.frozen?_setCell]; exact d2
  case done =>
    rintro D W hD ⟨⟨d0, ⟨d1, d2⟩⟩, hbW⟩ hK
    rw [List.take_length] at d1
    have hmk := Lib.hid (show Marks W w.heap.size [D] from ⟨by simp, fun E hE => by simp at hE; subst hE; exact ⟨by have := hbj.size; omega, hK⟩⟩)
    clear hK
    go_wp2_with fail
    show LeavesInM _ _ _ _ _ _ _ _ _
    refine leaves_marks w.heap.size (fun W => Below w.heap.size w W) ?_ ?_ [D] _ hbW.out hmk.out
    · exact fun W D kb hD hK => below_put kb hD hK
    · exact fun W kb => ⟨_, results_tmp rfl _ _ _, rfl, kb⟩
end Go.Proofs.YtpcjigdmfchbdaaDoor
