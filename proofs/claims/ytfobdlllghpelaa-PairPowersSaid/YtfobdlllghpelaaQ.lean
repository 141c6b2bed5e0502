import Derived.Test.YtfobdlllghpelaaN
import Derived.RangeFuncBox
namespace Go.Proofs.Ytfobdlllghpelaa
open Go.RowKit Go.Shelf Pair
attribute [local go_sem] Oper.semAt_some

/-- The columns of the first rows of a list of rows. -/
def hdlK (al : List Nat) (l : List Nat) : Nat := l.foldl (fun m i => m ||| al.getD i 0) 0
theorem hdlK_snoc (al l : List Nat) (i : Nat) : hdlK al (l ++ [i]) = hdlK al l ||| al.getD i 0 := by simp [hdlK]
theorem hdlK_lt {al : List Nat} (h : ∀ i, al.getD i 0 < 256) (l : List Nat) : hdlK al l < 256 := by
  have key : ∀ (l : List Nat) (m : Nat), m < 256 → l.foldl (fun m i => m ||| al.getD i 0) m < 256 := by
    intro l
    induction l with
    | nil => exact fun m h => h
    | cons i l ih => exact fun m hm => ih _ (Nat.or_lt_two_pow (n := 8) hm (h i))
  exact key l 0 (by omega)
theorem or_any {S T : Nat} (hS : S < 256) (hT : T < 256) : bits BinOp.or IntKind.u64 (S : Int) (T : Int) = ((S ||| T : Nat) : Int) := by
  have h1 : S ||| T < 256 := Nat.or_lt_two_pow (n := 8) hS hT
  have e : (BitVec.ofInt 64 (S : Int) ||| BitVec.ofInt 64 (T : Int)).toNat = S ||| T := by
    rw [BitVec.toNat_or]
    simp only [BitVec.toNat_ofInt]
    congr 1 <;> omega
  show IntKind.u64.wrap ((BitVec.ofInt 64 (S : Int) ||| BitVec.ofInt 64 (T : Int)).toNat : Int) = _
  rw [e]
  exact IntWalk.u64_in _ (by omega)

def HdlEnd (w : World) (h : Nat) (e : Ending) (w' : World) : Prop := e = .returned (.int .u64 (h : Int)) ∧ Below w.heap.size w w'

set_option maxHeartbeats 4000000 in
set_option maxRecDepth 100000 in
theorem handles63 {w : World} {BA gA n R : Nat} {al : List Nat} (hA : SRow w BA gA n al) (hal : ∀ i, al.getD i 0 < 256) (hR : R < 2 ^ n) (hn8 : n ≤ 8) :
    Calls Try.prog 63 #[.slice (some ⟨gA, 0, none⟩) n n, .int .u64 (R : Int)] w (HdlEnd w (hdlK al (bl R))) := by
  have hR8 : R < 256 := Nat.lt_of_lt_of_le hR (pow_le n hn8)
  have hal' := Lib.hid hal
  have hbn := Lib.hid (show ∀ j k, (bl R)[k]? = some j → j < n from fun j k h => by
    apply Classical.byContradiction
    intro e
    have := low_bit (S := R) (n := n) (j := j) hR (by omega)
    rw [(bl_mem h).2] at this; simp at this)
  clear hal hR
  refine (callsIn_wide (n := 9)).1 ?_
  refine callsIn_of_wp_marks Try.func63 rfl trivial ?_ rfl
  simp only [Try.ntmps63, List.size_toArray, List.length_cons, List.length_nil, Nat.reduceAdd, Nat.reduceSub, Array.replicate_succ, Array.replicate_zero, List.push_toArray, List.append_toArray, List.nil_append, List.cons_append]
  refine wpIn_wide.2 ?_
  go_wp2_with fail
  obtain ⟨wj, hwj⟩ : ∃ wj, wj = (w.alloc (.cells #[.slice (some ⟨gA, 0, none⟩) n n] 88)).alloc (.cells #[.int .u64 0] 91) := ⟨_, rfl⟩
  have hbj : Below w.heap.size w wj := by rw [hwj]; exact ((Below.refl _ _).alloc (Nat.le_refl _) _).alloc (by simp) _
  have hsj : wj.heap.size = w.heap.size + 1 + 1 := by rw [hwj]; simp
  have k0 := (cell_new_e w (.slice (some ⟨gA, 0, none⟩) n n) 88).1
  have k1 := cell_new_e (w.alloc (.cells #[.slice (some ⟨gA, 0, none⟩) n n] 88)) (.int .u64 0) 91
  rw [World.size_alloc] at k1
  have c0 : wj.cell? ⟨w.heap.size, 0, none⟩ = some (.slice (some ⟨gA, 0, none⟩) n n) := by rw [hwj]; exact ((below_alloc1 _ _).cell (p := ⟨_, 0, none⟩) (by simp)).trans k0
  have c1 : wj.cell? ⟨w.heap.size + 1, 0, none⟩ = some (.int .u64 0) ∧ wj.frozen? ⟨w.heap.size + 1, 0, none⟩ = false := by rw [hwj]; exact k1
  have hgl := hA.lt.2
  have hAj := Lib.hid (hA.below hbj)
  rw [← hwj]
  obtain ⟨b2, hb2⟩ : ∃ b2, b2 = w.heap.size := ⟨_, rfl⟩
  obtain ⟨b5, hb5⟩ : ∃ b5, b5 = w.heap.size + 1 := ⟨_, rfl⟩
  rw [← hb2] at c0
  rw [← hb5] at c1 ⊢
  rw [← hb2]
  have hne : b2 ≠ b5 := by omega
  have hne2 : b5 ≠ gA := by omega
  have hle : w.heap.size ≤ b5 := by omega
  clear hwj k0 k1 hb2 hb5 hA
  refine wpIn_wide.1 (wpIn_each (n := 9) (by omega) hR8 (by rfl) rfl
    (fun k W => (W.cell? ⟨b2, 0, none⟩ = some (.slice (some ⟨gA, 0, none⟩) n n) ∧ (W.cell? ⟨b5, 0, none⟩ = some (.int .u64 ((hdlK al ((bl R).take k) : Nat) : Int)) ∧ W.frozen? ⟨b5, 0, none⟩ = false) ∧ Hid (SRow W BA gA n al)) ∧ Hid (Below w.heap.size w W)) ?hI ?h0
    (fun x => { tmps := #[.slice (some ⟨gA, 0, none⟩) n n, .int .u64 R, .pointer (some ⟨b2, 0, none⟩), undef, .int .u64 0, .pointer (some ⟨b5, 0, none⟩), .int .i64 x, .int .u64 R, .func (.func 78) #[.int .u64 R] #[], .int .i64 x, undef, undef, undef, undef, undef, undef, undef], defers := [] }) ?assign ?body ?done)
  case hI =>
    intro k W W' row hs hg hr
    have hr2 : ∀ r, row = some r → ∃ o : Obj, W.heap[r]? = some o ∧ o.isCells = false := fun r e => (hr r e).2
    exact ⟨⟨cell_kept hs.1.1 hg hr2, ⟨cell_kept hs.1.2.1.1 hg hr2, (frozen_kept hs.1.2.1.1 hg hr2).trans hs.1.2.1.2⟩, Lib.hid (hs.1.2.2.out.kept hg hr2)⟩, Lib.hid (hs.2.out.grown hg hs.2.out.size (fun r e => by have := (hr r e).1; omega))⟩
  case h0 => exact ⟨⟨c0, c1, hAj⟩, Lib.hid hbj⟩
  case assign =>
    intro l x W K hK
    gi_wp2
    exact hK
  case body =>
    rintro l k x W ⟨⟨d0, ⟨d1, d2⟩, hAW⟩, hbW⟩ hx
    have h1 : 1 ≤ 9 - 1 - 1 := by omega
    have hxn : x < n := hbn.out x k hx
    have cx := hAW.out.cell hxn
    obtain ⟨hk, he⟩ := List.getElem?_eq_some_iff.1 hx
    have hsn := Lib.hid (show hdlK al ((bl R).take (k + 1)) = hdlK al ((bl R).take k) ||| al.getD x 0 by rw [List.take_succ_eq_append_getElem hk, he, hdlK_snoc])
    have hH := hdlK_lt hal'.out ((bl R).take k)
    have hX := hal'.out x
    have hor := or_any hH hX
    obtain ⟨H, hHq⟩ : ∃ H, H = hdlK al ((bl R).take k) := ⟨_, rfl⟩
    obtain ⟨A, hAq⟩ : ∃ A, A = al.getD x 0 := ⟨_, rfl⟩
    rw [← hHq] at d1 hor hsn
    rw [← hAq] at cx hor hsn
    clear hHq hAq hk he hH hX
    gi_wp2_with fail
    refine inRound_still_tail 6 (by kernel_rfl) (by kernel_rfl) (by kernel_rfl) ?_
    simp only [List.take_succ_cons, List.take_zero, List.drop_succ_cons, List.drop_zero]
    change wpStill _ _ W.drew _ _ _
    iterate 6 still_step
    refine wpStill_nil ?_
    go_wp2_with fail
    refine ⟨((KeepsOthers.setCell W _ _).trans (KeepsOthers.drew _)).from _, ⟨?_, ⟨?_, ?_⟩, Lib.hid ?_⟩, Lib.hid (below_set hbW.out hle).drew⟩
    · show (W.setCell _ _).cell? _ = _
      exact (World.cell?_setCell_other _ _ _ _ (by intro e; simp only [Addr.mk.injEq] at e; exact hne e.1.symm)).trans d0
    · show (W.setCell _ _).cell? _ = _
      rw [hsn.out]
      exact World.cell?_setCell_same' _ _ _ (by rw [d1]; rfl)
    · show (W.setCell _ _).frozen? _ = _
      rw [World.frozen?_setCell]; exact d2
    · exact (hAW.out.other hne2).below (Below.refl _ _).drew
  case done =>
    rintro D W hD ⟨⟨d0, ⟨d1, d2⟩, hAW⟩, hbW⟩ hK
    rw [List.take_length] at d1
    have hmk := Lib.hid (show Marks W w.heap.size [D] from ⟨by simp, fun E hE => by simp at hE; subst hE; exact ⟨by have := hbj.size; omega, hK⟩⟩)
    clear hK
    go_wp2_with fail
    show LeavesInM _ _ _ _ _ _ _ _ _
    refine leaves_marks w.heap.size (fun W => Below w.heap.size w W) ?_ ?_ [D] _ hbW.out hmk.out
    · exact fun W D kb hD hK => below_put kb hD hK
    · exact fun W kb => ⟨_, results_tmp rfl _ _ _, rfl, kb⟩
end Go.Proofs.Ytfobdlllghpelaa
