import Derived.Test.YtbemlfppekpmjaaR
import Derived.Test.YtbemlfppekpmjaaT
/-! A ring in memory. -/
namespace Go.Proofs.Ytbemlfppekpmjaa
open Go.RowKit Rng
/-- A worker as a value. -/
def mv (pet : Bool) (b : Nat) : Value := .iface (if pet = true then 87 else 92) (.pointer (some ⟨b, 0, none⟩))
def up {α : Type} (f : Nat → α) (i : Nat) (a : α) : Nat → α := fun j => if j = i then a else f j
theorem up_same {α : Type} (f : Nat → α) (i : Nat) (a : α) : up f i a i = a := if_pos rfl
theorem up_other {α : Type} (f : Nat → α) {i j : Nat} (a : α) (h : j ≠ i) : up f i a j = f j := if_neg h
/-- Workers whose values lie in a row. -/
structure MsAt (w : World) (B : Nat) (pet : Bool) (rv : Value) (n : Nat) (bs : Nat → Nat) (fvs : Nat → Value) (Ms : Nat → Mb) : Prop where
  row : w.ownsRow B 113 1 rv n ((List.range n).map fun j => mv pet (bs j))
  mem : ∀ j, j < n → MbAt w B pet (bs j) (fvs j) (Ms j)
  apart : ∀ i j, i < n → j < n → i ≠ j → ∀ x, WrP (bs i) (fvs i) x → ¬ WrP (bs j) (fvs j) x
  ne : ∀ j, j < n → ∀ x, WrP (bs j) (fvs j) x → rv.ownBlock ≠ some x
theorem MsAt.keep {w w' : World} {B n : Nat} {pet : Bool} {rv : Value} {bs : Nat → Nat} {fvs : Nat → Value} {Ms : Nat → Mb} (h : MsAt w B pet rv n bs fvs Ms) (hs : w.heap.size ≤ w'.heap.size) (hr : ∀ x, rv.ownBlock = some x → w'.heap[x]? = w.heap[x]?) (hb : ∀ j, j < n → ∀ x, WrP (bs j) (fvs j) x → w'.heap[x]? = w.heap[x]?) : MsAt w' B pet rv n bs fvs Ms :=
  ⟨own_block h.row hr, fun j hj => (h.mem j hj).keep hs (hb j hj), h.apart, h.ne⟩
theorem MsAt.below {w w' : World} {B n : Nat} {pet : Bool} {rv : Value} {bs : Nat → Nat} {fvs : Nat → Value} {Ms : Nat → Mb} (h : MsAt w B pet rv n bs fvs Ms) (hb : Below w.heap.size w w') : MsAt w' B pet rv n bs fvs Ms :=
  h.keep hb.size (fun x e => hb.block x (World.ownsRow.lt h.row _ e).2) (fun j hj x hx => hb.block x ((h.mem j hj).wr.pos x hx).2)
/-- A worker is changed. -/
theorem MsAt.upd {w w' : World} {B n i : Nat} {pet : Bool} {rv fv' : Value} {bs : Nat → Nat} {fvs : Nat → Value} {Ms : Nat → Mb} {M' : Mb} (h : MsAt w B pet rv n bs fvs Ms) (hi : i < n) (hm : MbAt w' B pet (bs i) fv' M') (fr : Frm (WrP (bs i) (fvs i)) (WrP (bs i) fv') w w') :
    MsAt w' B pet rv n bs (up fvs i fv') (up Ms i M') := by
  have hnew : ∀ x, WrP (bs i) fv' x → WrP (bs i) (fvs i) x ∨ w.heap.size ≤ x := fr.fresh
  have hlt : ∀ j, j < n → ∀ x, WrP (bs j) (fvs j) x → x < w.heap.size := fun j hj x hx => ((h.mem j hj).wr.pos x hx).2
  refine ⟨own_block h.row fun x e => fr.block x (World.ownsRow.lt h.row _ e).2 (fun hx => h.ne i hi x hx e), fun j hj => ?_, fun a c ha hc hac x hx hy => ?_, fun j hj x hx e => ?_⟩
  · by_cases e : j = i
    · subst e; rw [up_same, up_same]; exact hm
    · rw [up_other _ _ e, up_other _ _ e]
      exact (h.mem j hj).keep fr.size fun x hx => fr.block x (hlt j hj x hx) (h.apart j i hj hi e x hx)
  · by_cases ea : a = i
    · subst ea
      have ec : c ≠ a := fun e => hac e.symm
      rw [up_same] at hx
      rw [up_other _ _ ec] at hy
      rcases hnew x hx with e | e
      · exact h.apart a c ha hc hac x e hy
      · have := hlt c hc x hy; omega
    · rw [up_other _ _ ea] at hx
      by_cases ec : c = i
      · subst ec
        rw [up_same] at hy
        rcases hnew x hy with e | e
        · exact h.apart a c ha hc hac x hx e
        · have := hlt a ha x hx; omega
      · rw [up_other _ _ ec] at hy
        exact h.apart a c ha hc hac x hx hy
  · by_cases ea : j = i
    · subst ea
      rw [up_same] at hx
      rcases hnew x hx with e2 | e2
      · exact h.ne j hi x e2 e
      · have := (World.ownsRow.lt h.row _ e).2; omega
    · rw [up_other _ _ ea] at hx
      exact h.ne j hj x hx e
/-- One worker more. -/
theorem MsAt.push {w w1 : World} {B n b : Nat} {pet : Bool} {rv rv' fv : Value} {bs : Nat → Nat} {fvs : Nat → Value} {Ms : Nat → Mb} {M : Mb} (h : MsAt w B pet rv n bs fvs Ms) (hm : MbAt w B pet b fv M) (hnb : ∀ x, WrP b fv x → rv.ownBlock ≠ some x ∧ ∀ j, j < n → ¬ WrP (bs j) (fvs j) x)
    (hrow : w1.ownsRow B 113 1 rv' (n + 1) (((List.range n).map fun j => mv pet (bs j)) ++ [mv pet b])) (hs : w.heap.size ≤ w1.heap.size) (hk : ∀ g, g < w.heap.size → rv.ownBlock ≠ some g → w1.heap[g]? = w.heap[g]?) (ho : ∀ g, rv'.ownBlock = some g → rv.ownBlock = some g ∨ w.heap.size ≤ g) :
    MsAt w1 B pet rv' (n + 1) (up bs n b) (up fvs n fv) (up Ms n M) := by
  have hlt : ∀ j, j < n → ∀ x, WrP (bs j) (fvs j) x → x < w.heap.size := fun j hj x hx => ((h.mem j hj).wr.pos x hx).2
  refine ⟨?_, fun j hj => ?_, fun a c ha hc hac x hx hy => ?_, fun j hj x hx e => ?_⟩
  · rw [List.range_succ, List.map_append, List.map_cons, List.map_nil, up_same]
    have : (List.range n).map (fun j => mv pet (up bs n b j)) = (List.range n).map fun j => mv pet (bs j) := List.map_congr_left fun j hj => by
      rw [up_other _ _ (by have := List.mem_range.1 hj; omega)]
    rw [this]; exact hrow
  · by_cases e : j = n
    · subst e; rw [up_same, up_same, up_same]
      exact hm.keep hs fun x hx => hk x (hm.wr.pos x hx).2 (hnb x hx).1
    · rw [up_other _ _ e, up_other _ _ e, up_other _ _ e]
      have hj' : j < n := by omega
      exact (h.mem j hj').keep hs fun x hx => hk x (hlt j hj' x hx) (h.ne j hj' x hx)
  · by_cases ea : a = n
    · subst ea
      have ec : c ≠ a := fun e => hac e.symm
      rw [up_same, up_same] at hx
      rw [up_other _ _ ec, up_other _ _ ec] at hy
      exact (hnb x hx).2 c (by omega) hy
    · rw [up_other _ _ ea, up_other _ _ ea] at hx
      by_cases ec : c = n
      · subst ec
        rw [up_same, up_same] at hy
        exact (hnb x hy).2 a (by omega) hx
      · rw [up_other _ _ ec, up_other _ _ ec] at hy
        exact h.apart a c (by omega) (by omega) hac x hx hy
  · have hx' : x < w.heap.size ∧ rv.ownBlock ≠ some x := by
      by_cases ea : j = n
      · subst ea
        rw [up_same, up_same] at hx
        exact ⟨(hm.wr.pos x hx).2, (hnb x hx).1⟩
      · rw [up_other _ _ ea, up_other _ _ ea] at hx
        exact ⟨hlt j (by omega) x hx, h.ne j (by omega) x hx⟩
    rcases ho x e with e2 | e2
    · exact hx'.2 e2
    · omega
/-- A ring that lies at `b`. -/
structure RgAt (w : World) (B b : Nat) (pet : Bool) (n : Nat) (rv : Value) (bs : Nat → Nat) (fvs : Nat → Value) (Ms : Nat → Mb) : Prop where
  Bb : B ≤ b
  bw : b < w.heap.size
  c0 : w.cell? ⟨b, 0, none⟩ = some (.pointer (some ⟨b, 0, none⟩))
  c1 : w.cell? ⟨b, 1, none⟩ = some rv
  ms : MsAt w B pet rv n bs fvs Ms
  br : rv.ownBlock ≠ some b
  bo : ∀ j, j < n → ¬ WrP (bs j) (fvs j) b
def RgP (b : Nat) (rv : Value) (n : Nat) (bs : Nat → Nat) (fvs : Nat → Value) (k : Nat) : Prop := k = b ∨ rv.ownBlock = some k ∨ ∃ j, j < n ∧ WrP (bs j) (fvs j) k
theorem RgAt.pos {w : World} {B b n : Nat} {pet : Bool} {rv : Value} {bs : Nat → Nat} {fvs : Nat → Value} {Ms : Nat → Mb} (h : RgAt w B b pet n rv bs fvs Ms) : ∀ k, RgP b rv n bs fvs k → B ≤ k ∧ k < w.heap.size := by
  rintro k (rfl | e | ⟨j, hj, e⟩)
  · exact ⟨h.Bb, h.bw⟩
  · exact World.ownsRow.lt h.ms.row _ e
  · exact (h.ms.mem j hj).wr.pos k e
theorem RgAt.keep {w w' : World} {B b n : Nat} {pet : Bool} {rv : Value} {bs : Nat → Nat} {fvs : Nat → Value} {Ms : Nat → Mb} (h : RgAt w B b pet n rv bs fvs Ms) (hs : w.heap.size ≤ w'.heap.size) (hb : ∀ k, RgP b rv n bs fvs k → w'.heap[k]? = w.heap[k]?) : RgAt w' B b pet n rv bs fvs Ms :=
  ⟨h.Bb, Nat.lt_of_lt_of_le h.bw hs, (cell_block (hb b (.inl rfl))).trans h.c0, (cell_block (hb b (.inl rfl))).trans h.c1, h.ms.keep hs (fun x e => hb x (.inr (.inl e))) (fun j hj x hx => hb x (.inr (.inr ⟨j, hj, hx⟩))), h.br, h.bo⟩
theorem RgAt.below {w w' : World} {B b n : Nat} {pet : Bool} {rv : Value} {bs : Nat → Nat} {fvs : Nat → Value} {Ms : Nat → Mb} (h : RgAt w B b pet n rv bs fvs Ms) (hb : Below w.heap.size w w') : RgAt w' B b pet n rv bs fvs Ms :=
  h.keep hb.size (fun k hk => hb.block k (h.pos k hk).2)
/-- A worker of a ring is changed. -/
theorem RgAt.upd {w w' : World} {B b n i : Nat} {pet : Bool} {rv fv' : Value} {bs : Nat → Nat} {fvs : Nat → Value} {Ms : Nat → Mb} {M' : Mb} (h : RgAt w B b pet n rv bs fvs Ms) (hi : i < n) (hm : MbAt w' B pet (bs i) fv' M') (fr : Frm (WrP (bs i) (fvs i)) (WrP (bs i) fv') w w') :
    RgAt w' B b pet n rv bs (up fvs i fv') (up Ms i M') ∧ Frm (RgP b rv n bs fvs) (RgP b rv n bs (up fvs i fv')) w w' := by
  have hbb := fr.block b h.bw (h.bo i hi)
  refine ⟨⟨h.Bb, Nat.lt_of_lt_of_le h.bw fr.size, (cell_block (by exact hbb)).trans h.c0, (cell_block (by exact hbb)).trans h.c1, h.ms.upd hi hm fr, h.br, fun j hj hx => ?_⟩, ?_⟩
  · by_cases e : j = i
    · subst e
      rw [up_same] at hx
      rcases fr.fresh b hx with e2 | e2
      · exact h.bo j hi e2
      · have := h.bw; omega
    · rw [up_other _ _ e] at hx; exact h.bo j hj hx
  · refine fr.wide (fun k hk => .inr (.inr ⟨i, hi, hk⟩)) (fun k hk => ?_)
    rcases hk with e | e | ⟨j, hj, e⟩
    · exact .inr (.inl e)
    · exact .inr (.inr (.inl e))
    · by_cases ej : j = i
      · subst ej; rw [up_same] at e; exact .inl e
      · rw [up_other _ _ ej] at e; exact .inr (.inr (.inr ⟨j, hj, e⟩))
/-- The value of a worker in the row. -/
theorem MsAt.val {w : World} {B n : Nat} {pet : Bool} {rv : Value} {bs : Nat → Nat} {fvs : Nat → Value} {Ms : Nat → Mb} (h : MsAt w B pet rv n bs fvs Ms) : ∃ ao c, rv = .slice ao n c ∧ n ≤ c ∧ ∀ j, j < n → ∃ g, ao = some ⟨g, 0, none⟩ ∧ w.cell? ⟨g, j, none⟩ = some (mv pet (bs j)) := by
  obtain ⟨ao, c, e, hc, hcl⟩ := own_cells h.row
  refine ⟨ao, c, e, hc, fun j hj => ?_⟩
  obtain ⟨g, e2, _, _, h3⟩ := hcl (by omega)
  refine ⟨g, e2, h3 j _ ?_⟩
  rw [List.getElem?_map, List.getElem?_range hj]; rfl
end Go.Proofs.Ytbemlfppekpmjaa
