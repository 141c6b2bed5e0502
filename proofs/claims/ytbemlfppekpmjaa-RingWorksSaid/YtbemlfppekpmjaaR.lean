import Derived.Test.YtbemlfppekpmjaaE
import Derived.LaidEqlPtr
/-! Workers of a ring in memory. -/
namespace Go.Proofs.Ytbemlfppekpmjaa
open Go.RowKit
namespace Rng
structure Nt where
  kd : Nat
  nm : Nat
deriving DecidableEq
structure Mb where
  bg : Bool
  ld : Nat
  st : Nat
  fl : List Nt
  vl : Nat
  nt : Nat
  ps : Bool
deriving DecidableEq
def N0 : Nt := ⟨0, 0⟩
def Mb.send (M : Mb) (x : Nt) : Mb := ⟨M.bg, M.ld, M.st + 1, M.fl ++ [x], M.vl, M.nt, M.ps⟩
def Mb.begin (M : Mb) (v : Nat) : Mb := (⟨true, M.ld, M.st, M.fl, M.vl, M.nt, M.ps⟩ : Mb).send ⟨1, v⟩
def Mb.learn (M : Mb) (v : Nat) : Mb := (⟨M.bg, v, M.st, M.fl, M.vl, M.nt, M.ps⟩ : Mb).send ⟨3, v⟩
def Mb.start (M : Mb) : Mb := M.begin M.vl
def Mb.pFirst (M : Mb) (x : Nt) : Mb := if x.nm = M.vl then M.learn x.nm else (⟨M.bg, M.ld, M.st, M.fl, M.vl, x.nm, M.ps⟩ : Mb).send ⟨2, x.nm⟩
def Mb.pSecond (M : Mb) (x : Nt) : Mb := if M.nt ≤ M.vl ∨ M.nt ≤ x.nm then ⟨M.bg, M.ld, M.st, M.fl, M.vl, M.nt, true⟩ else (⟨M.bg, M.ld, M.st, M.fl, M.nt, 0, M.ps⟩ : Mb).send ⟨1, M.nt⟩
def Mb.pGo (M : Mb) (x : Nt) : Mb := if M.ps = true then M.send x else if 0 < M.nt then M.pSecond x else M.pFirst x
def Mb.woken (M : Mb) : Mb := if M.bg = true then M else M.start
def Mb.pRecv (M : Mb) (x : Nt) : Mb := if x.kd = 3 then (if M.woken.ld = 0 then M.woken.learn x.nm else M.woken) else M.woken.pGo x
def Mb.cRecv (M : Mb) (x : Nt) : Mb :=
  if x.kd = 3 then (if x.nm ≠ M.vl then M.learn x.nm else M)
  else if M.vl < x.nm then (⟨true, M.ld, M.st, M.fl, M.vl, M.nt, M.ps⟩ : Mb).send x
  else if x.nm = M.vl then M.learn M.vl else if M.bg = true then M else M.start
def Mb.recv (pet : Bool) (M : Mb) (x : Nt) : Mb := if pet = true then M.pRecv x else M.cRecv x
def Mb.new (v : Nat) : Mb := ⟨false, 0, 0, [], v, 0, false⟩
end Rng
open Rng
def encN (x : Nt) : List Value := [.int .i64 x.kd, .int .i64 x.nm]
theorem encN_len (x : Nt) : (encN x).length = 2 := rfl
theorem one_flatN (xs : List Nt) : ∀ v ∈ flat encN xs, v.oneCell' = true := fun v hv => by
  simp only [flat, List.mem_flatMap, encN, List.mem_cons, List.not_mem_nil, or_false] at hv
  obtain ⟨j, _, rfl | rfl⟩ := hv <;> rfl
def OwnN (w : World) (B : Nat) (v : Value) (xs : List Nt) : Prop := w.ownsRow B 108 2 v xs.length (flat encN xs)
/-- The part of a worker that both rules have, at `b`. -/
structure WrAt (w : World) (B b : Nat) (fv : Value) (M : Mb) : Prop where
  Bb : B ≤ b
  bw : b < w.heap.size
  c0 : w.cell? ⟨b, 0, none⟩ = some (.bool M.bg)
  c1 : w.cell? ⟨b, 1, none⟩ = some (.int .i64 M.ld)
  c2 : w.cell? ⟨b, 2, none⟩ = some (.int .i64 M.st)
  c3 : w.cell? ⟨b, 3, none⟩ = some fv
  fz : ∀ j, w.frozen? ⟨b, j, none⟩ = false
  fl : OwnN w B fv M.fl
  bf : fv.ownBlock ≠ some b
def WrP (b : Nat) (fv : Value) (k : Nat) : Prop := k = b ∨ fv.ownBlock = some k
theorem WrAt.pos {w : World} {B b : Nat} {fv : Value} {M : Mb} (k : WrAt w B b fv M) : ∀ i, WrP b fv i → B ≤ i ∧ i < w.heap.size := by
  rintro i (rfl | e)
  · exact ⟨k.Bb, k.bw⟩
  · exact World.ownsRow.lt k.fl _ e
theorem WrAt.keep {w w' : World} {B b : Nat} {fv : Value} {M : Mb} (k : WrAt w B b fv M) (hs : w.heap.size ≤ w'.heap.size) (hb : ∀ i, WrP b fv i → w'.heap[i]? = w.heap[i]?) : WrAt w' B b fv M where
  Bb := k.Bb
  bw := Nat.lt_of_lt_of_le k.bw hs
  c0 := (cell_block (hb b (.inl rfl))).trans k.c0
  c1 := (cell_block (hb b (.inl rfl))).trans k.c1
  c2 := (cell_block (hb b (.inl rfl))).trans k.c2
  c3 := (cell_block (hb b (.inl rfl))).trans k.c3
  fz := fun j => (frozen_block (hb b (.inl rfl))).trans (k.fz j)
  fl := own_block k.fl (fun i e => hb i (.inr e))
  bf := k.bf
theorem WrAt.below {w w' : World} {B b : Nat} {fv : Value} {M : Mb} (k : WrAt w B b fv M) (hb : Below w.heap.size w w') : WrAt w' B b fv M :=
  k.keep hb.size (fun i hi => hb.block i (k.pos i hi).2)
theorem WrAt.drew {w : World} {B b : Nat} {fv : Value} {M : Mb} (k : WrAt w B b fv M) : WrAt w.drew B b fv M := ⟨k.Bb, k.bw, k.c0, k.c1, k.c2, k.c3, k.fz, k.fl, k.bf⟩
theorem WrAt.flv {w : World} {B b : Nat} {fv : Value} {M : Mb} (k : WrAt w B b fv M) : ∃ ao fc, fv = .slice ao M.fl.length fc ∧ M.fl.length ≤ fc := by
  obtain ⟨ao, c', e, hc, _⟩ := own_cells k.fl
  exact ⟨ao, c', e, hc⟩
theorem WrAt.setC {w : World} {B b : Nat} {fv u : Value} {M M' : Mb} {j : Nat} (k : WrAt w B b fv M) (hj : j ≠ 3) (h0 : (if j = 0 then u else .bool M.bg) = .bool M'.bg) (h1 : (if j = 1 then u else .int .i64 M.ld) = .int .i64 M'.ld) (h2 : (if j = 2 then u else .int .i64 M.st) = .int .i64 M'.st) (h3 : M'.fl = M.fl) :
    WrAt (w.setCell ⟨b, j, none⟩ u) B b fv M' := by
  have hc : ∀ i v, w.cell? ⟨b, i, none⟩ = some v → (w.setCell ⟨b, j, none⟩ u).cell? ⟨b, i, none⟩ = some (if j = i then u else v) := fun i v hv => by
    by_cases e : j = i
    · subst e; rw [if_pos rfl, World.cell?_setCell_same' _ _ _ (by rw [hv]; rfl)]
    · rw [if_neg e, World.cell?_setCell_other _ _ _ _ (by simp <;> omega), hv]
  refine ⟨k.Bb, by simpa using k.bw, ?_, ?_, ?_, ?_, fun i => by rw [World.frozen?_setCell]; exact k.fz i, ?_, k.bf⟩
  · rw [hc 0 _ k.c0, h0]
  · rw [hc 1 _ k.c1, h1]
  · rw [hc 2 _ k.c2, h2]
  · rw [hc 3 _ k.c3, if_neg hj]
  · rw [h3]; exact ownsRow_setCell_other k.fl k.bf _
/-- Another row of messages is laid. -/
theorem WrAt.setF {w w' : World} {B b : Nat} {fv fv' : Value} {M : Mb} {fl' : List Nt} (k : WrAt w B b fv M) (hs : w.heap.size ≤ w'.heap.size) (hb : ∀ i, i < w.heap.size → fv.ownBlock ≠ some i → w'.heap[i]? = w.heap[i]?) (hl : OwnN w' B fv' fl') (hfr : ∀ g, fv'.ownBlock = some g → fv.ownBlock = some g ∨ w.heap.size ≤ g) : WrAt (w'.setCell ⟨b, 3, none⟩ fv') B b fv' ⟨M.bg, M.ld, M.st, fl', M.vl, M.nt, M.ps⟩ := by
  have hbb := hb b k.bw k.bf
  have hne : fv'.ownBlock ≠ some b := fun e => by
    rcases hfr b e with e | e
    · exact k.bf e
    · have := k.bw; omega
  refine ⟨k.Bb, by simpa using Nat.lt_of_lt_of_le k.bw hs, ?_, ?_, ?_, ?_, fun j => ?_, ?_, hne⟩
  · rw [World.cell?_setCell_other _ _ _ _ (by simp), cell_block (by exact hbb)]; exact k.c0
  · rw [World.cell?_setCell_other _ _ _ _ (by simp), cell_block (by exact hbb)]; exact k.c1
  · rw [World.cell?_setCell_other _ _ _ _ (by simp), cell_block (by exact hbb)]; exact k.c2
  · rw [World.cell?_setCell_same' _ _ _ (by rw [cell_block (by exact hbb), k.c3]; rfl)]
  · rw [World.frozen?_setCell, frozen_block (by exact hbb)]; exact k.fz j
  · exact ownsRow_setCell_other hl hne _
/-- A worker is changed; what else it has stays. -/
def WrEnd (w : World) (B b : Nat) (fv : Value) (M : Mb) (ev : Value) (e : Ending) (w' : World) : Prop := e = .returned ev ∧ ∃ fv', WrAt w' B b fv' M ∧ (∀ k, 4 ≤ k → w'.cell? ⟨b, k, none⟩ = w.cell? ⟨b, k, none⟩) ∧ Frm (WrP b fv) (WrP b fv') w w'
theorem frm_appW {w w1 : World} {B b : Nat} {fv fv' : Value} (hb : Below B w w1) (hk : ∀ g, g < w.heap.size → fv.ownBlock ≠ some g → w1.heap[g]? = w.heap[g]?) (ho : ∀ g, fv'.ownBlock = some g → fv.ownBlock = some g ∨ w.heap.size ≤ g) : Frm (WrP b fv) (WrP b fv') w w1 :=
  ⟨hb.os, hb.tape, hb.output, hb.size, fun k hk' hn => hk k hk' (fun e => hn (.inr e)), fun k hk' => by
    rcases hk' with rfl | e
    · exact .inl (.inl rfl)
    · rcases ho k e with e2 | e2
      · exact .inl (.inr e2)
      · exact .inr e2⟩
/-- append(s, x) of one struct, at one step of a region that draws its order: what else changes. -/
theorem step_one {ops : Array Oper} {o : Oper} {a : Act} {w : World} {K : Act → World → Prop} {Q : Exit → Act → World → Prop} {E : Prop} {B n z bytes : Nat} {t e : TypeId} {i0 : TypeInfo} {zv : Value} (ht : Try.prog.underlying t = some (.slice e)) (hi : Try.prog.info? e = some i0) (hz0 : i0.zero = some zv) (hz1 : i0.size = z) (hz2 : i0.bytes = bytes) (hzc : zv.cells.size = z) (hz : 0 < z) (hby : bytes ≤ 100)
    (hg : o.guard = none) (s x : Operand) (hop : o.op = Op.call { callee := Callee.builtin Builtin.append, args := #[s, x], argTypes := #[t, t] })
    {v : Value} {xs : List Value} {y : Array Value} {ad : Addr} {c : Nat} (hown : w.ownsRow B e z v n xs) (hs : a.eval s = v) (hxv : a.eval x = .slice (some ad) 1 c) (hy : y.size = z) (hx : ∀ j u, y[j]? = some u → w.cell? (ad.add j) = some u) (h1 : ∀ u ∈ y.toList, u.oneCell' = true) (hlen : n ≤ 999999) (hB : B ≤ w.heap.size)
    (hK : ∀ v' w', w'.ownsRow B e z v' (n + 1) (xs ++ y.toList) → Below B w w' → (∀ g, g < w.heap.size → v.ownBlock ≠ some g → w'.heap[g]? = w.heap[g]?) → (∀ g, v'.ownBlock = some g → v.ownBlock = some g ∨ w.heap.size ≤ g) → w.heap.size ≤ w'.heap.size → K (a.put o.dst v') w') :
    if Region.wanted o (yielded ops a.tmps) = true then Oper.wp Try.prog o a w K Q else E := by
  have hw : Region.wanted o (yielded ops a.tmps) = true := by simp [Region.wanted, hg]
  rw [if_pos hw]
  obtain ⟨v', w', hrun, h2, h3, _, h5⟩ := run_append_own_at (P := Try.prog) w B t o.type e i0 zv z bytes ht hi hz0 hz1 hz2 hzc hz v n xs hown ad 1 c y.toList (by simp [hy]) (fun j u hj => hx j u (by rw [← Array.getElem?_toList]; exact hj)) h1 (by unfold maxLen; omega) (Nat.le_trans (Nat.mul_le_mul (show n + 1 ≤ 1000000 by omega) hby) (by omega)) hB
  unfold Oper.wp
  simp [execOp, hop, resolve, invoke, builtin, hs, hxv, hrun, Result.andThen]
  refine hK v' w' h2 ((Below.refl B w).grown h3 hB (fun k hk => (World.ownsRow.lt hown k hk).1)) (fun g hg hne => h3.block g hg (fun e => hne e.symm)) (fun g hg => ?_) h3.size
  rcases h5 with h5 | h5
  · left; rw [← h5]; exact hg
  · right; rw [h5] at hg; injection hg with hg; rw [← hg]; exact Nat.le_refl _
end Go.Proofs.Ytbemlfppekpmjaa
