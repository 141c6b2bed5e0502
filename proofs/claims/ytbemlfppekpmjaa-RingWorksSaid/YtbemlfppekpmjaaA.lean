import Derived.Test.YtbemlfppekpmjaaProg
import Derived.WalkKit
import Derived.WalkLawsBesides
import Derived.WalkSpells
import Derived.Lib.Hide
import Derived.Deep.QuietTactic
import Derived.BigQuiet
import Derived.Outline
import Derived.Lib.Strings
import Derived.IntWalk
import Derived.Laws.AppendOwnNone
import Derived.Maps.AppendAt
import Derived.StillTailTactics
import Derived.Lib.SliceRun
import Derived.Deep.RegionLaw
import Derived.Deep.RegionHeld3
import Derived.Test.YtbemlfppekpmjaaM
/-! Rows of one's own, structs in memory, and what else a call changes. -/
namespace Go.Proofs.Ytbemlfppekpmjaa
open Go.RowKit
theorem own_below {B : Nat} {e : TypeId} {sz n : Nat} {v : Value} {xs : List Value} {w w' : World} (h : w.ownsRow B e sz v n xs) (hb : Below w.heap.size w w') : w'.ownsRow B e sz v n xs := by
  refine ⟨h.1, ?_⟩
  rcases h.2 with hn | ⟨g, cap, cur, rfl, hB, hg, rest⟩
  · exact .inl hn
  · refine .inr ⟨g, cap, cur, rfl, hB, ?_, rest⟩
    rw [hb.block g (Array.getElem?_eq_some_iff.1 hg).1]
    exact hg
/-- A row of one's own stays where its block does. -/
theorem own_block {B : Nat} {e : TypeId} {sz n : Nat} {v : Value} {xs : List Value} {w w' : World} (h : w.ownsRow B e sz v n xs) (hb : ∀ k, v.ownBlock = some k → w'.heap[k]? = w.heap[k]?) : w'.ownsRow B e sz v n xs := by
  refine ⟨h.1, ?_⟩
  rcases h.2 with hn | ⟨g, cap, cur, rfl, hB, hg, rest⟩
  · exact .inl hn
  · refine .inr ⟨g, cap, cur, rfl, hB, ?_, rest⟩
    rw [hb g rfl]
    exact hg
theorem own_base {B B' : Nat} {e : TypeId} {sz n : Nat} {v : Value} {xs : List Value} {w : World} (h : w.ownsRow B e sz v n xs) (hb : B' ≤ B) : w.ownsRow B' e sz v n xs := by
  refine ⟨h.1, ?_⟩
  rcases h.2 with hn | ⟨g, cap, cur, rfl, hB, rest⟩
  · exact .inl hn
  · exact .inr ⟨g, cap, cur, rfl, Nat.le_trans hb hB, rest⟩
theorem ret_i {k : IntKind} {a b : Int} (h : a = b) : Ending.returned (.int k a) = .returned (.int k b) := by rw [h]
theorem ret_b {a b : Bool} (h : a = b) : Ending.returned (.bool a) = .returned (.bool b) := by rw [h]
theorem int_eq {k : IntKind} {a b : Int} (h : a = b) : Value.int k a = .int k b := by rw [h]
theorem below_alloc1 (w : World) (o : Obj) : Below w.heap.size w (w.alloc o) := (Below.refl _ _).alloc (Nat.le_refl _) _
theorem below_set {w wr : World} {B g : Nat} {k : Nat} {u : Value} (h : Below B w wr) (hg : B ≤ g) : Below B w (wr.setCell ⟨g, k, none⟩ u) := h.setCell hg u
theorem below_call {w w1 : World} (h : Below w.heap.size w w1) {w2 : World} (k : Below w1.heap.size w1 w2) : Below w.heap.size w w2 := h.trans (k.mono h.size)
/-! ## Lists of structs, flat in memory -/
def flat {α : Type} (enc : α → List Value) (xs : List α) : List Value := xs.flatMap enc
theorem flat_len {α : Type} {enc : α → List Value} {z : Nat} (hz : ∀ a, (enc a).length = z) : ∀ xs : List α, (flat enc xs).length = xs.length * z
  | [] => by simp [flat]
  | a :: xs => by
    have := flat_len hz xs
    unfold flat at this ⊢
    rw [List.flatMap_cons, List.length_append, hz, this, List.length_cons, Nat.add_mul, Nat.one_mul, Nat.add_comm]
theorem flat_app {α : Type} (enc : α → List Value) (xs ys : List α) : flat enc (xs ++ ys) = flat enc xs ++ flat enc ys := by simp [flat]
theorem flat_at {α : Type} {enc : α → List Value} {z : Nat} (hz : ∀ a, (enc a).length = z) : ∀ (xs : List α) (i k : Nat) (h : i < xs.length), k < z → (flat enc xs)[i * z + k]? = (enc xs[i])[k]?
  | a :: xs, 0, k, _, hk => by
    rw [Nat.zero_mul, Nat.zero_add]
    unfold flat
    rw [List.flatMap_cons, List.getElem?_append_left (by rw [hz]; exact hk)]; rfl
  | a :: xs, i + 1, k, h, hk => by
    have ih := flat_at hz xs i k (by simpa using h) hk
    unfold flat at ih ⊢
    rw [List.flatMap_cons, List.getElem?_append_right (by rw [hz, Nat.add_mul]; omega), hz, show (i + 1) * z + k - z = i * z + k by rw [Nat.add_mul]; omega, ih]; rfl
theorem flat_set {α : Type} {enc : α → List Value} {z : Nat} (hz : ∀ a, (enc a).length = z) : ∀ (xs : List α) (i k : Nat) (b : α) (u : Value), i < xs.length → k < z → (∀ a, xs[i]? = some a → enc b = (enc a).set k u) → (flat enc xs).set (i * z + k) u = flat enc (xs.set i b)
  | a :: xs, 0, k, b, u, _, hk, he => by
    have := he a rfl
    unfold flat
    rw [Nat.zero_mul, Nat.zero_add, List.set_cons_zero, List.flatMap_cons, List.flatMap_cons, this, List.set_append_left _ _ (by rw [hz]; exact hk)]
  | a :: xs, i + 1, k, b, u, h, hk, he => by
    have ih := flat_set hz xs i k b u (by simpa using h) hk (fun c hc => he c (by simpa using hc))
    unfold flat at ih ⊢
    rw [List.set_cons_succ, List.flatMap_cons, List.flatMap_cons, ← ih, List.set_append_right _ _ (by rw [hz, Nat.add_mul]; omega), hz, show (i + 1) * z + k - z = i * z + k by rw [Nat.add_mul]; omega]
theorem flat_take {α : Type} {enc : α → List Value} {z : Nat} (hz : ∀ a, (enc a).length = z) : ∀ (xs : List α) (n : Nat), flat enc (xs.take n) = (flat enc xs).take (n * z)
  | [], n => by simp [flat]
  | a :: xs, 0 => by simp [flat]
  | a :: xs, n + 1 => by
    have ih := flat_take hz xs n
    unfold flat at ih ⊢
    rw [List.take_succ_cons, List.flatMap_cons, List.flatMap_cons, ih, List.take_append, hz, show (n + 1) * z - z = n * z by rw [Nat.add_mul]; omega, List.take_of_length_le (l := enc a) (by rw [hz, Nat.add_mul]; omega)]
theorem flat_drop {α : Type} {enc : α → List Value} {z : Nat} (hz : ∀ a, (enc a).length = z) : ∀ (xs : List α) (n : Nat), flat enc (xs.drop n) = (flat enc xs).drop (n * z)
  | [], n => by simp [flat]
  | a :: xs, 0 => by simp [flat]
  | a :: xs, n + 1 => by
    have ih := flat_drop hz xs n
    unfold flat at ih ⊢
    rw [List.drop_succ_cons, List.flatMap_cons, ih, List.drop_append, hz, show (n + 1) * z - z = n * z by rw [Nat.add_mul]; omega, List.drop_of_length_le (l := enc a) (by rw [hz, Nat.add_mul]; omega), List.nil_append]
/-- `v` reads as `n` elements whose cells are `cs`, `z` each; wherever it lies. -/
def FlatR (w : World) (z : Nat) (v : Value) (n : Nat) (cs : List Value) : Prop := cs.length = n * z ∧ ∃ ao c, v = .slice ao n c ∧ n ≤ c ∧ (ao = none → c = 0) ∧ (n ≠ 0 → ∃ g o, ao = some ⟨g, o, none⟩ ∧ g < w.heap.size ∧ ∀ j u, cs[j]? = some u → w.cell? ⟨g, o + j, none⟩ = some u)
theorem FlatR.below {w w' : World} {z n : Nat} {v : Value} {cs : List Value} (h : FlatR w z v n cs) (hb : Below w.heap.size w w') : FlatR w' z v n cs := by
  obtain ⟨h0, ao, c, rfl, hc, h2, h⟩ := h
  refine ⟨h0, ao, c, rfl, hc, h2, fun hn => ?_⟩
  obtain ⟨g, o, rfl, hg, hcl⟩ := h hn
  exact ⟨g, o, rfl, Nat.lt_of_lt_of_le hg hb.size, fun j u hj => (hb.cell (p := ⟨g, o + j, none⟩) hg).trans (hcl j u hj)⟩
theorem own_cells {w : World} {B e sz n : Nat} {v : Value} {xs : List Value} (h : w.ownsRow B e sz v n xs) : ∃ ao c, v = .slice ao n c ∧ n ≤ c ∧ (n ≠ 0 → ∃ g, ao = some ⟨g, 0, none⟩ ∧ B ≤ g ∧ g < w.heap.size ∧ ∀ j u, xs[j]? = some u → w.cell? ⟨g, j, none⟩ = some u) := by
  have hh := h
  rcases h.2 with ⟨rfl, h0⟩ | ⟨g, cap, cur, rfl, hB, hg, hn, _⟩
  · exact ⟨none, 0, by rw [h0], by omega, fun hne => absurd h0 hne⟩
  · refine ⟨_, cap, rfl, hn, fun _ => ⟨g, rfl, hB, (Array.getElem?_eq_some_iff.1 hg).1, fun j u hj => ?_⟩⟩
    have hl := (List.getElem?_eq_some_iff.1 hj).1
    rw [hh.cellAt j (by rw [← hh.1]; exact hl), hj]
theorem own_flatR {w : World} {B e sz n : Nat} {v : Value} {xs : List Value} (h : w.ownsRow B e sz v n xs) : FlatR w sz v n xs := by
  refine ⟨h.1, ?_⟩
  have hh := h
  rcases h.2 with ⟨rfl, h0⟩ | ⟨g, cap, cur, rfl, hB, hg, hn, _⟩
  · exact ⟨none, 0, by rw [h0], by omega, fun _ => rfl, fun hne => absurd h0 hne⟩
  · refine ⟨_, cap, rfl, hn, fun e => by simp at e, fun _ => ⟨g, 0, rfl, (Array.getElem?_eq_some_iff.1 hg).1, fun j u hj => ?_⟩⟩
    have hl := (List.getElem?_eq_some_iff.1 hj).1
    rw [Nat.zero_add, hh.cellAt j (by rw [← hh.1]; exact hl), hj]
/-- append(s, src...) of structs, at the model's operation. -/
theorem app_flat {ops : Array Oper} {rest : List Oper} {o : Oper} {a : Act} {Q : Exit → Act → World → Prop} {w : World} {B m n z bytes : Nat} {t e : TypeId} {i0 : TypeInfo} {zv : Value} (ht : Try.prog.underlying t = some (.slice e)) (hi : Try.prog.info? e = some i0) (hz0 : i0.zero = some zv) (hz1 : i0.size = z) (hz2 : i0.bytes = bytes) (hzc : zv.cells.size = z) (hz : 0 < z) (hby : bytes ≤ 100)
    {v : Value} {ad : Addr} {c : Nat} {xs ys : List Value} (hown : w.ownsRow B e z v n xs) (hx : FlatR w z (.slice (some ad) m c) m ys) (h1 : ∀ u ∈ ys, u.oneCell' = true) (hlen : n + m ≤ 1000000) (hB : B ≤ w.heap.size) (hgd : o.guard = none) (s x : Operand)
    (ho : o.op = .call { callee := .builtin .append, args := #[s, x], argTypes := #[t, t] }) (hs : a.eval s = v) (hxv : a.eval x = .slice (some ad) m c)
    (h : ∀ v' w', w'.ownsRow B e z v' (n + m) (xs ++ ys) → w.grownBy w' v.ownBlock → (v'.ownBlock = v.ownBlock ∨ v'.ownBlock = some w.heap.size) → wpList Try.prog ops Q rest (a.put o.dst v') w') : wpList Try.prog ops Q (o :: rest) a w := by
  obtain ⟨h0, ao, c', e1, hc, hnone, hcl⟩ := hx
  obtain ⟨rfl, rfl⟩ : some ad = ao ∧ c = c' := by injection e1 with a _ b; exact ⟨a, b⟩
  refine wpList_append_own_at _ hgd s x t ho B e i0 zv z bytes ht hi hz0 hz1 hz2 hzc hz v n xs hs hown ad m c ys hxv h0 ?_ h1 (by unfold maxLen; omega) (Nat.le_trans (Nat.mul_le_mul hlen hby) (by omega)) hB ?_
  · intro j u hj
    by_cases hm : m = 0
    · subst hm
      have := (List.getElem?_eq_some_iff.1 hj).1
      rw [h0] at this; omega
    · obtain ⟨g, o, e1, _, hcell⟩ := hcl hm
      obtain rfl : ad = ⟨g, o, none⟩ := by injection e1
      rw [show (⟨g, o, none⟩ : Addr).add j = ⟨g, o + j, none⟩ from by simp [Addr.add]]
      exact hcell j u hj
  · intro v' w' h2 h3 _ h5
    exact h v' w' h2 h3 h5
/-- append(s, x) of one struct, at the model's operation: what else changes. -/
theorem app_one {ops : Array Oper} {rest : List Oper} {o : Oper} {a : Act} {Q : Exit → Act → World → Prop} {w : World} {B n z bytes : Nat} {t e : TypeId} {i0 : TypeInfo} {zv : Value} (ht : Try.prog.underlying t = some (.slice e)) (hi : Try.prog.info? e = some i0) (hz0 : i0.zero = some zv) (hz1 : i0.size = z) (hz2 : i0.bytes = bytes) (hzc : zv.cells.size = z) (hz : 0 < z) (hby : bytes ≤ 100)
    {v : Value} {xs : List Value} {y : Array Value} (hown : w.ownsRow B e z v n xs) (hy : y.size = z) (h1 : ∀ u ∈ y.toList, u.oneCell' = true) (hlen : n ≤ 999999) (hB : B ≤ w.heap.size) (hgd : o.guard = none) (s x : Operand)
    (ho : o.op = .call { callee := .builtin .append, args := #[s, x], argTypes := #[t, t] }) (hs : a.eval s = v) (hxv : a.eval x = .slice (some ⟨w.heap.size, 0, none⟩) 1 1)
    (h : ∀ v' w', w'.ownsRow B e z v' (n + 1) (xs ++ y.toList) → Below B w w' → (∀ g, g < w.heap.size → v.ownBlock ≠ some g → w'.heap[g]? = w.heap[g]?) → (∀ g, v'.ownBlock = some g → v.ownBlock = some g ∨ w.heap.size ≤ g) → w.heap.size ≤ w'.heap.size → wpList Try.prog ops Q rest (a.put o.dst v') w') : wpList Try.prog ops Q (o :: rest) a (w.alloc (.cells y e)) := by
  refine wpList_append_own_at _ hgd s x t ho B e i0 zv z bytes ht hi hz0 hz1 hz2 hzc hz v n xs hs (World.ownsRow.alloc hown _) ⟨w.heap.size, 0, none⟩ 1 1 y.toList hxv (by simp [hy]) ?_ h1 (by unfold maxLen; omega) (Nat.le_trans (Nat.mul_le_mul (show n + 1 ≤ 1000000 by omega) hby) (by omega)) (by simp; omega) ?_
  · intro j u hj
    have e : (⟨w.heap.size, 0, none⟩ : Addr).add j = ⟨w.heap.size, j, none⟩ := by unfold Addr.add; split <;> simp_all
    rw [e, World.cell?_alloc_at (hn := rfl)]
    show y[j]? = some u
    rw [← Array.getElem?_toList]; exact hj
  · intro v' w' h2 h3 _ h5
    refine h v' w' h2 ?_ (fun g hg hne => ?_) (fun g hg => ?_) (by have := h3.size; simp at this; omega)
    · exact ((Below.refl B w).alloc hB _).grown h3 (by simp; omega) (fun k hk => (World.ownsRow.lt hown k hk).1)
    · rw [h3.block g (by simp; omega) (fun e => hne e.symm)]
      exact (below_alloc1 w _).block g hg
    · rcases h5 with h5 | h5
      · left; rw [← h5]; exact hg
      · right; rw [h5] at hg; injection hg with hg; rw [← hg]; simp
/-! ## What else changes -/
/-- All that was there stays, but for the blocks in `P`; those in `P'` are of `P` or new. -/
structure Frm (P P' : Nat → Prop) (w w' : World) : Prop where
  os : w'.os = w.os
  tape : w'.tape = w.tape
  output : w'.output = w.output
  size : w.heap.size ≤ w'.heap.size
  block : ∀ k, k < w.heap.size → ¬ P k → w'.heap[k]? = w.heap[k]?
  fresh : ∀ k, P' k → P k ∨ w.heap.size ≤ k
theorem Frm.refl (P : Nat → Prop) (w : World) : Frm P P w w := ⟨rfl, rfl, rfl, Nat.le_refl _, fun _ _ _ => rfl, fun _ h => .inl h⟩
theorem Frm.trans {P Q R : Nat → Prop} {w w1 w2 : World} (h : Frm P Q w w1) (k : Frm Q R w1 w2) : Frm P R w w2 := by
  refine ⟨k.os.trans h.os, k.tape.trans h.tape, k.output.trans h.output, Nat.le_trans h.size k.size, fun i hi hP => ?_, fun i hi => ?_⟩
  · rw [k.block i (Nat.lt_of_lt_of_le hi h.size) (fun hQ => ?_)]
    · exact h.block i hi hP
    · rcases h.fresh i hQ with e | e
      · exact hP e
      · omega
  · rcases k.fresh i hi with e | e
    · exact h.fresh i e
    · exact .inr (Nat.le_trans h.size e)
theorem Frm.of_below {P : Nat → Prop} {w w' : World} (h : Below w.heap.size w w') : Frm P P w w' := ⟨h.os, h.tape, h.output, h.size, fun k hk _ => h.block k hk, fun _ h => .inl h⟩
theorem Frm.below {P P' : Nat → Prop} {w w' : World} {B : Nat} (h : Frm P P' w w') (hP : ∀ k, P k → B ≤ k) (hB : B ≤ w.heap.size) : Below B w w' :=
  ⟨h.os, h.tape, h.output, h.size, fun k hk => h.block k (Nat.lt_of_lt_of_le hk hB) (fun hp => by have := hP k hp; omega)⟩
theorem Frm.drew {P P' : Nat → Prop} {w w' : World} (h : Frm P P' w w') : Frm P P' w w'.drew := ⟨h.os, h.tape, h.output, h.size, h.block, h.fresh⟩
theorem Frm.set {P P' : Nat → Prop} {w w' : World} (h : Frm P P' w w') {g k : Nat} {u : Value} (hg : P g) : Frm P P' w (w'.setCell ⟨g, k, none⟩ u) := by
  have hs := (Below.refl 0 w').setCell (p := ⟨g, k, none⟩) (Nat.zero_le _) u
  refine ⟨hs.os.trans h.os, hs.tape.trans h.tape, hs.output.trans h.output, Nat.le_trans h.size hs.size, fun i hi h1 => ?_, h.fresh⟩
  rw [Below.heap_setCell w' ⟨g, k, none⟩ u i (fun e => h1 (by subst e; exact hg))]
  exact h.block i hi h1
theorem Frm.alloc {P P' : Nat → Prop} {w w' : World} (h : Frm P P' w w') (o : Obj) : Frm P P' w (w'.alloc o) := by
  have hs := below_alloc1 w' o
  exact ⟨hs.os.trans h.os, hs.tape.trans h.tape, hs.output.trans h.output, Nat.le_trans h.size hs.size, fun i hi h1 => (hs.block i (Nat.lt_of_lt_of_le hi h.size)).trans (h.block i hi h1), h.fresh⟩
theorem Frm.wide {P Q P' Q' : Nat → Prop} {w w' : World} (h : Frm P P' w w') (hP : ∀ k, P k → Q k) (hQ : ∀ k, Q' k → P' k ∨ Q k) : Frm Q Q' w w' :=
  ⟨h.os, h.tape, h.output, h.size, fun k hk hn => h.block k hk (fun hp => hn (hP k hp)), fun k hk => by
    rcases hQ k hk with e | e
    · rcases h.fresh k e with e2 | e2
      · exact .inl (hP k e2)
      · exact .inr e2
    · exact .inl e⟩
theorem Frm.cell {P P' : Nat → Prop} {w w' : World} (h : Frm P P' w w') {p : Addr} (hp : p.block < w.heap.size) (h1 : ¬ P p.block) : w'.cell? p = w.cell? p := World.cell?_of_block (w := w) (h.block p.block hp h1)
theorem cell_block {w w' : World} {p : Addr} (h : w'.heap[p.block]? = w.heap[p.block]?) : w'.cell? p = w.cell? p := World.cell?_of_block (w := w) h
theorem frozen_block {w w' : World} {p : Addr} (h : w'.heap[p.block]? = w.heap[p.block]?) : w'.frozen? p = w.frozen? p := World.frozen?_of_block (w := w) h
end Go.Proofs.Ytbemlfppekpmjaa
