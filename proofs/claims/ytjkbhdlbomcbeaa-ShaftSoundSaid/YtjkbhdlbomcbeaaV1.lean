import Derived.Test.YtjkbhdlbomcbeaaProg
import Derived.WalkKit
import Derived.WalkLawsBesides
import Derived.WalkSpells
import Derived.Lib.Hide
import Derived.Deep.QuietTactic
import Derived.BigQuiet
import Derived.Outline
import Derived.Lib.Strings
import Derived.IntWalk
import Derived.Laws.AppendOwnNone
namespace Go.Proofs.Ytjkbhdlbomcbeaa
open Go.RowKit
theorem own_below {B : Nat} {e : TypeId} {sz n : Nat} {v : Value} {xs : List Value} {w w' : World} (h : w.ownsRow B e sz v n xs) (hb : Below w.heap.size w w') : w'.ownsRow B e sz v n xs := by
  refine ⟨h.1, ?_⟩
  rcases h.2 with hn | ⟨g, cap, cur, rfl, hB, hg, rest⟩
  · exact .inl hn
  · refine .inr ⟨g, cap, cur, rfl, hB, ?_, rest⟩
    rw [hb.block g (Array.getElem?_eq_some_iff.1 hg).1]
    exact hg
theorem below_seq {w w1 w2 : World} {B : Nat} (h : Below B w w1) (k : Below w1.heap.size w1 w2) (hB : B ≤ w.heap.size) : Below B w w2 :=
  h.trans (k.mono (Nat.le_trans hB h.size))
theorem below_call {w w1 : World} (h : Below w.heap.size w w1) {w2 : World} (k : Below w1.heap.size w1 w2) : Below w.heap.size w w2 := below_seq h k (Nat.le_refl _)
theorem own_base {B B' : Nat} {e : TypeId} {sz n : Nat} {v : Value} {xs : List Value} {w : World} (h : w.ownsRow B e sz v n xs) (hb : B' ≤ B) : w.ownsRow B' e sz v n xs := by
  refine ⟨h.1, ?_⟩
  rcases h.2 with hn | ⟨g, cap, cur, rfl, hB, rest⟩
  · exact .inl hn
  · exact .inr ⟨g, cap, cur, rfl, Nat.le_trans hb hB, rest⟩
/-- `v` holds the ints `xs` in memory that was made after block `B`. -/
def Ints (w : World) (B : Nat) (v : Value) (xs : List Int) : Prop := w.ownsRow B 3 1 v xs.length (xs.map (Value.int .i64))
theorem Ints.below {B : Nat} {v : Value} {xs : List Int} {w w' : World} (h : Ints w B v xs) (hb : Below w.heap.size w w') : Ints w' B v xs := own_below h hb
theorem Ints.base {B B' : Nat} {v : Value} {xs : List Int} {w : World} (h : Ints w B v xs) (hb : B' ≤ B) : Ints w B' v xs := own_base h hb
theorem Ints.nil (w : World) (B : Nat) : Ints w B (.slice none 0 0) [] := World.ownsRow_nil _ _ _ _
/-- `v` reads as the ints `xs`. -/
def Reads (w : World) (v : Value) (xs : List Int) : Prop := ∃ ao c, v = .slice ao xs.length c ∧ xs.length ≤ c ∧ (xs ≠ [] → ∃ g o, ao = some ⟨g, o, none⟩ ∧ g < w.heap.size ∧ ∀ j, j < xs.length → w.cell? ⟨g, o + j, none⟩ = some (.int .i64 (xs.getD j 0)))
theorem Reads.below {w w' : World} {v : Value} {xs : List Int} (h : Reads w v xs) (hb : Below w.heap.size w w') : Reads w' v xs := by
  obtain ⟨ao, c, rfl, hc, h⟩ := h
  refine ⟨ao, c, rfl, hc, fun hne => ?_⟩
  obtain ⟨g, o, rfl, hg, hc⟩ := h hne
  exact ⟨g, o, rfl, Nat.lt_of_lt_of_le hg hb.size, fun j hj => (hb.cell (p := ⟨g, o + j, none⟩) hg).trans (hc j hj)⟩
theorem Ints.shape {w : World} {B : Nat} {v : Value} {xs : List Int} (h : Ints w B v xs) : Reads w v xs := by
  have hh := h
  rcases h.2 with ⟨rfl, h0⟩ | ⟨g, cap, cur, rfl, hB, hg, hn, _⟩
  · refine ⟨none, 0, by rw [h0], by omega, fun hne => absurd (List.length_eq_zero_iff.1 h0) hne⟩
  · refine ⟨_, cap, rfl, hn, fun _ => ⟨g, 0, rfl, (Array.getElem?_eq_some_iff.1 hg).1, fun j hj => ?_⟩⟩
    rw [show 0 + j = j from by omega, hh.cellAt j (by omega)]
    simp [List.getD_eq_getElem?_getD, hj]
theorem Reads.len {w : World} {v : Value} {xs : List Int} (h : Reads w v xs) : ∃ ao c, v = .slice ao xs.length c ∧ xs.length ≤ c := by
  obtain ⟨ao, c, e, hc, _⟩ := h; exact ⟨ao, c, e, hc⟩
/-- `v` reads as the rows of ints `xss`. -/
def ReadsG (w : World) (v : Value) (xss : List (List Int)) : Prop := ∃ ao c, v = .slice ao xss.length c ∧ xss.length ≤ c ∧ (xss ≠ [] → ∃ g o, ao = some ⟨g, o, none⟩ ∧ g < w.heap.size ∧ ∀ j, j < xss.length → ∃ u, w.cell? ⟨g, o + j, none⟩ = some u ∧ Reads w u (xss.getD j []))
theorem info3 : (Try.prog.info? 3).map (fun i => (i.zero, i.size, i.bytes)) = some (some (.int .i64 0), 1, 8) := by kernel_rfl
theorem info26 : (Try.prog.info? 26).map (fun i => (i.zero, i.size, i.bytes)) = some (some (.slice none 0 0), 1, 24) := by kernel_rfl
/-- append(s, y) of one int, at the model's operation. -/
theorem app_int {ops : Array Oper} {rest : List Oper} {o : Oper} {a : Act} {Q : Exit → Act → World → Prop} {w : World} {B : Nat} {v : Value} {xs : List Int} {y : Int}
    (hown : Ints w B v xs) (hlen : xs.length ≤ 1000000000) (hB : B ≤ w.heap.size) (hgd : o.guard = none) (s x : Operand)
    (ho : o.op = .call { callee := .builtin .append, args := #[s, x], argTypes := #[26, 26] }) (hs : a.eval s = v) (hx : a.eval x = .slice (some ⟨w.heap.size, 0, none⟩) 1 1)
    (h : ∀ v' w', Ints w' B v' (xs ++ [y]) → Below B w w' → wpList Try.prog ops Q rest (a.put o.dst v') w') : wpList Try.prog ops Q (o :: rest) a (w.alloc (.cells #[.int .i64 y] 3)) := by
  obtain ⟨i0, hi, hz0, hz1, hz2⟩ := info_parts info3
  refine wpList_append_own _ hgd s x 26 ho B 3 i0 (.int .i64 0) 1 8 Try.underlying26 hi hz0 hz1 hz2 rfl (by decide) v xs.length (xs.map (Value.int .i64)) hs (World.ownsRow.alloc hown _) ⟨w.heap.size, 0, none⟩ 1 1 [.int .i64 y] hx rfl ?_ ?_ ?_ ?_ ?_ ?_
  · exact cell_one_new _ _ _
  · intro u hu; simp at hu; subst hu; rfl
  · unfold maxLen; omega
  · omega
  · simp; omega
  · intro v' w' h2 h3 _
    refine h v' w' ?_ ?_
    · unfold Ints; simpa using h2
    · exact ((Below.refl B w).alloc hB _).grown h3 (by simp; omega) (fun k hk => (World.ownsRow.lt hown k hk).1)
theorem ret_b {a b : Bool} (h : a = b) : Ending.returned (.bool a) = .returned (.bool b) := by rw [h]
theorem int_eq {k : IntKind} {a b : Int} (h : a = b) : Value.int k a = .int k b := by rw [h]
def Made (w : World) (xs : List Int) (e : Ending) (w' : World) : Prop := ∃ v, e = .returned v ∧ Ints w' w.heap.size v xs ∧ Below w.heap.size w w'
def MadeE (w : World) (xs : List Int) (err : Int) (e : Ending) (w' : World) : Prop := ∃ v, e = .returned (.tuple #[v, .int .i64 err]) ∧ Ints w' w.heap.size v xs ∧ Below w.heap.size w w'
theorem Ints.lit (w : World) (B : Nat) (hB : B ≤ w.heap.size) : Ints (w.alloc (.cells #[] 3)) B (.slice (some ⟨w.heap.size, 0, none⟩) 0 0) [] :=
  World.ownsRow_made w #[] 0 hB (by unfold maxLen; omega) (by simp)
theorem below_alloc1 (w : World) (o : Obj) : Below w.heap.size w (w.alloc o) := (Below.refl _ _).alloc (Nat.le_refl _) _
theorem below_set {w wr : World} {B g : Nat} {k : Nat} {u : Value} (h : Below B w wr) (hg : B ≤ g) : Below B w (wr.setCell ⟨g, k, none⟩ u) := h.setCell hg u
/-- A row of one's own that is written to. -/
def Row (w : World) (B g n : Nat) (xs : List Int) : Prop := w.ownsRow B 3 1 (.slice (some ⟨g, 0, none⟩) n n) n (xs.map (Value.int .i64)) ∧ xs.length = n
theorem Row.below {w w' : World} {B g n : Nat} {xs : List Int} (h : Row w B g n xs) (hb : Below w.heap.size w w') : Row w' B g n xs := ⟨own_below h.1 hb, h.2⟩
theorem Row.cell {w : World} {B g n : Nat} {xs : List Int} (h : Row w B g n xs) {j : Nat} (hj : j < n) : w.cell? ⟨g, j, none⟩ = some (.int .i64 (xs.getD j 0)) := by
  rw [h.1.cellAt j (by omega)]
  have := h.2
  simp [List.getD_eq_getElem?_getD, show j < xs.length by omega]
theorem Row.frozen {w : World} {B g n : Nat} {xs : List Int} (h : Row w B g n xs) (j : Nat) : w.frozen? ⟨g, j, none⟩ = false := h.1.frozenAt j
theorem Row.set {w : World} {B g n : Nat} {xs : List Int} (h : Row w B g n xs) (j : Nat) (y : Int) : Row (w.setCell ⟨g, j, none⟩ (.int .i64 y)) B g n (xs.set j y) := by
  refine ⟨?_, by rw [List.length_set]; exact h.2⟩
  rw [List.map_set]; exact (h.1.stored j _).1
/-- make([]int, n) at the model's operation. -/
theorem make_row {ops : Array Oper} {rest : List Oper} {o : Oper} {a : Act} {Q : Exit → Act → World → Prop} {w : World} {B : Nat}
    (n : Nat) (hC : n ≤ 1000000) (hB : B ≤ w.heap.size) (hg : o.guard = none) (l c : Operand) (hop : o.op = Op.makeSlice 26 l c)
    (hl : a.eval l = .int .i64 (n : Int)) (hc : a.eval c = .int .i64 (n : Int))
    (hK : ∀ w', Row w' B w.heap.size n (List.replicate n 0) → Below B w w' → wpList Try.prog ops Q rest (a.put o.dst (.slice (some ⟨w.heap.size, 0, none⟩) n n)) w') :
    wpList Try.prog ops Q (o :: rest) a w := by
  obtain ⟨i0, hi, hz0, hz1, hz2⟩ := info_parts info3
  refine wpList_plain hg fun K hK' => ?_
  have hr := run_make (P := Try.prog) w 26 3 i0 (.int .i64 0) Try.underlying26 hi hz0 .i64 .i64 (n : Int) (n : Int) (by omega) (by omega) (by rw [hz2]; omega) (by omega)
  simp only [Int.toNat_natCast, hz1, Nat.mul_one] at hr
  unfold Oper.wp
  simp [execOp, hop, hl, hc, hr, Result.andThen]
  refine hK' _ _ (hK _ ⟨⟨by simp, .inr ⟨w.heap.size, n, _, rfl, hB, heap_alloc_new w _, Nat.le_refl _, by unfold maxLen; omega, by simp [size_madeCells], ?_⟩⟩, by simp⟩ ((Below.refl _ _).alloc hB _))
  show (madeCells #[Value.int .i64 0] n).toList.take (n * 1) = _
  rw [toList_madeCells_one, Nat.mul_one, List.take_replicate, Nat.min_self, List.map_replicate]
/-- Rows of ints of one's own. -/
def OwnG (w : World) (B : Nat) (v : Value) (xss : List (List Int)) : Prop :=
  ∃ vs : List Value, w.ownsRow B 26 1 v vs.length vs ∧ vs.length = xss.length ∧ ∀ j, j < vs.length → Ints w B (vs.getD j undef) (xss.getD j [])
theorem OwnG.below {w w' : World} {B : Nat} {v : Value} {xss : List (List Int)} (h : OwnG w B v xss) (hb : Below w.heap.size w w') : OwnG w' B v xss := by
  obtain ⟨vs, h1, h2, h3⟩ := h
  exact ⟨vs, own_below h1 hb, h2, fun j hj => (h3 j hj).below hb⟩
theorem OwnG.base {w : World} {B B' : Nat} {v : Value} {xss : List (List Int)} (h : OwnG w B v xss) (hb : B' ≤ B) : OwnG w B' v xss := by
  obtain ⟨vs, h1, h2, h3⟩ := h
  exact ⟨vs, own_base h1 hb, h2, fun j hj => (h3 j hj).base hb⟩
theorem OwnG.shape {w : World} {B : Nat} {v : Value} {xss : List (List Int)} (h : OwnG w B v xss) : ReadsG w v xss := by
  obtain ⟨vs, h1, h2, h3⟩ := h
  have hh := h1
  rcases h1.2 with ⟨rfl, h0⟩ | ⟨g, cap, cur, rfl, hB, hg, hn, _⟩
  · refine ⟨none, 0, by rw [← h2, h0], by omega, fun hne => absurd (List.length_eq_zero_iff.1 (by omega)) hne⟩
  · refine ⟨_, cap, by rw [h2], by omega, fun _ => ⟨g, 0, rfl, (Array.getElem?_eq_some_iff.1 hg).1, fun j hj => ?_⟩⟩
    rw [← h2] at hj
    refine ⟨vs.getD j undef, ?_, (h3 j hj).shape⟩
    rw [show 0 + j = j from by omega, hh.cellAt j (by omega)]
    simp [List.getD_eq_getElem?_getD, hj]
/-- A slice of ints that came in. -/
def InRow (w : World) (v : Value) (xs : List Int) : Prop := Reads w v xs ∧ xs.length ≤ maxLen ∧ ∃ ao c, v = .slice ao xs.length c ∧ (ao = none → c = 0)
def InRows (w : World) (v : Value) (xss : List (List Int)) : Prop := ∃ ao c, v = .slice ao xss.length c ∧ xss.length ≤ c ∧ xss.length ≤ maxLen ∧ (xss ≠ [] → ∃ g o, ao = some ⟨g, o, none⟩ ∧ g < w.heap.size ∧ ∀ j, j < xss.length → ∃ u, w.cell? ⟨g, o + j, none⟩ = some u ∧ InRow w u (xss.getD j []))
/-- append(s, src...) of ints, at the model's operation. -/
theorem app_ints {ops : Array Oper} {rest : List Oper} {o : Oper} {a : Act} {Q : Exit → Act → World → Prop} {w : World} {B : Nat} {v u : Value} {xs ys : List Int}
    (hown : Ints w B v xs) (hu : Reads w u ys) (hs' : u = .slice none 0 0 ∨ ∃ ad l c, u = .slice (some ad) l c) (hlen : xs.length + ys.length ≤ 1000000000) (hB : B ≤ w.heap.size) (hgd : o.guard = none) (s x : Operand)
    (ho : o.op = .call { callee := .builtin .append, args := #[s, x], argTypes := #[26, 26] }) (hs : a.eval s = v) (hx : a.eval x = u)
    (h : ∀ v' w', Ints w' B v' (xs ++ ys) → Below B w w' → wpList Try.prog ops Q rest (a.put o.dst v') w') : wpList Try.prog ops Q (o :: rest) a w := by
  obtain ⟨i0, hi, hz0, hz1, hz2⟩ := info_parts info3
  obtain ⟨ao, c, rfl, hc, hcl⟩ := hu
  rcases hs' with e | ⟨ad, l, c', e⟩
  · have hy : ys = [] := by
      simp only [Value.slice.injEq] at e
      exact List.length_eq_zero_iff.1 e.2.1
    subst hy
    refine wpList_append_own_none hgd s x 26 ho B 3 i0 1 Try.underlying26 hi v xs.length (xs.map (Value.int .i64)) hs hown (hx.trans e) ?_
    exact h v w (by simpa using hown) (Below.refl _ _)
  · have ea : ao = some ad := by cases e; rfl
    subst ea
    refine wpList_append_own _ hgd s x 26 ho B 3 i0 (.int .i64 0) 1 8 Try.underlying26 hi hz0 hz1 hz2 rfl (by decide) v xs.length (xs.map (Value.int .i64)) hs hown ad ys.length c (ys.map (Value.int .i64)) hx (by simp) ?_ ?_ (by unfold maxLen; omega) (by omega) hB ?_
    · intro j z hj
      rw [List.getElem?_map, Option.map_eq_some_iff] at hj
      obtain ⟨y, hy, rfl⟩ := hj
      obtain ⟨hj1, hj2⟩ := List.getElem?_eq_some_iff.1 hy
      obtain ⟨g, o', e1, _, hcell⟩ := hcl (fun e => by rw [e] at hj1; simp at hj1)
      cases e1
      have := hcell j hj1
      rw [show (⟨g, o', none⟩ : Addr).add j = ⟨g, o' + j, none⟩ from by simp [Addr.add], this, List.getD_eq_getElem?_getD, hy]; rfl
    · intro z hz
      rw [List.mem_map] at hz
      obtain ⟨y, _, rfl⟩ := hz
      rfl
    · intro v' w' h2 h3 _
      refine h v' w' ?_ ?_
      · unfold Ints; simpa using h2
      · exact (Below.refl B w).grown h3 hB (fun k hk => (World.ownsRow.lt hown k hk).1)
/-- The cells of rows of ints that are read at place `k`. -/
theorem ReadsG.at {w : World} {ao : Option Addr} {n c : Nat} {gs : List (List Int)} (h : ReadsG w (.slice ao n c) gs) (hn : gs.length = n) {k : Nat} (hk : k < n) :
    ∃ g o, ao = some ⟨g, o, none⟩ ∧ g < w.heap.size ∧ ∃ ro rc, w.cell? ⟨g, o + k, none⟩ = some (.slice ro (gs.getD k []).length rc) ∧ Reads w (.slice ro (gs.getD k []).length rc) (gs.getD k []) := by
  obtain ⟨ao', c', e, _, hc⟩ := h
  have e1 : ao = ao' := by cases e; rfl
  subst e1
  obtain ⟨g, o, rfl, hg, hcell⟩ := hc (fun e => by rw [e] at hn; simp at hn; omega)
  obtain ⟨u, h1, h2⟩ := hcell k (by omega)
  obtain ⟨ro, rc, rfl, _⟩ := id h2
  exact ⟨g, o, rfl, hg, ro, rc, h1, h2⟩
theorem Reads.at {w : World} {ao : Option Addr} {n c : Nat} {xs : List Int} (h : Reads w (.slice ao n c) xs) (hn : xs.length = n) {k : Nat} (hk : k < n) :
    ∃ g o, ao = some ⟨g, o, none⟩ ∧ g < w.heap.size ∧ ∀ j, j < n → w.cell? ⟨g, o + j, none⟩ = some (.int .i64 (xs.getD j 0)) := by
  obtain ⟨ao', c', e, _, hc⟩ := h
  have e1 : ao = ao' := by cases e; rfl
  subst e1
  obtain ⟨g, o, rfl, hg, hcell⟩ := hc (fun e => by rw [e] at hn; simp at hn; omega)
  exact ⟨g, o, rfl, hg, fun j hj => hcell j (by omega)⟩
def sameL (a b : List Int) : Bool := a == b
theorem sameL_len {a b : List Int} (h : a.length ≠ b.length) : false = sameL a b := by
  unfold sameL; symm; rw [beq_eq_false_iff_ne]; intro e; exact h (by rw [e])
theorem sameL_at {a b : List Int} (k : Nat) (h : (a.getD k 0) ≠ b.getD k 0) : false = sameL a b := by
  unfold sameL; symm; rw [beq_eq_false_iff_ne]; intro e; exact h (by rw [e])
theorem sameL_all {a b : List Int} (h : a.length = b.length) (k : Nat) (hk : a.length ≤ k) (hj : ∀ j, j < k → a.getD j 0 = b.getD j 0) : true = sameL a b := by
  unfold sameL; symm; rw [beq_iff_eq]
  refine List.ext_getElem h fun i h1 h2 => ?_
  have := hj i (by omega)
  simpa [List.getD_eq_getElem?_getD, h1, h2] using this
theorem lit2 (w : World) (a b : Int) : Reads (w.alloc (.cells #[.int .i64 a, .int .i64 b] 3)) (.slice (some ⟨w.heap.size, 0, none⟩) 2 2) [a, b] := by
  refine ⟨_, 2, rfl, by simp, fun _ => ⟨w.heap.size, 0, rfl, by simp, fun j hj => ?_⟩⟩
  rw [World.cell?_alloc_at (hn := rfl)]
  simp at hj
  rcases (show j = 0 ∨ j = 1 by omega) with rfl | rfl <;> rfl
end Go.Proofs.Ytjkbhdlbomcbeaa

/-! Schedules of jobs that share power: mathematics that knows no program. -/
namespace Go.Proofs.Ytjkbhdlbomcbeaa.Shf

structure J where
  f : Int
  t : Int
  l : Int
  p : Int
deriving DecidableEq
structure Sh where
  P : Int
  js : List J
  os : List (Nat × Nat)
deriving DecidableEq
def J0 : J := ⟨0, 0, 0, 0⟩
def lat (j : J) : Int := j.t - j.l
def Sh.n (s : Sh) : Nat := s.js.length
def Sh.job (s : Sh) (i : Nat) : J := s.js.getD i J0
/-- Sum over the first `n`. -/
def sm : Nat → (Nat → Int) → Int
  | 0, _ => 0
  | n + 1, f => sm n f + f n
/-- What a job that begins at `x` needs at a time. -/
def act (j : J) (x t : Int) : Int := if x ≤ t ∧ t < x + j.l then j.p else 0
def loadAt (s : Sh) (S : Nat → Int) (t : Int) : Int := sm s.n fun i => act (s.job i) (S i) t
/-- Starts are a schedule. -/
structure Sched (s : Sh) (S : Nat → Int) : Prop where
  range : ∀ i, i < s.n → (s.job i).f ≤ S i ∧ S i ≤ lat (s.job i)
  load : ∀ t, 0 ≤ t → t < 24 → loadAt s S t ≤ s.P
  order : ∀ o ∈ s.os, S o.1 + (s.job o.1).l ≤ S o.2
/-- The numbers are in their ranges; a job may have no time. -/
structure Loose (s : Sh) : Prop where
  jobs : ∀ i, i < s.n → 0 ≤ (s.job i).f ∧ (s.job i).f ≤ 24 ∧ 1 ≤ (s.job i).l ∧ (s.job i).l ≤ 24 ∧ (s.job i).t ≤ 24 ∧ 0 ≤ (s.job i).t ∧ 1 ≤ (s.job i).p ∧ (s.job i).p ≤ 20
  orders : ∀ o ∈ s.os, o.1 < s.n ∧ o.2 < s.n ∧ o.1 ≠ o.2
  power : 1 ≤ s.P ∧ s.P ≤ 20
  num : 1 ≤ s.n ∧ s.n ≤ 6
  few : s.os.length ≤ 20

/-! ## Laying jobs one by one -/
def At (st : List (Option Int)) (i : Nat) : Option Int := st.getD i none
def endOf (s : Sh) (st : List (Option Int)) (i : Nat) : Int := match At st i with
  | some x => x + (s.job i).l
  | none => 0
def used (s : Sh) (st : List (Option Int)) (t : Int) : Int := sm s.n fun i => match At st i with
  | some x => act (s.job i) x t
  | none => 0
def from0 (s : Sh) (st : List (Option Int)) (u : Nat) : Int := s.os.foldl (fun x o => if o.2 = u then max x (endOf s st o.1) else x) (s.job u).f
def free (s : Sh) (st : List (Option Int)) (u : Nat) (x : Int) : Bool := (List.range (s.job u).l.toNat).all fun k => decide (used s st (x + (k : Int)) + (s.job u).p ≤ s.P)
/-- `x` is the least time from `from0` on, at most the latest, at which the job fits. -/
def Early (s : Sh) (st : List (Option Int)) (u : Nat) : Option Int → Prop
  | some x => from0 s st u ≤ x ∧ x ≤ lat (s.job u) ∧ free s st u x = true ∧ ∀ y, from0 s st u ≤ y → y < x → free s st u y = false
  | none => ∀ y, from0 s st u ≤ y → y ≤ lat (s.job u) → free s st u y = false
def early (s : Sh) (st : List (Option Int)) (u : Nat) : Option Int :=
  ((List.range (lat (s.job u) - from0 s st u + 1).toNat).map fun k : Nat => from0 s st u + (k : Int)).find? (free s st u)
def isNext (s : Sh) (st : List (Option Int)) (u : Nat) : Bool := s.os.all fun o => !(decide (o.2 = u) && (At st o.1).isNone)
/-- How many jobs are not laid yet. -/
def openN (s : Sh) (st : List (Option Int)) : Nat := ((List.range s.n).filter fun i => (At st i).isNone).length
/-- Laying the others, one after the other: whether it can be done. -/
def comp (s : Sh) : Nat → List (Option Int) → Bool
  | 0, st => (List.range s.n).all fun i => (At st i).isSome
  | k + 1, st => (List.range s.n).all (fun i => (At st i).isSome || (early s st i).isSome) &&
      ((List.range s.n).all (fun i => (At st i).isSome) || (List.range s.n).any fun i => (At st i).isNone && isNext s st i && comp s k (st.set i (early s st i)))
def cbd (s : Sh) : Bool := comp s s.n (List.replicate s.n none)

/-! ### What is laid holds -/
structure Part (s : Sh) (st : List (Option Int)) : Prop where
  len : st.length = s.n
  range : ∀ i x, i < s.n → At st i = some x → (s.job i).f ≤ x ∧ x ≤ lat (s.job i)
  load : ∀ t, 0 ≤ t → t < 24 → used s st t ≤ s.P
  order : ∀ o ∈ s.os, ∀ y, At st o.2 = some y → ∃ x, At st o.1 = some x ∧ x + (s.job o.1).l ≤ y
/-! ### If there is a schedule, one is found -/
/-- Laid are the jobs that begin first in a schedule, none later than there. -/
structure Ahead (s : Sh) (S : Nat → Int) (st : List (Option Int)) : Prop where
  len : st.length = s.n
  le : ∀ i x, i < s.n → At st i = some x → x ≤ S i
  first : ∀ i u, i < s.n → u < s.n → (At st i).isSome = true → At st u = none → S i ≤ S u
/-! ## Other times of one job, or of all -/
def Sh.put (s : Sh) (i : Nat) (j : J) : Sh := { s with js := s.js.set i j }
def tillJ (j : J) (x : Int) : J := { j with t := x + j.l }
def afterJ (j : J) (x : Int) : J := { j with f := x + 1 }
/-- Job `i` begins at `x` or earlier; later than at `x`; all end at `e` or earlier. -/
def till (s : Sh) (i : Nat) (x : Int) : Sh := s.put i (tillJ (s.job i) x)
def later (s : Sh) (i : Nat) (x : Int) : Sh := s.put i (afterJ (s.job i) x)
def ending (s : Sh) (e : Int) : Sh := { s with js := s.js.map fun j => { j with t := min j.t e } }
/-! ## The least schedule -/
/-- The first `k` starts are no later, in order. -/
def PreLe (k : Nat) (L S : Nat → Int) : Prop := (∀ i, i < k → L i = S i) ∨ ∃ i, i < k ∧ (∀ j, j < i → L j = S j) ∧ L i < S i
structure First (s : Sh) (L : Nat → Int) : Prop where
  is : Sched s L
  least : ∀ S, Sched s S → PreLe s.n L S
/-- `k` starts have been found, and the shaft is narrowed to them. -/
structure Firsts (s : Sh) (k : Nat) (L : Nat → Int) (c : Sh) : Prop where
  loose : Loose c
  n : c.n = s.n
  os : c.os = s.os
  P : c.P = s.P
  l : ∀ i, (c.job i).l = (s.job i).l
  rest : ∀ i, k ≤ i → c.job i = s.job i
  iff : ∀ S, Sched c S ↔ Sched s S ∧ ∀ i, i < k → S i ≤ L i
  some : ∃ S, Sched c S
  least : ∀ S, Sched s S → PreLe k L S
end Go.Proofs.Ytjkbhdlbomcbeaa.Shf

namespace Go.Proofs.Ytjkbhdlbomcbeaa
open Go.RowKit Shf

/-! ## Lists of structs, flat in memory -/
def flat {α : Type} (enc : α → List Value) (xs : List α) : List Value := xs.flatMap enc
theorem flat_len {α : Type} {enc : α → List Value} {z : Nat} (hz : ∀ a, (enc a).length = z) : ∀ xs : List α, (flat enc xs).length = xs.length * z
  | [] => by simp [flat]
  | a :: xs => by
    have := flat_len hz xs
    unfold flat at this ⊢
    rw [List.flatMap_cons, List.length_append, hz, this, List.length_cons, Nat.add_mul, Nat.one_mul, Nat.add_comm]
theorem flat_app {α : Type} (enc : α → List Value) (xs ys : List α) : flat enc (xs ++ ys) = flat enc xs ++ flat enc ys := by simp [flat]
theorem flat_at {α : Type} {enc : α → List Value} {z : Nat} (hz : ∀ a, (enc a).length = z) : ∀ (xs : List α) (i k : Nat) (h : i < xs.length), k < z → (flat enc xs)[i * z + k]? = (enc xs[i])[k]?
  | a :: xs, 0, k, _, hk => by
    rw [Nat.zero_mul, Nat.zero_add]
    unfold flat
    rw [List.flatMap_cons, List.getElem?_append_left (by rw [hz]; exact hk)]; rfl
  | a :: xs, i + 1, k, h, hk => by
    have ih := flat_at hz xs i k (by simpa using h) hk
    unfold flat at ih ⊢
    rw [List.flatMap_cons, List.getElem?_append_right (by rw [hz, Nat.add_mul]; omega), hz, show (i + 1) * z + k - z = i * z + k by rw [Nat.add_mul]; omega, ih]; rfl
theorem flat_set {α : Type} {enc : α → List Value} {z : Nat} (hz : ∀ a, (enc a).length = z) : ∀ (xs : List α) (i k : Nat) (b : α) (u : Value), i < xs.length → k < z → (∀ a, xs[i]? = some a → enc b = (enc a).set k u) → (flat enc xs).set (i * z + k) u = flat enc (xs.set i b)
  | a :: xs, 0, k, b, u, _, hk, he => by
    have := he a rfl
    unfold flat
    rw [Nat.zero_mul, Nat.zero_add, List.set_cons_zero, List.flatMap_cons, List.flatMap_cons, this, List.set_append_left _ _ (by rw [hz]; exact hk)]
  | a :: xs, i + 1, k, b, u, h, hk, he => by
    have ih := flat_set hz xs i k b u (by simpa using h) hk (fun c hc => he c (by simpa using hc))
    unfold flat at ih ⊢
    rw [List.set_cons_succ, List.flatMap_cons, List.flatMap_cons, ← ih, List.set_append_right _ _ (by rw [hz, Nat.add_mul]; omega), hz, show (i + 1) * z + k - z = i * z + k by rw [Nat.add_mul]; omega]
theorem flat_take {α : Type} {enc : α → List Value} {z : Nat} (hz : ∀ a, (enc a).length = z) : ∀ (xs : List α) (n : Nat), flat enc (xs.take n) = (flat enc xs).take (n * z)
  | [], n => by simp [flat]
  | a :: xs, 0 => by simp [flat]
  | a :: xs, n + 1 => by
    have ih := flat_take hz xs n
    unfold flat at ih ⊢
    rw [List.take_succ_cons, List.flatMap_cons, List.flatMap_cons, ih, List.take_append, hz, show (n + 1) * z - z = n * z by rw [Nat.add_mul]; omega, List.take_of_length_le (l := enc a) (by rw [hz, Nat.add_mul]; omega)]
def encJ (j : J) : List Value := [.int .i64 j.f, .int .i64 j.t, .int .i64 j.l, .int .i64 j.p]
def encO (o : Int × Int) : List Value := [.int .i64 o.1, .int .i64 o.2]
theorem encJ_len (j : J) : (encJ j).length = 4 := rfl
theorem encO_len (o : Int × Int) : (encO o).length = 2 := rfl
/-- `v` reads as `n` elements whose cells are `cs`, `z` each; wherever it lies. -/
def FlatR (w : World) (z : Nat) (v : Value) (n : Nat) (cs : List Value) : Prop := cs.length = n * z ∧ ∃ ao c, v = .slice ao n c ∧ n ≤ c ∧ (ao = none → c = 0) ∧ (n ≠ 0 → ∃ g o, ao = some ⟨g, o, none⟩ ∧ g < w.heap.size ∧ ∀ j u, cs[j]? = some u → w.cell? ⟨g, o + j, none⟩ = some u)
theorem FlatR.below {w w' : World} {z n : Nat} {v : Value} {cs : List Value} (h : FlatR w z v n cs) (hb : Below w.heap.size w w') : FlatR w' z v n cs := by
  obtain ⟨h0, ao, c, rfl, hc, h2, h⟩ := h
  refine ⟨h0, ao, c, rfl, hc, h2, fun hn => ?_⟩
  obtain ⟨g, o, rfl, hg, hcl⟩ := h hn
  exact ⟨g, o, rfl, Nat.lt_of_lt_of_le hg hb.size, fun j u hj => (hb.cell (p := ⟨g, o + j, none⟩) hg).trans (hcl j u hj)⟩
/-- A slice of jobs, from the head of its block on. -/
def ReadsJ (w : World) (v : Value) (js : List J) : Prop := ∃ ao c, v = .slice ao js.length c ∧ js.length ≤ c ∧ (js ≠ [] → ∃ g, ao = some ⟨g, 0, none⟩ ∧ g < w.heap.size ∧ ∀ j u, (flat encJ js)[j]? = some u → w.cell? ⟨g, j, none⟩ = some u)
def ReadsO (w : World) (v : Value) (os : List (Int × Int)) : Prop := ∃ ao c, v = .slice ao os.length c ∧ os.length ≤ c ∧ (os ≠ [] → ∃ g, ao = some ⟨g, 0, none⟩ ∧ g < w.heap.size ∧ ∀ j u, (flat encO os)[j]? = some u → w.cell? ⟨g, j, none⟩ = some u)
theorem ReadsJ.below {w w' : World} {v : Value} {js : List J} (h : ReadsJ w v js) (hb : Below w.heap.size w w') : ReadsJ w' v js := by
  obtain ⟨ao, c, rfl, hc, h⟩ := h
  refine ⟨ao, c, rfl, hc, fun hn => ?_⟩
  obtain ⟨g, rfl, hg, hcl⟩ := h hn
  exact ⟨g, rfl, Nat.lt_of_lt_of_le hg hb.size, fun j u hj => (hb.cell (p := ⟨g, j, none⟩) hg).trans (hcl j u hj)⟩
theorem ReadsO.below {w w' : World} {v : Value} {os : List (Int × Int)} (h : ReadsO w v os) (hb : Below w.heap.size w w') : ReadsO w' v os := by
  obtain ⟨ao, c, rfl, hc, h⟩ := h
  refine ⟨ao, c, rfl, hc, fun hn => ?_⟩
  obtain ⟨g, rfl, hg, hcl⟩ := h hn
  exact ⟨g, rfl, Nat.lt_of_lt_of_le hg hb.size, fun j u hj => (hb.cell (p := ⟨g, j, none⟩) hg).trans (hcl j u hj)⟩
theorem jobs_at {js : List J} {i : Nat} (h : i < js.length) : (flat encJ js)[i * 4]? = some (.int .i64 (js.getD i J0).f) ∧ (flat encJ js)[i * 4 + 1]? = some (.int .i64 (js.getD i J0).t) ∧
    (flat encJ js)[i * 4 + 2]? = some (.int .i64 (js.getD i J0).l) ∧ (flat encJ js)[i * 4 + 3]? = some (.int .i64 (js.getD i J0).p) := by
  have e : js.getD i J0 = js[i] := by rw [List.getD_eq_getElem?_getD, List.getElem?_eq_getElem h]; rfl
  rw [e]
  exact ⟨flat_at encJ_len js i 0 h (by omega), flat_at encJ_len js i 1 h (by omega), flat_at encJ_len js i 2 h (by omega), flat_at encJ_len js i 3 h (by omega)⟩
theorem orders_at {os : List (Int × Int)} {i : Nat} (h : i < os.length) : (flat encO os)[i * 2]? = some (.int .i64 (os.getD i (0, 0)).1) ∧ (flat encO os)[i * 2 + 1]? = some (.int .i64 (os.getD i (0, 0)).2) := by
  have e : os.getD i (0, 0) = os[i] := by rw [List.getD_eq_getElem?_getD, List.getElem?_eq_getElem h]; rfl
  rw [e]
  exact ⟨flat_at encO_len os i 0 h (by omega), flat_at encO_len os i 1 h (by omega)⟩
/-- The cells of a job. -/
theorem ReadsJ.at {w : World} {v : Value} {js : List J} (h : ReadsJ w v js) : ∃ ao c, v = .slice ao js.length c ∧ js.length ≤ c ∧ ∀ i, i < js.length → ∃ g, ao = some ⟨g, 0, none⟩ ∧ g < w.heap.size ∧
    w.cell? ⟨g, i * 4, none⟩ = some (.int .i64 (js.getD i J0).f) ∧ w.cell? ⟨g, i * 4 + 1, none⟩ = some (.int .i64 (js.getD i J0).t) ∧ w.cell? ⟨g, i * 4 + 2, none⟩ = some (.int .i64 (js.getD i J0).l) ∧ w.cell? ⟨g, i * 4 + 3, none⟩ = some (.int .i64 (js.getD i J0).p) := by
  obtain ⟨ao, c, rfl, hc, h⟩ := h
  refine ⟨ao, c, rfl, hc, fun i hi => ?_⟩
  obtain ⟨g, rfl, hg, hcl⟩ := h (fun e => by rw [e] at hi; simp at hi)
  obtain ⟨a1, a2, a3, a4⟩ := jobs_at hi
  exact ⟨g, rfl, hg, hcl _ _ a1, hcl _ _ a2, hcl _ _ a3, hcl _ _ a4⟩
theorem ReadsO.at {w : World} {v : Value} {os : List (Int × Int)} (h : ReadsO w v os) : ∃ ao c, v = .slice ao os.length c ∧ os.length ≤ c ∧ ∀ i, i < os.length → ∃ g, ao = some ⟨g, 0, none⟩ ∧ g < w.heap.size ∧
    w.cell? ⟨g, i * 2, none⟩ = some (.int .i64 (os.getD i (0, 0)).1) ∧ w.cell? ⟨g, i * 2 + 1, none⟩ = some (.int .i64 (os.getD i (0, 0)).2) := by
  obtain ⟨ao, c, rfl, hc, h⟩ := h
  refine ⟨ao, c, rfl, hc, fun i hi => ?_⟩
  obtain ⟨g, rfl, hg, hcl⟩ := h (fun e => by rw [e] at hi; simp at hi)
  obtain ⟨a1, a2⟩ := orders_at hi
  exact ⟨g, rfl, hg, hcl _ _ a1, hcl _ _ a2⟩
theorem info56 : (Try.prog.info? 56).map (fun i => (i.zero, i.size, i.bytes)) = some (some (.agg #[.int .i64 0, .int .i64 0, .int .i64 0, .int .i64 0]), 4, 32) := by kernel_rfl
theorem info78 : (Try.prog.info? 78).map (fun i => (i.zero, i.size, i.bytes)) = some (some (.agg #[.int .i64 0, .int .i64 0]), 2, 16) := by kernel_rfl
/-- Jobs, orders of one's own. -/
def OwnJ (w : World) (B : Nat) (v : Value) (js : List J) : Prop := w.ownsRow B 56 4 v js.length (flat encJ js)
def OwnO (w : World) (B : Nat) (v : Value) (os : List (Int × Int)) : Prop := w.ownsRow B 78 2 v os.length (flat encO os)
theorem OwnJ.below {w w' : World} {B : Nat} {v : Value} {js : List J} (h : OwnJ w B v js) (hb : Below w.heap.size w w') : OwnJ w' B v js := own_below h hb
theorem own_cells {w : World} {B e sz n : Nat} {v : Value} {xs : List Value} (h : w.ownsRow B e sz v n xs) : ∃ ao c, v = .slice ao n c ∧ n ≤ c ∧ (n ≠ 0 → ∃ g, ao = some ⟨g, 0, none⟩ ∧ B ≤ g ∧ g < w.heap.size ∧ ∀ j u, xs[j]? = some u → w.cell? ⟨g, j, none⟩ = some u) := by
  have hh := h
  rcases h.2 with ⟨rfl, h0⟩ | ⟨g, cap, cur, rfl, hB, hg, hn, _⟩
  · exact ⟨none, 0, by rw [h0], by omega, fun hne => absurd h0 hne⟩
  · refine ⟨_, cap, rfl, hn, fun _ => ⟨g, rfl, hB, (Array.getElem?_eq_some_iff.1 hg).1, fun j u hj => ?_⟩⟩
    have hl := (List.getElem?_eq_some_iff.1 hj).1
    rw [hh.cellAt j (by rw [← hh.1]; exact hl), hj]
theorem OwnJ.reads {w : World} {B : Nat} {v : Value} {js : List J} (h : OwnJ w B v js) : ReadsJ w v js := by
  obtain ⟨ao, c, rfl, hc, h⟩ := own_cells h
  refine ⟨ao, c, rfl, hc, fun hn => ?_⟩
  obtain ⟨g, rfl, _, hg, hcl⟩ := h (fun e => hn (List.length_eq_zero_iff.1 e))
  exact ⟨g, rfl, hg, hcl⟩
theorem OwnO.reads {w : World} {B : Nat} {v : Value} {os : List (Int × Int)} (h : OwnO w B v os) : ReadsO w v os := by
  obtain ⟨ao, c, rfl, hc, h⟩ := own_cells h
  refine ⟨ao, c, rfl, hc, fun hn => ?_⟩
  obtain ⟨g, rfl, _, hg, hcl⟩ := h (fun e => hn (List.length_eq_zero_iff.1 e))
  exact ⟨g, rfl, hg, hcl⟩
theorem one_flatJ (js : List J) : ∀ v ∈ flat encJ js, v.oneCell' = true := fun v hv => by
  simp only [flat, List.mem_flatMap, encJ, List.mem_cons, List.not_mem_nil, or_false] at hv
  obtain ⟨j, _, rfl | rfl | rfl | rfl⟩ := hv <;> rfl
theorem one_flatO (os : List (Int × Int)) : ∀ v ∈ flat encO os, v.oneCell' = true := fun v hv => by
  simp only [flat, List.mem_flatMap, encO, List.mem_cons, List.not_mem_nil, or_false] at hv
  obtain ⟨j, _, rfl | rfl⟩ := hv <;> rfl
/-- A shaft as a value. -/
def ShV (w : World) (v : Value) (P : Int) (js : List J) (os : List (Int × Int)) : Prop := ∃ jv ov, v = .agg #[.int .i64 P, jv, ov] ∧ ReadsJ w jv js ∧ ReadsO w ov os
theorem ShV.below {w w' : World} {v : Value} {P : Int} {js : List J} {os : List (Int × Int)} (h : ShV w v P js os) (hb : Below w.heap.size w w') : ShV w' v P js os := by
  obtain ⟨jv, ov, rfl, h1, h2⟩ := h
  exact ⟨jv, ov, rfl, h1.below hb, h2.below hb⟩

set_option maxRecDepth 100000 in
theorem in41 {w : World} (v a b : Int) : Calls Try.prog 41 #[.int .i64 v, .int .i64 a, .int .i64 b] w fun e w' => e = .returned (.bool (decide (a ≤ v) && decide (v ≤ b))) ∧ w = w' := by
  by_cases h : a ≤ v
  · go_enter Try.func41, Try.ntmps41
    go_wp2
    go_ret
    exact ⟨ret_b (by simp [h]), rfl⟩
  · have h' : decide (v ≥ a) = false := by simpa using h
    go_enter Try.func41, Try.ntmps41
    go_wp2
    go_ret
    exact ⟨ret_b (by simp), rfl⟩
set_option maxRecDepth 100000 in
theorem power56 {w : World} (v : Int) : Calls Try.prog 56 #[.int .i64 v] w fun e w' => e = .returned (.bool (decide (1 ≤ v) && decide (v ≤ 20))) ∧ w = w' := by
  by_cases h : 1 ≤ v
  · go_enter Try.func56, Try.ntmps56
    go_wp2
    go_ret
    exact ⟨ret_b (by simp [h]), rfl⟩
  · have h' : decide (v ≥ 1) = false := by simpa using h
    go_enter Try.func56, Try.ntmps56
    go_wp2
    go_ret
    exact ⟨ret_b (by simp), rfl⟩
set_option maxRecDepth 100000 in
theorem latest38 {w : World} (j : J) (h : -1000000 ≤ j.t ∧ j.t ≤ 1000000 ∧ -1000000 ≤ j.l ∧ j.l ≤ 1000000) : Calls Try.prog 38 #[.agg #[.int .i64 j.f, .int .i64 j.t, .int .i64 j.l, .int .i64 j.p]] w fun e w' => e = .returned (.int .i64 (lat j)) ∧ Below w.heap.size w w' := by
  obtain ⟨f, t, l, p⟩ := j
  simp only at h
  obtain ⟨h1, h2, h3, h4⟩ := h
  go_enter Try.func38, Try.ntmps38
  go_wp2
  go_ret
  exact ⟨rfl, below_alloc1 _ _⟩
end Go.Proofs.Ytjkbhdlbomcbeaa
