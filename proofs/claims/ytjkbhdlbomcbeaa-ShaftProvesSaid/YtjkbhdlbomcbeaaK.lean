import Derived.Test.YtjkbhdlbomcbeaaJ
namespace Go.Proofs.Ytjkbhdlbomcbeaa
open Go.RowKit Shf

/-- All that was there stays, but for two blocks. -/
structure Mod (b ge : Nat) (w w' : World) : Prop where
  os : w'.os = w.os
  tape : w'.tape = w.tape
  output : w'.output = w.output
  size : w.heap.size ≤ w'.heap.size
  block : ∀ k, k < w.heap.size → k ≠ b → k ≠ ge → w'.heap[k]? = w.heap[k]?
theorem Mod.refl (b ge : Nat) (w : World) : Mod b ge w w := ⟨rfl, rfl, rfl, Nat.le_refl _, fun _ _ _ _ => rfl⟩
theorem Mod.trans {b ge : Nat} {w1 w2 w3 : World} (h : Mod b ge w1 w2) (k : Mod b ge w2 w3) : Mod b ge w1 w3 :=
  ⟨k.os.trans h.os, k.tape.trans h.tape, k.output.trans h.output, Nat.le_trans h.size k.size, fun i hi h1 h2 => (k.block i (Nat.lt_of_lt_of_le hi h.size) h1 h2).trans (h.block i hi h1 h2)⟩
theorem Mod.of_below {b ge : Nat} {w w' : World} (h : Below w.heap.size w w') : Mod b ge w w' := ⟨h.os, h.tape, h.output, h.size, fun k hk _ _ => h.block k hk⟩
theorem Mod.drew {b ge : Nat} {w w' : World} (h : Mod b ge w w') : Mod b ge w w'.drew := ⟨h.os, h.tape, h.output, h.size, h.block⟩
theorem Mod.set {b ge : Nat} {w w' : World} (h : Mod b ge w w') (g k : Nat) (u : Value) (hg : g = b ∨ g = ge) : Mod b ge w (w'.setCell ⟨g, k, none⟩ u) := by
  have hs := (Below.refl 0 w').setCell (p := ⟨g, k, none⟩) (Nat.zero_le _) u
  refine ⟨hs.os.trans h.os, hs.tape.trans h.tape, hs.output.trans h.output, Nat.le_trans h.size hs.size, fun i hi h1 h2 => ?_⟩
  rw [Below.heap_setCell w' ⟨g, k, none⟩ u i (by rcases hg with rfl | rfl <;> assumption)]
  exact h.block i hi h1 h2
theorem Mod.cell {b ge : Nat} {w w' : World} (h : Mod b ge w w') {p : Addr} (hp : p.block < w.heap.size) (h1 : p.block ≠ b) (h2 : p.block ≠ ge) : w'.cell? p = w.cell? p := World.cell?_of_block (w := w) (h.block p.block hp h1 h2)
theorem Mod.frozen {b ge : Nat} {w w' : World} (h : Mod b ge w w') {p : Addr} (hp : p.block < w.heap.size) (h1 : p.block ≠ b) (h2 : p.block ≠ ge) : w'.frozen? p = w.frozen? p := World.frozen?_of_block (w := w) (h.block p.block hp h1 h2)
theorem Mod.below {b ge C : Nat} {a w w' : World} (h : Mod b ge w w') (hb : Below C a w) (h1 : C ≤ b) (h2 : C ≤ ge) (h3 : C ≤ w.heap.size) : Below C a w' :=
  ⟨h.os.trans hb.os, h.tape.trans hb.tape, h.output.trans hb.output, Nat.le_trans hb.size h.size, fun k hk => (h.block k (by omega) (by omega) (by omega)).trans (hb.block k hk)⟩
def osI (s : Sh) : List (Int × Int) := s.os.map fun o => ((o.1 : Int), (o.2 : Int))
/-- A layout: what it needs at each time, and the ends. -/
structure Lay (w0 w : World) (b ge c : Nat) (jv ov : Value) (s : Sh) (U E : Nat → Int) : Prop where
  rj : ReadsJ w0 jv s.js
  ro : ReadsO w0 ov (osI s)
  below : Below w0.heap.size w0 w
  hb : w0.heap.size ≤ b
  hge : w0.heap.size ≤ ge
  hbw : b < w.heap.size
  hgw : ge < w.heap.size
  hne : b ≠ ge
  hc : s.n ≤ c
  h0 : w.cell? ⟨b, 0, none⟩ = some (.int .i64 s.P)
  h1 : w.cell? ⟨b, 1, none⟩ = some jv
  h2 : w.cell? ⟨b, 2, none⟩ = some ov
  h3 : w.cell? ⟨b, 3, none⟩ = some (.slice (some ⟨ge, 0, none⟩) s.n c)
  used : ∀ t, t < 24 → w.cell? ⟨b, 4 + t, none⟩ = some (.int .i64 (U t))
  ends : ∀ i, i < s.n → w.cell? ⟨ge, i, none⟩ = some (.int .i64 (E i))
  fb : ∀ j, w.frozen? ⟨b, j, none⟩ = false
  fg : ∀ j, w.frozen? ⟨ge, j, none⟩ = false
theorem Lay.keep {w0 w w' : World} {b ge c : Nat} {jv ov : Value} {s : Sh} {U E : Nat → Int} (h : Lay w0 w b ge c jv ov s U E) (k : Below w.heap.size w w') : Lay w0 w' b ge c jv ov s U E where
  rj := h.rj
  ro := h.ro
  below := h.below.trans (k.mono h.below.size)
  hb := h.hb
  hge := h.hge
  hbw := Nat.lt_of_lt_of_le h.hbw k.size
  hgw := Nat.lt_of_lt_of_le h.hgw k.size
  hne := h.hne
  hc := h.hc
  h0 := (k.cell (p := ⟨b, 0, none⟩) h.hbw).trans h.h0
  h1 := (k.cell (p := ⟨b, 1, none⟩) h.hbw).trans h.h1
  h2 := (k.cell (p := ⟨b, 2, none⟩) h.hbw).trans h.h2
  h3 := (k.cell (p := ⟨b, 3, none⟩) h.hbw).trans h.h3
  used := fun t ht => (k.cell (p := ⟨b, 4 + t, none⟩) h.hbw).trans (h.used t ht)
  ends := fun i hi => (k.cell (p := ⟨ge, i, none⟩) h.hgw).trans (h.ends i hi)
  fb := fun j => (k.frozen (p := ⟨b, j, none⟩) h.hbw).trans (h.fb j)
  fg := fun j => (k.frozen (p := ⟨ge, j, none⟩) h.hgw).trans (h.fg j)
theorem Lay.same {w0 w : World} {b ge c : Nat} {jv ov : Value} {s : Sh} {U E U' E' : Nat → Int} (h : Lay w0 w b ge c jv ov s U E) (hU : ∀ t, t < 24 → U t = U' t) (hE : ∀ i, i < s.n → E i = E' i) : Lay w0 w b ge c jv ov s U' E' :=
  { h with used := fun t ht => by rw [← hU t ht]; exact h.used t ht, ends := fun i hi => by rw [← hE i hi]; exact h.ends i hi }
theorem Lay.setU {w0 w : World} {b ge c : Nat} {jv ov : Value} {s : Sh} {U E : Nat → Int} (h : Lay w0 w b ge c jv ov s U E) {k : Nat} (hk : k < 24) (y : Int) :
    Lay w0 (w.setCell ⟨b, 4 + k, none⟩ (.int .i64 y)) b ge c jv ov s (fun t => if t = k then y else U t) E where
  rj := h.rj
  ro := h.ro
  below := below_set h.below h.hb
  hb := h.hb
  hge := h.hge
  hbw := by simpa using h.hbw
  hgw := by simpa using h.hgw
  hne := h.hne
  hc := h.hc
  h0 := by rw [World.cell?_setCell_other _ _ _ _ (by simp)]; exact h.h0
  h1 := by rw [World.cell?_setCell_other _ _ _ _ (by simp <;> omega)]; exact h.h1
  h2 := by rw [World.cell?_setCell_other _ _ _ _ (by simp <;> omega)]; exact h.h2
  h3 := by rw [World.cell?_setCell_other _ _ _ _ (by simp <;> omega)]; exact h.h3
  used := fun t ht => by
    by_cases e : t = k
    · subst e
      rw [if_pos rfl, World.cell?_setCell_same' _ _ _ (by rw [h.used t ht]; rfl)]
    · rw [if_neg e, World.cell?_setCell_other _ _ _ _ (by simp <;> omega)]; exact h.used t ht
  ends := fun i hi => by rw [World.cell?_setCell_other _ _ _ _ (by have := h.hne; simp <;> omega)]; exact h.ends i hi
  fb := fun j => by rw [World.frozen?_setCell]; exact h.fb j
  fg := fun j => by rw [World.frozen?_setCell]; exact h.fg j
theorem Lay.setE {w0 w : World} {b ge c : Nat} {jv ov : Value} {s : Sh} {U E : Nat → Int} (h : Lay w0 w b ge c jv ov s U E) {k : Nat} (hk : k < s.n) (y : Int) :
    Lay w0 (w.setCell ⟨ge, k, none⟩ (.int .i64 y)) b ge c jv ov s U (fun i => if i = k then y else E i) where
  rj := h.rj
  ro := h.ro
  below := below_set h.below h.hge
  hb := h.hb
  hge := h.hge
  hbw := by simpa using h.hbw
  hgw := by simpa using h.hgw
  hne := h.hne
  hc := h.hc
  h0 := by rw [World.cell?_setCell_other _ _ _ _ (by have := h.hne; simp <;> omega)]; exact h.h0
  h1 := by rw [World.cell?_setCell_other _ _ _ _ (by have := h.hne; simp <;> omega)]; exact h.h1
  h2 := by rw [World.cell?_setCell_other _ _ _ _ (by have := h.hne; simp <;> omega)]; exact h.h2
  h3 := by rw [World.cell?_setCell_other _ _ _ _ (by have := h.hne; simp <;> omega)]; exact h.h3
  used := fun t ht => by rw [World.cell?_setCell_other _ _ _ _ (by have := h.hne; simp <;> omega)]; exact h.used t ht
  ends := fun i hi => by
    by_cases e : i = k
    · subst e
      rw [if_pos rfl, World.cell?_setCell_same' _ _ _ (by rw [h.ends i hi]; rfl)]
    · rw [if_neg e, World.cell?_setCell_other _ _ _ _ (by simp <;> omega)]; exact h.ends i hi
  fb := fun j => by rw [World.frozen?_setCell]; exact h.fb j
  fg := fun j => by rw [World.frozen?_setCell]; exact h.fg j
end Go.Proofs.Ytjkbhdlbomcbeaa
