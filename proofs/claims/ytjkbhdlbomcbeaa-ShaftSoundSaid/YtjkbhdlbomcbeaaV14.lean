import Derived.Test.YtjkbhdlbomcbeaaV8
import Derived.Test.YtjkbhdlbomcbeaaV9
import Derived.Test.YtjkbhdlbomcbeaaV2
import Derived.ProofKit
import Derived.OpenShut
import Derived.ChangeOld
import Derived.Below
import Derived.Deep.Matrix
import Derived.Deep.Slices
import Derived.Lib.SmallJoins
import Derived.Test.YtjkbhdlbomcbeaaV13
import Derived.Laws.IdiomArrays
namespace Go.Proofs.Ytjkbhdlbomcbeaa
open Go.RowKit Go.Shelf Shf

/-! Mathematics of the sums of a schedule's load. -/
/-! The contracts of First and Short, where it is known whether there is a schedule. -/
def NoL (w : World) (e : Ending) (w' : World) : Prop := ∃ a c, e = .returned (.tuple #[.slice a 0 c, .int .i64 5]) ∧ Below w.heap.size w w'
def OkL (w : World) (s : Sh) (n : Nat) (e : Ending) (w' : World) : Prop := ∃ a c xs, e = .returned (.tuple #[.slice a n c, .int .i64 0]) ∧ xs.length = n ∧ Reads w' (.slice a n c) xs ∧ First s (fun i => xs.getD i 0) ∧ Below w.heap.size w w'
def NoS (w : World) (e : Ending) (w' : World) : Prop := ∃ a c, e = .returned (.tuple #[.slice a 0 c, .int .i64 0, .int .i64 5]) ∧ Below w.heap.size w w'
def OkS (w : World) (s : Sh) (n : Nat) (e : Ending) (w' : World) : Prop := ∃ a c xs, ∃ m : Nat, e = .returned (.tuple #[.slice a n c, .int .i64 m, .int .i64 0]) ∧ xs.length = n ∧ Reads w' (.slice a n c) xs ∧ LeastEnd s m ∧ First (ending s m) (fun i => xs.getD i 0) ∧ Below w.heap.size w w'
variable {w : World} {v : Value} {P : Int} {js : List J} {os : List (Int × Int)}
end Go.Proofs.Ytjkbhdlbomcbeaa

namespace Go.Proofs.Ytjkbhdlbomcbeaa
open Go.RowKit Go.ChangeShapes Go.WideShapes Go.ChangeAt Shf

/-- A row from its cells. -/
theorem inrow_cells {W : World} {a : Addr} {len cap : Nat} {zs : List Int} (hl : len ≤ cap) (hm : cap ≤ maxLen) (hz : zs.length = cap) (hc : ∀ i, i < cap → W.cell? (a.add i) = some (.int .i64 (zs.getD i 0))) : InRow W (.slice (some a) len cap) (zs.take len) := by
  have hzl : (zs.take len).length = len := by rw [List.length_take]; omega
  refine ⟨⟨some a, cap, by rw [hzl], by omega, fun hne => ?_⟩, by omega, some a, cap, by rw [hzl], fun h => by cases h⟩
  have h0 : 0 < len := by
    rcases Nat.eq_zero_or_pos len with e | e
    · exact absurd (List.length_eq_zero_iff.1 (hzl.trans e)) hne
    · exact e
  obtain ⟨b, off, spot⟩ := a
  have c0 := hc 0 (by omega)
  have hs : spot = none := by simpa [Addr.add] using World.cell?_spot c0
  subst hs
  refine ⟨b, off, rfl, ?_, fun j hj => ?_⟩
  · have := World.block_lt_of_cell? W _ c0
    simpa [Addr.add] using this
  · rw [hzl] at hj
    have ci := hc j (by omega)
    rw [show (⟨b, off, none⟩ : Addr).add j = ⟨b, off + j, none⟩ from by simp [Addr.add]] at ci
    rw [ci, List.getD_eq_getElem?_getD, List.getD_eq_getElem?_getD, List.getElem?_take, if_pos hj]
theorem inrow_nil (W : World) : InRow W (.slice none 0 0) [] := ⟨⟨none, 0, rfl, Nat.le_refl _, fun h => absurd rfl h⟩, Nat.zero_le _, none, 0, rfl, fun _ => rfl⟩

section
variable {H : Type} {enc : TypeId × Value → H} {W : World} {base : Nat} {held : Bool}

theorem inrow_open {fuel : Nat} {v : Value} {x : DataW H × List MemPlace} (h : DataW.trod enc Try.prog W base (fun _ => true) held fuel 26 [v] = some x) : ∃ xs, InRow W v xs := by
  rcases open_ints Try.underlying26 Try.underlying3 (by kernel_rfl) h with ⟨hcs, _⟩ | ⟨a, len, cap, zs, hcs, _, hl, hm, hz, _, hcell, _⟩
  · simp only [List.cons.injEq, and_true] at hcs
    subst hcs
    exact ⟨[], inrow_nil W⟩
  · simp only [List.cons.injEq, and_true] at hcs
    subst hcs
    simp only [if_true] at hz
    exact ⟨_, inrow_cells hl hm hz (fun i hi => hcell i (by omega))⟩


theorem int_cell {n : Nat} {v : Value} {y : DataW H × List MemPlace} (h : DataW.trod enc Try.prog W base (fun _ => true) held n 3 [v] = some y) : ∃ k, v = .int .i64 k := by
  obtain ⟨n', h, _, _⟩ := DataW.trod_int Try.underlying3 h
  simp at h
  exact ⟨n', h⟩
theorem addr_add_add (a : Addr) (i j : Nat) : (a.add i).add j = a.add (i + j) := by
  obtain ⟨b, off, spot⟩ := a
  unfold Addr.add
  by_cases hi : i = 0 <;> by_cases hj : j = 0 <;> simp [hi, hj]
  omega
/-- A slice of structs that came in. -/
theorem flat_open {α : Type} {t e : TypeId} {z : Nat} {encA : α → List Value} (hA : Inhabited α) (hz : ∀ a, (encA a).length = z) (hz0 : 0 < z) (ht : Try.prog.underlying t = some (.slice e)) (hc : Try.prog.cellsOf e = z)
    (hel : ∀ n cs y, DataW.trod enc Try.prog W base (fun _ => true) held n e cs = some y → cs.length = z → ∃ a, cs = encA a) {fuel : Nat} {v : Value} {x : DataW H × List MemPlace} (h : DataW.trod enc Try.prog W base (fun _ => true) held fuel t [v] = some x) :
    ∃ xs : List α, FlatR W z v xs.length (flat encA xs) ∧ xs.length ≤ maxLen := by
  rcases Deep.open_slice ht h with ⟨hcs, _⟩ | ⟨a, len, cap, m, n, D, Pl, hcs, _, hl, hm, hmm, _, hx⟩
  · simp only [List.cons.injEq, and_true] at hcs
    subst hcs
    exact ⟨[], ⟨by simp [flat], none, 0, rfl, Nat.le_refl _, fun _ => rfl, fun h => absurd rfl h⟩, Nat.zero_le _⟩
  · simp only [List.cons.injEq, and_true] at hcs
    subst hcs
    simp only [if_true] at hmm
    subst hmm
    rw [hc] at hx
    have hch : ∀ i, i < m → ∃ b : α, ∀ k, k < z → W.cell? (a.add (i * z + k)) = (encA b)[k]? := fun i hi => by
      obtain ⟨cs', h1, h2⟩ := hx i hi
      obtain ⟨_, hlen, hcell⟩ := World.cells?_some h1
      obtain ⟨b, rfl⟩ := hel _ _ _ h2 hlen
      refine ⟨b, fun k hk => ?_⟩
      have := hcell k hk
      rw [← this, addr_add_add]
    have hch2 : ∀ i, ∃ b : α, i < m → ∀ k, k < z → W.cell? (a.add (i * z + k)) = (encA b)[k]? := fun i => by
      by_cases hi : i < m
      · obtain ⟨b, hb⟩ := hch i hi; exact ⟨b, fun _ => hb⟩
      · exact ⟨hA.default, fun h => absurd h hi⟩
    obtain ⟨A, hA⟩ := Classical.axiomOfChoice hch2
    have hlen : ((List.range len).map A).length = len := by simp
    refine ⟨(List.range len).map A, ⟨flat_len hz _, some a, m, by rw [hlen], by rw [hlen]; exact hl, fun h => (by cases h), fun hne => ?_⟩, by rw [hlen]; omega⟩
    rw [hlen] at hne
    obtain ⟨b, off, spot⟩ := a
    have c0 := hA 0 (by omega) 0 hz0
    rw [Nat.zero_mul, Nat.zero_add] at c0
    obtain ⟨u0, hu0⟩ : ∃ u, (encA (A 0))[0]? = some u := ⟨(encA (A 0))[0]'(by rw [hz]; exact hz0), List.getElem?_eq_getElem _⟩
    rw [hu0] at c0
    have hs : spot = none := by simpa [Addr.add] using World.cell?_spot c0
    subst hs
    refine ⟨b, off, rfl, ?_, fun j u hj => ?_⟩
    · have := World.block_lt_of_cell? W _ c0
      simpa [Addr.add] using this
    · have hjl := (List.getElem?_eq_some_iff.1 hj).1
      rw [flat_len hz, hlen] at hjl
      have hdm : j / z * z + j % z = j := by rw [Nat.mul_comm]; exact Nat.div_add_mod j z
      have hi : j / z < len := (Nat.div_lt_iff_lt_mul hz0).2 hjl
      have hk : j % z < z := Nat.mod_lt _ hz0
      have hf := flat_at hz ((List.range len).map A) (j / z) (j % z) (by rw [hlen]; exact hi) hk
      rw [hdm, hj] at hf
      have hcj := hA (j / z) (by omega) (j % z) hk
      rw [hdm] at hcj
      rw [show (⟨b, off, none⟩ : Addr).add j = ⟨b, off + j, none⟩ from by simp [Addr.add]] at hcj
      rw [hcj, hf]
      simp
set_option maxRecDepth 100000 in
theorem job_open {n : Nat} {cs : List Value} {y : DataW H × List MemPlace} (h : DataW.trod enc Try.prog W base (fun _ => true) held n 56 cs = some y) (hl : cs.length = 4) : ∃ j, cs = encJ j := by
  obtain ⟨y0, y1, y2, y3, m, _, _, h0, h1, h2, h3⟩ := Joins.trod_struct4 Try.underlying56 h
  match cs, hl with
  | [a, b, c, d], _ =>
    have e3 : Try.prog.cellsOf 3 = 1 := by kernel_rfl
    simp [e3] at h0 h1 h2 h3
    obtain ⟨f, rfl⟩ := int_cell h0
    obtain ⟨t, rfl⟩ := int_cell h1
    obtain ⟨l, rfl⟩ := int_cell h2
    obtain ⟨p, rfl⟩ := int_cell h3
    exact ⟨⟨f, t, l, p⟩, rfl⟩
set_option maxRecDepth 100000 in
theorem order_open {n : Nat} {cs : List Value} {y : DataW H × List MemPlace} (h : DataW.trod enc Try.prog W base (fun _ => true) held n 78 cs = some y) (hl : cs.length = 2) : ∃ o, cs = encO o := by
  obtain ⟨y0, y1, m, _, _, h0, h1⟩ := trod_struct2 Try.underlying78 h
  match cs, hl with
  | [a, b], _ =>
    have e3 : Try.prog.cellsOf 3 = 1 := by kernel_rfl
    simp [e3] at h0 h1
    obtain ⟨f, rfl⟩ := int_cell h0
    obtain ⟨t, rfl⟩ := int_cell h1
    exact ⟨(f, t), rfl⟩
set_option maxRecDepth 100000 in
theorem ints_open {r : Reach} {b0 : Nat} {v : Value} {d : DataW H} {p : List MemPlace} (hv : Value.okWide Try.prog W r b0 26 v) (h : DataW.Trod enc Try.prog W base (fun _ => true) held 26 v d p) : ∃ xs, InRow W v xs := by
  obtain ⟨a, len, cap, rfl⟩ := okWide_slice Try.underlying26 hv
  obtain ⟨fuel, hf⟩ := h
  exact inrow_open (fuel := fuel) (x := (d, p)) (by simpa [Value.cells] using hf)

set_option maxRecDepth 100000 in
theorem shaft_open {r : Reach} {b0 : Nat} {v : Value} {d : DataW H} {p : List MemPlace} (hv : Value.okWide Try.prog W r b0 25 v) (h : DataW.Trod enc Try.prog W base (fun _ => true) held 25 v d p) : ∃ P js os, InSh W v P js os := by
  obtain ⟨v0, v1, v2, y0, y1, y2, n, rfl, _, _, h0, h1, h2⟩ := Joins.open_agg3 Try.underlying25 (by kernel_rfl) (by kernel_rfl) hv h
  obtain ⟨P, rfl⟩ := int_cell h0
  obtain ⟨js, hj, hjm⟩ := flat_open (encA := encJ) ⟨J0⟩ encJ_len (by decide) Try.underlying22 (by kernel_rfl) (fun _ _ _ h hl => job_open h hl) h1
  obtain ⟨os, ho, hom⟩ := flat_open (encA := encO) ⟨(0, 0)⟩ encO_len (by decide) Try.underlying23 (by kernel_rfl) (fun _ _ _ h hl => order_open h hl) h2
  exact ⟨P, js, os, v1, v2, rfl, hj, ho, hjm, hom⟩
end
end Go.Proofs.Ytjkbhdlbomcbeaa

namespace Go.Proofs.Ytjkbhdlbomcbeaa
open Go.RowKit Go.Shelf Shf

def enc4 (x : Nat × Nat × Nat × Nat) : List Value := [.int .u8 (x.1 : Int), .int .u8 (x.2.1 : Int), .int .u8 (x.2.2.1 : Int), .int .u8 (x.2.2.2 : Int)]
def enc2 (x : Nat × Nat) : List Value := [.int .u8 (x.1 : Int), .int .u8 (x.2 : Int)]
/-- The numbers of a shaft, as a law is handed them. -/
def InWork (w : World) (v : Value) (p : Nat) (xs : List (Nat × Nat × Nat × Nat)) (bs : List (Nat × Nat)) : Prop :=
  ∃ av bv, v = .agg #[.int .u8 (p : Int), av, bv] ∧ p < 256 ∧ FlatR w 4 av xs.length (flat enc4 xs) ∧ FlatR w 2 bv bs.length (flat enc2 bs) ∧ xs.length ≤ maxLen ∧ bs.length ≤ maxLen ∧
    (∀ x ∈ xs, x.1 < 256 ∧ x.2.1 < 256 ∧ x.2.2.1 < 256 ∧ x.2.2.2 < 256) ∧ (∀ x ∈ bs, x.1 < 256 ∧ x.2 < 256)
def MadeEnd (w : World) (e : Ending) (w' : World) : Prop := ∃ P jv ov js os, e = .returned (.agg #[.int .i64 P, jv, ov]) ∧ OwnJ w' w.heap.size jv js ∧ OwnO w' w.heap.size ov os ∧ validB P js os = true ∧ Below w.heap.size w w'
/-- What the first loop keeps. -/
def MkJ (w W : World) (pv av bv : Value) (P : Int) (jv : Value) (js : List J) : Prop :=
  Three W w.heap.size pv av bv ∧ Three W (w.heap.size + 1) (.int .i64 0) (.slice none 0 0) (.slice none 0 0) ∧ Three W (w.heap.size + 1 + 1) (.int .i64 P) jv (.slice none 0 0) ∧ OwnJ W (w.heap.size + 1 + 1 + 1) jv js ∧ Below w.heap.size w W ∧ w.heap.size + 1 + 1 + 1 ≤ W.heap.size
/-- What the second loop keeps. -/
def MkO (w W : World) (pv av bv : Value) (P : Int) (jv : Value) (js : List J) (ov : Value) (os : List (Int × Int)) : Prop :=
  Three W w.heap.size pv av bv ∧ Three W (w.heap.size + 1) (.int .i64 0) (.slice none 0 0) (.slice none 0 0) ∧ Three W (w.heap.size + 1 + 1) (.int .i64 P) jv ov ∧ OwnJ W (w.heap.size + 1 + 1 + 1) jv js ∧ OwnO W (w.heap.size + 1 + 1 + 1) ov os ∧ Below w.heap.size w W ∧ w.heap.size + 1 + 1 + 1 ≤ W.heap.size
end Go.Proofs.Ytjkbhdlbomcbeaa

namespace Go.Proofs.Ytjkbhdlbomcbeaa
open Go.RowKit Go.ChangeShapes Go.WideShapes Go.ChangeAt Shf

abbrev B4 : Type := { x : Nat × Nat × Nat × Nat // x.1 < 256 ∧ x.2.1 < 256 ∧ x.2.2.1 < 256 ∧ x.2.2.2 < 256 }
abbrev B3 : Type := { x : Nat × Nat × Nat // x.1 < 256 ∧ x.2.1 < 256 ∧ x.2.2 < 256 }
abbrev B2 : Type := { x : Nat × Nat // x.1 < 256 ∧ x.2 < 256 }
def enc3 (x : Nat × Nat × Nat) : List Value := [.int .u8 (x.1 : Int), .int .u8 (x.2.1 : Int), .int .u8 (x.2.2 : Int)]
/-- Triples of bytes that came in. -/
def InTri (w : World) (v : Value) (xs : List (Nat × Nat × Nat)) : Prop := FlatR w 3 v xs.length (flat enc3 xs) ∧ xs.length ≤ maxLen ∧ ∀ x ∈ xs, x.1 < 256 ∧ x.2.1 < 256 ∧ x.2.2 < 256
/-- Bytes that came in. -/
def InU8 (w : World) (v : Value) (xs : List Nat) : Prop := (∃ ao c, v = .slice ao xs.length c ∧ xs.length ≤ c ∧ xs.length ≤ maxLen ∧ (xs ≠ [] → ∃ g o, ao = some ⟨g, o, none⟩ ∧ g < w.heap.size ∧ ∀ j, j < xs.length → w.cell? ⟨g, o + j, none⟩ = some (.int .u8 ((xs.getD j 0 : Nat) : Int)))) ∧ ∀ j, xs.getD j 0 ≤ 255
section
variable {H : Type} {enc : TypeId × Value → H} {W : World} {base : Nat} {held : Bool}
end
end Go.Proofs.Ytjkbhdlbomcbeaa

namespace Go.Proofs.Ytjkbhdlbomcbeaa
open Go.RowKit Go.Shelf Shf

theorem ReadsJ.at' {w : World} {a : Option Addr} {n c : Nat} {js : List J} (h : ReadsJ w (.slice a n c) js) {i : Nat} (hi : i < n) : ∃ g, a = some ⟨g, 0, none⟩ ∧ g < w.heap.size ∧
    w.cell? ⟨g, i * 4, none⟩ = some (.int .i64 (js.getD i J0).f) ∧ w.cell? ⟨g, i * 4 + 1, none⟩ = some (.int .i64 (js.getD i J0).t) ∧ w.cell? ⟨g, i * 4 + 2, none⟩ = some (.int .i64 (js.getD i J0).l) ∧ w.cell? ⟨g, i * 4 + 3, none⟩ = some (.int .i64 (js.getD i J0).p) := by
  obtain ⟨ao, c', e, _, hh⟩ := h.at
  cases e
  exact hh i hi
/-- What is asked of a list of starts. -/
structure LoadGood (s : Sh) (T : Int) (ys : List Int) : Prop where
  len : ys.length = 24
  sum : sm 24 (fun t => ys.getD t 0) = T
  rng : ∀ t, 0 ≤ ys.getD t 0 ∧ ys.getD t 0 ≤ s.P
  pw : s.P ≤ 20
end Go.Proofs.Ytjkbhdlbomcbeaa

namespace Go.Proofs.Ytjkbhdlbomcbeaa
open Go.RowKit Go.Shelf Shf

/-! What any schedule has in an interval, and what is needed there. -/
end Go.Proofs.Ytjkbhdlbomcbeaa

namespace Go.Proofs.Ytjkbhdlbomcbeaa
open Go.RowKit Go.Shelf Shf

/-! The mathematics of proofs: what refutes, and how many leaves a search needs. -/
theorem os_mem {s : Sh} {k : Nat} (hk : k < s.os.length) : s.os.getD k (0, 0) ∈ s.os := by
  rw [List.getD_eq_getElem?_getD, List.getElem?_eq_getElem hk]; exact List.getElem_mem hk
/-- Where each job has one time, and no leaf refutes, there is a schedule. -/
theorem fixed_sched {s : Sh} (hs : Loose s) (hf : ∀ i, i < s.n → lat (s.job i) = (s.job i).f) (hl : ∀ k, k < s.os.length → lateO s k = false) (hn : NoneB s.P s.js 24 0) : ∃ S, Sched s S := by
  refine ⟨fun i => (s.job i).f, ⟨fun i hi => ⟨Int.le_refl _, by rw [hf i hi]; exact Int.le_refl _⟩, fun t t0 t1 => ?_, fun o ho => ?_⟩⟩
  · obtain ⟨x, rfl⟩ : ∃ x : Nat, t = x := ⟨t.toNat, by omega⟩
    have := hn x (x + 1) (by omega) (by omega) (.inl (by omega))
    unfold ovB at this
    simp only [decide_eq_false_iff_not, Int.not_lt] at this
    have e : loadAt s (fun i => (s.job i).f) x = needS s.js x ((x + 1 : Nat) : Int) s.js.length := by
      unfold loadAt needS
      refine sm_congr _ fun i hi => ?_
      have h1 := hs.jobs i hi
      have h2 := hf i hi
      show act (s.job i) (s.job i).f x = needJ (s.job i) x ((x + 1 : Nat) : Int)
      unfold act needJ
      rw [h2]
      split
      · rename_i h
        have : min (min (min (s.job i).l (((x + 1 : Nat) : Int) - x)) (max 0 ((s.job i).f + (s.job i).l - x))) (max 0 (((x + 1 : Nat) : Int) - (s.job i).f)) = 1 := by omega
        rw [this]; omega
      · rename_i h
        have : min (min (min (s.job i).l (((x + 1 : Nat) : Int) - x)) (max 0 ((s.job i).f + (s.job i).l - x))) (max 0 (((x + 1 : Nat) : Int) - (s.job i).f)) = 0 := by omega
        rw [this]; omega
    rw [e]
    have e1 : ((x + 1 : Nat) : Int) - (x : Int) = 1 := by omega
    rw [e1] at this
    omega
  · obtain ⟨k, hk, e⟩ := List.getElem_of_mem ho
    have := hl k hk
    unfold lateO at this
    rw [show s.os.getD k (0, 0) = o by rw [List.getD_eq_getElem?_getD, List.getElem?_eq_getElem hk]; exact e] at this
    simp only [decide_eq_false_iff_not, Int.not_lt] at this
    rw [hf _ (hs.orders o ho).2.1] at this
    exact this
/-! The number of ways to choose a start for each job. -/
def pr : Nat → (Nat → Nat) → Nat
  | 0, _ => 1
  | n + 1, f => pr n f * f n
theorem pr_congr {f g : Nat → Nat} : ∀ n, (∀ i, i < n → f i = g i) → pr n f = pr n g
  | 0, _ => rfl
  | n + 1, h => by simp only [pr]; rw [pr_congr n (fun i hi => h i (by omega)), h n (by omega)]
theorem pr_pos {f : Nat → Nat} : ∀ n, (∀ i, i < n → 1 ≤ f i) → 1 ≤ pr n f
  | 0, _ => Nat.le_refl _
  | n + 1, h => Nat.mul_le_mul (pr_pos n (fun i hi => h i (by omega))) (h n (by omega))
theorem pr_le {f : Nat → Nat} {c : Nat} : ∀ n, (∀ i, i < n → f i ≤ c) → pr n f ≤ c ^ n
  | 0, _ => Nat.le_refl _
  | n + 1, h => by rw [Nat.pow_succ]; exact Nat.mul_le_mul (pr_le n (fun i hi => h i (by omega))) (h n (by omega))
theorem pr_mono {f g : Nat → Nat} : ∀ n, (∀ i, i < n → f i ≤ g i) → pr n f ≤ pr n g
  | 0, _ => Nat.le_refl _
  | n + 1, h => Nat.mul_le_mul (pr_mono n (fun i hi => h i (by omega))) (h n (by omega))
theorem pr_split {f g h : Nat → Nat} {k : Nat} : ∀ n, k < n → (∀ i, i < n → i ≠ k → g i = f i) → (∀ i, i < n → i ≠ k → h i = f i) → f k = g k + h k → pr n f = pr n g + pr n h
  | 0, hk, _, _, _ => by omega
  | n + 1, hk, hg, hh, he => by
    simp only [pr]
    by_cases e : k = n
    · subst e
      rw [pr_congr k (f := g) (g := f) (fun i hi => hg i (by omega) (by omega)), pr_congr k (f := h) (g := f) (fun i hi => hh i (by omega) (by omega)), he, Nat.mul_add]
    · rw [pr_split n (by omega) (fun i hi hne => hg i (by omega) hne) (fun i hi hne => hh i (by omega) hne) he, hg n (by omega) (fun e' => e e'.symm), hh n (by omega) (fun e' => e e'.symm), Nat.add_mul]
/-- Each job has a time. -/
def Fit (s : Sh) : Prop := ∀ i, i < s.n → (s.job i).f ≤ lat (s.job i)
def starts (j : J) : Nat := (lat j - j.f + 1).toNat
def wt (s : Sh) : Nat := pr s.n fun i => starts (s.job i)
theorem till_job {s : Sh} {i : Nat} (hi : i < s.n) (x : Int) (k : Nat) : (till s i x).job k = if k = i then tillJ (s.job i) x else s.job k := put_job hi _ k
theorem later_job {s : Sh} {i : Nat} (hi : i < s.n) (x : Int) (k : Nat) : (later s i x).job k = if k = i then afterJ (s.job i) x else s.job k := put_job hi _ k
theorem lat_till (j : J) (x : Int) : lat (tillJ j x) = x := by simp [lat, tillJ]
theorem lat_after (j : J) (x : Int) : lat (afterJ j x) = lat j := rfl
theorem fit_till {s : Sh} (h : Fit s) {i : Nat} (hi : i < s.n) {x : Int} (h0 : (s.job i).f ≤ x) : Fit (till s i x) := fun k hk => by
  rw [till_n] at hk
  rw [till_job hi]
  split
  · rw [lat_till]; exact h0
  · exact h k hk
theorem fit_later {s : Sh} (h : Fit s) {i : Nat} (hi : i < s.n) {x : Int} (h0 : x < lat (s.job i)) : Fit (later s i x) := fun k hk => by
  rw [later_n] at hk
  rw [later_job hi]
  split
  · rw [lat_after]; show x + 1 ≤ _; omega
  · exact h k hk
theorem wt_split {s : Sh} {i : Nat} (hi : i < s.n) {x : Int} (h0 : (s.job i).f ≤ x) (h1 : x < lat (s.job i)) : wt s = wt (till s i x) + wt (later s i x) := by
  unfold wt
  rw [till_n, later_n]
  refine pr_split s.n hi (fun k hk hne => by rw [till_job hi, if_neg hne]) (fun k hk hne => by rw [later_job hi, if_neg hne]) ?_
  rw [till_job hi, if_pos rfl, later_job hi, if_pos rfl]
  unfold starts
  rw [lat_till, lat_after]
  show (lat (s.job i) - (s.job i).f + 1).toNat = (x - (s.job i).f + 1).toNat + (lat (s.job i) - (x + 1) + 1).toNat
  omega
theorem wt_pos {s : Sh} (h : Fit s) : 1 ≤ wt s := pr_pos _ fun i hi => by unfold starts; have := h i hi; omega
theorem wt_later_le {s : Sh} {i : Nat} (hi : i < s.n) {x y : Int} (hxy : x ≤ y) : wt (later s i y) ≤ wt (later s i x) := by
  unfold wt
  rw [later_n, later_n]
  refine pr_mono _ fun k hk => ?_
  rw [later_job hi, later_job hi]
  split
  · unfold starts; rw [lat_after, lat_after]; show (lat _ - (y + 1) + 1).toNat ≤ (lat _ - (x + 1) + 1).toNat; omega
  · exact Nat.le_refl _
theorem wt_le {s : Sh} (hs : Loose s) : wt s ≤ 25 ^ 6 := by
  have h := pr_le (f := fun i => starts (s.job i)) (c := 25) s.n fun i hi => by
    have := hs.jobs i hi
    unfold starts lat; omega
  exact Nat.le_trans h (Nat.pow_le_pow_right (by omega) hs.num.2)
/-- At its latest time a job is as it was. -/
theorem till_lat {s : Sh} {i : Nat} (hi : i < s.n) : till s i (lat (s.job i)) = s := by
  unfold till Sh.put
  have : tillJ (s.job i) (lat (s.job i)) = s.job i := by
    unfold tillJ lat; cases s.job i; simp only [J.mk.injEq, and_true, true_and]; omega
  rw [this]
  have e : s.js.set i (s.job i) = s.js := by
    unfold Sh.job
    rw [List.getD_eq_getElem?_getD, List.getElem?_eq_getElem (show i < s.js.length from hi)]
    exact List.set_getElem_self _
  rw [e]
def Tr.nodes : Tr → Nat
  | .split _ _ l r => 1 + l.nodes + r.nodes
  | .energy .. => 1
  | .late .. => 1
def Tr.leaves : Tr → Nat
  | .split _ _ l r => l.leaves + r.leaves
  | .energy .. => 1
  | .late .. => 1
theorem nodes_leaves : ∀ t : Tr, t.nodes + 1 = 2 * t.leaves
  | .split _ _ l r => by have := nodes_leaves l; have := nodes_leaves r; simp only [Tr.nodes, Tr.leaves]; omega
  | .energy .. => rfl
  | .late .. => rfl
end Go.Proofs.Ytjkbhdlbomcbeaa
