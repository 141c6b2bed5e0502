import Derived.Test.YtjkbhdlbomcbeaaC
import Derived.ProofKit
import Derived.OpenShut
import Derived.ChangeOld
import Derived.Below
import Derived.Deep.Matrix
import Derived.Deep.Slices
import Derived.Lib.SmallJoins
namespace Go.Proofs.Ytjkbhdlbomcbeaa
open Go.RowKit Go.ChangeShapes Go.WideShapes Go.ChangeAt Shf

/-- A row from its cells. -/
theorem inrow_cells {W : World} {a : Addr} {len cap : Nat} {zs : List Int} (hl : len ≤ cap) (hm : cap ≤ maxLen) (hz : zs.length = cap) (hc : ∀ i, i < cap → W.cell? (a.add i) = some (.int .i64 (zs.getD i 0))) : InRow W (.slice (some a) len cap) (zs.take len) := by
  have hzl : (zs.take len).length = len := by rw [List.length_take]; omega
  refine ⟨⟨some a, cap, by rw [hzl], by omega, fun hne => ?_⟩, by omega, some a, cap, by rw [hzl], fun h => by cases h⟩
  have h0 : 0 < len := by
    rcases Nat.eq_zero_or_pos len with e | e
    · exact absurd (List.length_eq_zero_iff.1 (hzl.trans e)) hne
    · exact e
  obtain ⟨b, off, spot⟩ := a
  have c0 := hc 0 (by omega)
  have hs : spot = none := by simpa [Addr.add] using World.cell?_spot c0
  subst hs
  refine ⟨b, off, rfl, ?_, fun j hj => ?_⟩
  · have := World.block_lt_of_cell? W _ c0
    simpa [Addr.add] using this
  · rw [hzl] at hj
    have ci := hc j (by omega)
    rw [show (⟨b, off, none⟩ : Addr).add j = ⟨b, off + j, none⟩ from by simp [Addr.add]] at ci
    rw [ci, List.getD_eq_getElem?_getD, List.getD_eq_getElem?_getD, List.getElem?_take, if_pos hj]
theorem inrow_nil (W : World) : InRow W (.slice none 0 0) [] := ⟨⟨none, 0, rfl, Nat.le_refl _, fun h => absurd rfl h⟩, Nat.zero_le _, none, 0, rfl, fun _ => rfl⟩

section
variable {H : Type} {enc : TypeId × Value → H} {W : World} {base : Nat} {held : Bool}

theorem inrow_open {fuel : Nat} {v : Value} {x : DataW H × List MemPlace} (h : DataW.trod enc Try.prog W base (fun _ => true) held fuel 26 [v] = some x) : ∃ xs, InRow W v xs := by
  rcases open_ints Try.underlying26 Try.underlying3 (by kernel_rfl) h with ⟨hcs, _⟩ | ⟨a, len, cap, zs, hcs, _, hl, hm, hz, _, hcell, _⟩
  · simp only [List.cons.injEq, and_true] at hcs
    subst hcs
    exact ⟨[], inrow_nil W⟩
  · simp only [List.cons.injEq, and_true] at hcs
    subst hcs
    simp only [if_true] at hz
    exact ⟨_, inrow_cells hl hm hz (fun i hi => hcell i (by omega))⟩


theorem int_cell {n : Nat} {v : Value} {y : DataW H × List MemPlace} (h : DataW.trod enc Try.prog W base (fun _ => true) held n 3 [v] = some y) : ∃ k, v = .int .i64 k := by
  obtain ⟨n', h, _, _⟩ := DataW.trod_int Try.underlying3 h
  simp at h
  exact ⟨n', h⟩
theorem addr_add_add (a : Addr) (i j : Nat) : (a.add i).add j = a.add (i + j) := by
  obtain ⟨b, off, spot⟩ := a
  unfold Addr.add
  by_cases hi : i = 0 <;> by_cases hj : j = 0 <;> simp [hi, hj]
  omega
/-- A slice of structs that came in. -/
theorem flat_open {α : Type} {t e : TypeId} {z : Nat} {encA : α → List Value} (hA : Inhabited α) (hz : ∀ a, (encA a).length = z) (hz0 : 0 < z) (ht : Try.prog.underlying t = some (.slice e)) (hc : Try.prog.cellsOf e = z)
    (hel : ∀ n cs y, DataW.trod enc Try.prog W base (fun _ => true) held n e cs = some y → cs.length = z → ∃ a, cs = encA a) {fuel : Nat} {v : Value} {x : DataW H × List MemPlace} (h : DataW.trod enc Try.prog W base (fun _ => true) held fuel t [v] = some x) :
    ∃ xs : List α, FlatR W z v xs.length (flat encA xs) ∧ xs.length ≤ maxLen := by
  rcases Deep.open_slice ht h with ⟨hcs, _⟩ | ⟨a, len, cap, m, n, D, Pl, hcs, _, hl, hm, hmm, _, hx⟩
  · simp only [List.cons.injEq, and_true] at hcs
    subst hcs
    exact ⟨[], ⟨by simp [flat], none, 0, rfl, Nat.le_refl _, fun _ => rfl, fun h => absurd rfl h⟩, Nat.zero_le _⟩
  · simp only [List.cons.injEq, and_true] at hcs
    subst hcs
    simp only [if_true] at hmm
    subst hmm
    rw [hc] at hx
    have hch : ∀ i, i < m → ∃ b : α, ∀ k, k < z → W.cell? (a.add (i * z + k)) = (encA b)[k]? := fun i hi => by
      obtain ⟨cs', h1, h2⟩ := hx i hi
      obtain ⟨_, hlen, hcell⟩ := World.cells?_some h1
      obtain ⟨b, rfl⟩ := hel _ _ _ h2 hlen
      refine ⟨b, fun k hk => ?_⟩
      have := hcell k hk
      rw [← this, addr_add_add]
    have hch2 : ∀ i, ∃ b : α, i < m → ∀ k, k < z → W.cell? (a.add (i * z + k)) = (encA b)[k]? := fun i => by
      by_cases hi : i < m
      · obtain ⟨b, hb⟩ := hch i hi; exact ⟨b, fun _ => hb⟩
      · exact ⟨hA.default, fun h => absurd h hi⟩
    obtain ⟨A, hA⟩ := Classical.axiomOfChoice hch2
    have hlen : ((List.range len).map A).length = len := by simp
    refine ⟨(List.range len).map A, ⟨flat_len hz _, some a, m, by rw [hlen], by rw [hlen]; exact hl, fun h => (by cases h), fun hne => ?_⟩, by rw [hlen]; omega⟩
    rw [hlen] at hne
    obtain ⟨b, off, spot⟩ := a
    have c0 := hA 0 (by omega) 0 hz0
    rw [Nat.zero_mul, Nat.zero_add] at c0
    obtain ⟨u0, hu0⟩ : ∃ u, (encA (A 0))[0]? = some u := ⟨(encA (A 0))[0]'(by rw [hz]; exact hz0), List.getElem?_eq_getElem _⟩
    rw [hu0] at c0
    have hs : spot = none := by simpa [Addr.add] using World.cell?_spot c0
    subst hs
    refine ⟨b, off, rfl, ?_, fun j u hj => ?_⟩
    · have := World.block_lt_of_cell? W _ c0
      simpa [Addr.add] using this
    · have hjl := (List.getElem?_eq_some_iff.1 hj).1
      rw [flat_len hz, hlen] at hjl
      have hdm : j / z * z + j % z = j := by rw [Nat.mul_comm]; exact Nat.div_add_mod j z
      have hi : j / z < len := (Nat.div_lt_iff_lt_mul hz0).2 hjl
      have hk : j % z < z := Nat.mod_lt _ hz0
      have hf := flat_at hz ((List.range len).map A) (j / z) (j % z) (by rw [hlen]; exact hi) hk
      rw [hdm, hj] at hf
      have hcj := hA (j / z) (by omega) (j % z) hk
      rw [hdm] at hcj
      rw [show (⟨b, off, none⟩ : Addr).add j = ⟨b, off + j, none⟩ from by simp [Addr.add]] at hcj
      rw [hcj, hf]
      simp
set_option maxRecDepth 100000 in
theorem job_open {n : Nat} {cs : List Value} {y : DataW H × List MemPlace} (h : DataW.trod enc Try.prog W base (fun _ => true) held n 56 cs = some y) (hl : cs.length = 4) : ∃ j, cs = encJ j := by
  obtain ⟨y0, y1, y2, y3, m, _, _, h0, h1, h2, h3⟩ := Joins.trod_struct4 Try.underlying56 h
  match cs, hl with
  | [a, b, c, d], _ =>
    have e3 : Try.prog.cellsOf 3 = 1 := by kernel_rfl
    simp [e3] at h0 h1 h2 h3
    obtain ⟨f, rfl⟩ := int_cell h0
    obtain ⟨t, rfl⟩ := int_cell h1
    obtain ⟨l, rfl⟩ := int_cell h2
    obtain ⟨p, rfl⟩ := int_cell h3
    exact ⟨⟨f, t, l, p⟩, rfl⟩
set_option maxRecDepth 100000 in
theorem order_open {n : Nat} {cs : List Value} {y : DataW H × List MemPlace} (h : DataW.trod enc Try.prog W base (fun _ => true) held n 78 cs = some y) (hl : cs.length = 2) : ∃ o, cs = encO o := by
  obtain ⟨y0, y1, m, _, _, h0, h1⟩ := trod_struct2 Try.underlying78 h
  match cs, hl with
  | [a, b], _ =>
    have e3 : Try.prog.cellsOf 3 = 1 := by kernel_rfl
    simp [e3] at h0 h1
    obtain ⟨f, rfl⟩ := int_cell h0
    obtain ⟨t, rfl⟩ := int_cell h1
    exact ⟨(f, t), rfl⟩
set_option maxRecDepth 100000 in
theorem ints_open {r : Reach} {b0 : Nat} {v : Value} {d : DataW H} {p : List MemPlace} (hv : Value.okWide Try.prog W r b0 26 v) (h : DataW.Trod enc Try.prog W base (fun _ => true) held 26 v d p) : ∃ xs, InRow W v xs := by
  obtain ⟨a, len, cap, rfl⟩ := okWide_slice Try.underlying26 hv
  obtain ⟨fuel, hf⟩ := h
  exact inrow_open (fuel := fuel) (x := (d, p)) (by simpa [Value.cells] using hf)

set_option maxRecDepth 100000 in
theorem shaft_open {r : Reach} {b0 : Nat} {v : Value} {d : DataW H} {p : List MemPlace} (hv : Value.okWide Try.prog W r b0 25 v) (h : DataW.Trod enc Try.prog W base (fun _ => true) held 25 v d p) : ∃ P js os, InSh W v P js os := by
  obtain ⟨v0, v1, v2, y0, y1, y2, n, rfl, _, _, h0, h1, h2⟩ := Joins.open_agg3 Try.underlying25 (by kernel_rfl) (by kernel_rfl) hv h
  obtain ⟨P, rfl⟩ := int_cell h0
  obtain ⟨js, hj, hjm⟩ := flat_open (encA := encJ) ⟨J0⟩ encJ_len (by decide) Try.underlying22 (by kernel_rfl) (fun _ _ _ h hl => job_open h hl) h1
  obtain ⟨os, ho, hom⟩ := flat_open (encA := encO) ⟨(0, 0)⟩ encO_len (by decide) Try.underlying23 (by kernel_rfl) (fun _ _ _ h hl => order_open h hl) h2
  exact ⟨P, js, os, v1, v2, rfl, hj, ho, hjm, hom⟩
end
end Go.Proofs.Ytjkbhdlbomcbeaa
