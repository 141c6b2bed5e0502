import Derived.Test.YtpcjigdmfchbdaaDoorRows
import Derived.Test.YtpcjigdmfchbdaaDoorZg
import Derived.Lay
import Derived.MakeChecks
import Derived.Stop.LaidErr
import Derived.Lib.LaidTab
import Derived.ProofKit
import Derived.OpenShut
import Derived.ChangeOld
import Derived.Deep.Matrix
import Derived.Deep.Slices
import Derived.Lib.SmallJoins
namespace Go.Proofs.YtpcjigdmfchbdaaDoor
open Go.RowKit Go.ChangeShapes Go.WideShapes Go.ChangeAt Go.Shelf Cl

/-- What the row lists. -/
abbrev laid2 : List (String × DataW Unit) := [("math/bits.deBruijn32tab", Rows.laid_math_bits_deBruijn32tab), ("math/bits.deBruijn64tab", Rows.laid_math_bits_deBruijn64tab)]
theorem gl1 : Tryd.prog.globalNamed "math/bits.deBruijn64tab" = some 1 := by kernel_rfl
theorem ty1 : (Tryd.prog.globals[1]?).map (·.type) = some 124 := by kernel_rfl
theorem tab_eq : ∀ j, j < 64 → (Lib.deBruijn64tab.map fun n : Nat => (n : Int)).getD j 0 = ((Lib.deBruijn64tab.getD j 0 : Nat) : Int) := by decide +kernel
theorem tab_of {W : World} (h : laidMetH Tryd.prog laid2 W) : Tab W := by
  rw [MakeChecks.laidMetH_plain _ _ _ (by kernel_rfl)] at h
  have ht : Lib.TabIs Tryd.prog W "math/bits.deBruijn64tab" .u8 (Lib.deBruijn64tab.map fun n : Nat => (n : Int)) := Lib.tabIs_of_head (rest := []) gl1 ty1 Tryd.underlying124 Tryd.underlying5 (by kernel_rfl) (by kernel_rfl) h.tail
  have hc : ∀ j, j < 64 → W.cell? ⟨1, j, none⟩ = some (.int .u8 (Lib.deBruijn64tab.getD j 0)) := fun j hj => (tab_eq j hj) ▸ ht.cell gl1 j hj
  exact ⟨World.block_lt_of_cell? W _ (hc 0 (by decide)), hc⟩
/-- A world that meets the condition. -/
theorem laid_met (os : Os) (args : Array Value) : laidMetH Tryd.prog laid2 ((World.laidAll Tryd.prog os laid2).forCall (fun _ _ => 0) ⟨#[], args, []⟩).memory := by
  rw [MakeChecks.laidMetH_plain _ _ _ (by kernel_rfl)]; exact laidMet_laidAll _ (by kernel_rfl) (by kernel_rfl)

abbrev B2 : Type := { x : Nat × Nat // x.1 < 256 ∧ x.2 < 256 }
theorem flat_sub {α β : Type} (f : α → β) (enc : β → List Value) (xs : List α) : flat enc (xs.map f) = flat (fun a => enc (f a)) xs := by simp [flat, List.flatMap_map]
theorem addr_add_add (a : Addr) (i j : Nat) : (a.add i).add j = a.add (i + j) := by
  obtain ⟨b, off, spot⟩ := a
  unfold Addr.add
  by_cases hi : i = 0 <;> by_cases hj : j = 0 <;> simp [hi, hj]
  omega
section
variable {H : Type} {enc : TypeId × Value → H} {W : World} {base : Nat} {held : Bool}
/-- A slice of structs that came in. -/
theorem flat_open {α : Type} {t e : TypeId} {z : Nat} {encA : α → List Value} (hA : Inhabited α) (hz : ∀ a, (encA a).length = z) (hz0 : 0 < z) (ht : Tryd.prog.underlying t = some (.slice e)) (hc : Tryd.prog.cellsOf e = z)
    (hel : ∀ n cs y, DataW.trod enc Tryd.prog W base (fun _ => true) held n e cs = some y → cs.length = z → ∃ a, cs = encA a) {fuel : Nat} {v : Value} {x : DataW H × List MemPlace} (h : DataW.trod enc Tryd.prog W base (fun _ => true) held fuel t [v] = some x) :
    ∃ xs : List α, FlatR W z v xs.length (flat encA xs) ∧ xs.length ≤ maxLen := by
  rcases Deep.open_slice ht h with ⟨hcs, _⟩ | ⟨a, len, cap, m, n, D, Pl, hcs, _, hl, hm, hmm, _, hx⟩
  · simp only [List.cons.injEq, and_true] at hcs
    subst hcs
    exact ⟨[], ⟨by simp [flat], none, 0, rfl, Nat.le_refl _, fun _ => rfl, fun h => absurd rfl h⟩, Nat.zero_le _⟩
  · simp only [List.cons.injEq, and_true] at hcs
    subst hcs
    simp only [if_true] at hmm
    subst hmm
    rw [hc] at hx
    have hch : ∀ i, i < m → ∃ b : α, ∀ k, k < z → W.cell? (a.add (i * z + k)) = (encA b)[k]? := fun i hi => by
      obtain ⟨cs', h1, h2⟩ := hx i hi
      obtain ⟨_, hlen, hcell⟩ := World.cells?_some h1
      obtain ⟨b, rfl⟩ := hel _ _ _ h2 hlen
      refine ⟨b, fun k hk => ?_⟩
      have := hcell k hk
      rw [← this, addr_add_add]
    have hch2 : ∀ i, ∃ b : α, i < m → ∀ k, k < z → W.cell? (a.add (i * z + k)) = (encA b)[k]? := fun i => by
      by_cases hi : i < m
      · obtain ⟨b, hb⟩ := hch i hi; exact ⟨b, fun _ => hb⟩
      · exact ⟨hA.default, fun h => absurd h hi⟩
    obtain ⟨A, hA⟩ := Classical.axiomOfChoice hch2
    have hlen : ((List.range len).map A).length = len := by simp
    refine ⟨(List.range len).map A, ⟨flat_len hz _, some a, m, by rw [hlen], by rw [hlen]; exact hl, fun h => (by cases h), fun hne => ?_⟩, by rw [hlen]; omega⟩
    rw [hlen] at hne
    obtain ⟨b, off, spot⟩ := a
    have c0 := hA 0 (by omega) 0 hz0
    rw [Nat.zero_mul, Nat.zero_add] at c0
    obtain ⟨u0, hu0⟩ : ∃ u, (encA (A 0))[0]? = some u := ⟨(encA (A 0))[0]'(by rw [hz]; exact hz0), List.getElem?_eq_getElem _⟩
    rw [hu0] at c0
    have hs : spot = none := by simpa [Addr.add] using World.cell?_spot c0
    subst hs
    refine ⟨b, off, rfl, ?_, fun j u hj => ?_⟩
    · have := World.block_lt_of_cell? W _ c0
      simpa [Addr.add] using this
    · have hjl := (List.getElem?_eq_some_iff.1 hj).1
      rw [flat_len hz, hlen] at hjl
      have hdm : j / z * z + j % z = j := by rw [Nat.mul_comm]; exact Nat.div_add_mod j z
      have hi : j / z < len := (Nat.div_lt_iff_lt_mul hz0).2 hjl
      have hk : j % z < z := Nat.mod_lt _ hz0
      have hf := flat_at hz ((List.range len).map A) (j / z) (j % z) (by rw [hlen]; exact hi) hk
      rw [hdm, hj] at hf
      have hcj := hA (j / z) (by omega) (j % z) hk
      rw [hdm] at hcj
      rw [show (⟨b, off, none⟩ : Addr).add j = ⟨b, off + j, none⟩ from by simp [Addr.add]] at hcj
      rw [hcj, hf]
      simp
theorem byte_cell {n : Nat} {v : Value} {y : DataW H × List MemPlace} (h : DataW.trod enc Tryd.prog W base (fun _ => true) held n 5 [v] = some y) : ∃ k : Nat, v = .int .u8 (k : Int) ∧ k < 256 := by
  obtain ⟨n', h, _, hw⟩ := DataW.trod_int Tryd.underlying5 h
  simp only [List.cons.injEq, and_true] at h
  subst h
  have := bounds_u8 hw
  obtain ⟨x, rfl⟩ : ∃ x : Nat, n' = (x : Int) := ⟨n'.toNat, by omega⟩
  exact ⟨x, rfl, by omega⟩
set_option maxRecDepth 100000 in
theorem b2_open {n : Nat} {cs : List Value} {y : DataW H × List MemPlace} (h : DataW.trod enc Tryd.prog W base (fun _ => true) held n 92 cs = some y) (hl : cs.length = 2) : ∃ a : B2, cs = enc2 a.1 := by
  match cs, hl with
  | [a, b], _ =>
    obtain ⟨xs, m, _, _, _, hl, hi⟩ := DataW.trod_array Tryd.underlying92 h
    have hc : Tryd.prog.cellsOf 5 = 1 := by kernel_rfl
    have h0 := hi 0 (by omega)
    have h1 := hi 1 (by omega)
    rw [hc] at h0 h1
    match xs, hl with
    | [y0, y1], _ =>
      simp at h0 h1
      obtain ⟨x0, rfl, g0⟩ := byte_cell h0
      obtain ⟨x1, rfl, g1⟩ := byte_cell h1
      exact ⟨⟨(x0, x1), g0, g1⟩, rfl⟩
set_option maxRecDepth 100000 in
theorem duo_open {r : Reach} {b0 : Nat} {v : Value} {d : DataW H} {p : List MemPlace} (hv : Value.okWide Tryd.prog W r b0 60 v) (h : DataW.Trod enc Tryd.prog W base (fun _ => true) held 60 v d p) : ∃ xs, InDuo W v xs := by
  obtain ⟨a, len, cap, rfl⟩ := okWide_slice Tryd.underlying60 hv
  obtain ⟨fuel, hf⟩ := h
  obtain ⟨js, hj, hjm⟩ := flat_open (encA := fun a : B2 => enc2 a.1) ⟨⟨(0, 0), by decide⟩⟩ (fun _ => rfl) (by decide) Tryd.underlying60 (by kernel_rfl) (fun _ _ _ h hl => b2_open h hl) (by simpa [Value.cells] using hf)
  refine ⟨js.map Subtype.val, ?_, by rw [List.length_map]; exact hjm, fun x hx => ?_⟩
  · rw [List.length_map, flat_sub]; exact hj
  · obtain ⟨a, _, rfl⟩ := List.mem_map.1 hx; exact a.2
theorem int_cell {n : Nat} {v : Value} {y : DataW H × List MemPlace} (h : DataW.trod enc Tryd.prog W base (fun _ => true) held n 3 [v] = some y) : ∃ k, v = .int .i64 k := by
  obtain ⟨n', h, _, _⟩ := DataW.trod_int Tryd.underlying3 h
  simp at h
  exact ⟨n', h⟩
end
end Go.Proofs.YtpcjigdmfchbdaaDoor
