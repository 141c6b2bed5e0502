import Derived.Test.YtjkbhdlbomcbeaaXg
import Derived.Laws.StructEq
namespace Go.Proofs.Ytjkbhdlbomcbeaa
open Go.RowKit Go.Shelf Shf

theorem eq72 (a b c d e f a' b' c' d' e' f' : Int) (w : World) : (Op.equalIn 10000 72 (.agg #[.int .i64 a, .int .i64 b, .int .i64 c, .int .i64 d, .int .i64 e, .int .i64 f]) (.agg #[.int .i64 a', .int .i64 b', .int .i64 c', .int .i64 d', .int .i64 e', .int .i64 f'])).run Try.prog w = .ok (a == a' && (b == b' && (c == c' && (d == d' && (e == e' && f == f'))))) w := by
  have u3 := Try.underlying3
  have a3 := Try.isAgg3
  have z3 := Try.sizeOf3
  have hS : Try.prog.underlying 72 = some (.struct (Try.prog.fieldsOf 72)) := by kernel_rfl
  have hp : Try.prog.stoodInHeld 72 = false := by kernel_rfl
  rw [show (10000 : Nat) = 9999 + 1 from rfl, run_equalIn_agg w 9999 72 _ _ hS hp]
  simp only [Program.fieldsOf, Try.underlying72]
  go_simp
  by_cases h1 : a = a' <;> simp [h1]
  by_cases h2 : b = b' <;> simp [h2]
  by_cases h3 : c = c' <;> simp [h3]
  by_cases h4 : d = d' <;> simp [h4]
  by_cases h5 : e = e' <;> simp [h5]
  by_cases h6 : f = f' <;> simp [h6]
theorem guard72 : Try.prog.eqGuardType Try.prog.depth 72 = false := by kernel_rfl
/-- A reader in memory: what it reads from, and what it has seen. -/
structure Rd (w0 w : World) (b ge n : Nat) (P : Int) (jv ov pv : Value) (sn : Nat → Bool) : Prop where
  below : Below w0.heap.size w0 w
  hb : w0.heap.size ≤ b
  hge : w0.heap.size ≤ ge
  hbw : b < w.heap.size
  hgw : ge < w.heap.size
  hne : b ≠ ge
  c0 : w.cell? ⟨b, 0, none⟩ = some (.int .i64 P)
  c1 : w.cell? ⟨b, 1, none⟩ = some jv
  c2 : w.cell? ⟨b, 2, none⟩ = some ov
  c3 : w.cell? ⟨b, 3, none⟩ = some pv
  c4 : w.cell? ⟨b, 4, none⟩ = some (.slice (some ⟨ge, 0, none⟩) n n)
  seen : ∀ i, i < n → w.cell? ⟨ge, i, none⟩ = some (.bool (sn i))
  fg : ∀ j, w.frozen? ⟨ge, j, none⟩ = false
/-- Nodes that are read. -/
def ReadsNd (w : World) (v : Value) (ns : List Nd) : Prop := ∃ ao c, v = .slice ao ns.length c ∧ ns.length ≤ c ∧ ∀ i, i < ns.length → ∃ g, ao = some ⟨g, 0, none⟩ ∧ g < w.heap.size ∧ w.cell? ⟨g, i * 6, none⟩ = some (.int .i64 (ns.getD i N0).k) ∧ w.cell? ⟨g, i * 6 + 1, none⟩ = some (.int .i64 (ns.getD i N0).j) ∧ w.cell? ⟨g, i * 6 + 2, none⟩ = some (.int .i64 (ns.getD i N0).a) ∧
    w.cell? ⟨g, i * 6 + 3, none⟩ = some (.int .i64 (ns.getD i N0).b) ∧ w.cell? ⟨g, i * 6 + 4, none⟩ = some (.int .i64 (ns.getD i N0).l) ∧ w.cell? ⟨g, i * 6 + 5, none⟩ = some (.int .i64 (ns.getD i N0).r)
theorem OwnN.reads {w : World} {B : Nat} {v : Value} {ns : List Nd} (h : OwnN w B v ns) : ReadsNd w v ns := by
  obtain ⟨ao, c, rfl, hc, hcl⟩ := own_cells h
  refine ⟨ao, c, rfl, hc, fun i hi => ?_⟩
  obtain ⟨g, rfl, _, hg, _⟩ := hcl (by omega)
  exact ⟨g, rfl, hg, h.cells hi⟩
theorem ReadsNd.below {w w' : World} {v : Value} {ns : List Nd} (h : ReadsNd w v ns) (hb : Below w.heap.size w w') : ReadsNd w' v ns := by
  obtain ⟨ao, c, rfl, hc, h⟩ := h
  refine ⟨ao, c, rfl, hc, fun i hi => ?_⟩
  obtain ⟨g, rfl, hg, h0, h1, h2, h3, h4, h5⟩ := h i hi
  exact ⟨g, rfl, Nat.lt_of_lt_of_le hg hb.size, (hb.cell (p := ⟨g, i * 6, none⟩) hg).trans h0, (hb.cell (p := ⟨g, i * 6 + 1, none⟩) hg).trans h1, (hb.cell (p := ⟨g, i * 6 + 2, none⟩) hg).trans h2, (hb.cell (p := ⟨g, i * 6 + 3, none⟩) hg).trans h3, (hb.cell (p := ⟨g, i * 6 + 4, none⟩) hg).trans h4, (hb.cell (p := ⟨g, i * 6 + 5, none⟩) hg).trans h5⟩
set_option maxHeartbeats 4000000 in
set_option maxRecDepth 100000 in
/-- A node that tells of an order is read. -/
theorem nodeLate71 {w0 w : World} {b ge k i m oc : Nat} {oa : Option Addr} {P : Int} {jv pv : Value} {sn : Nat → Bool} {ns : List Nd} (hR : Rd w0 w b ge ns.length P jv (.slice oa m oc) pv sn) (hp : ReadsNd w0 pv ns) (hi : i < ns.length) (hsn : sn i = false) (hnd : ns.getD i N0 = ⟨3, k, 0, 0, 0, 0⟩) (hk : k < m) :
    Calls Try.prog 71 #[.pointer (some ⟨b, 0, none⟩), .int .i64 i] w fun e w' => e = .returned (.iface 126 (.agg #[.int .i64 k])) ∧ Below w0.heap.size w0 w' := by
  obtain ⟨pa, pc, rfl, hpc, hpat⟩ := hp
  obtain ⟨g, rfl, hg, n0, n1, n2, n3, n4, n5⟩ := hpat i hi
  rw [hnd] at n0 n1 n2 n3 n4 n5
  simp only at n0 n1 n2 n3 n4 n5
  have p0 := (hR.below.cell (p := ⟨g, i * 6, none⟩) hg).trans n0
  have p1 := (hR.below.cell (p := ⟨g, i * 6 + 1, none⟩) hg).trans n1
  have p2 := (hR.below.cell (p := ⟨g, i * 6 + 2, none⟩) hg).trans n2
  have p3 := (hR.below.cell (p := ⟨g, i * 6 + 3, none⟩) hg).trans n3
  have p4 := (hR.below.cell (p := ⟨g, i * 6 + 4, none⟩) hg).trans n4
  have p5 := (hR.below.cell (p := ⟨g, i * 6 + 5, none⟩) hg).trans n5
  have hgg : g ≠ ge := by have := hR.hge; omega
  obtain ⟨n, hn⟩ : ∃ n, n = ns.length := ⟨_, rfl⟩
  rw [← hn] at hR hi hpc
  have c3 := hR.c3
  have c4 := hR.c4
  have s0 := hR.seen i hi
  rw [hsn] at s0
  have f0 := hR.fg i
  have hR' := Lib.hid hR
  have hin : (i : Int) < (n : Int) := by omega
  have e1 := fun w : World => eq72 3 k 0 0 0 0 1 k 0 0 0 0 w
  have e2 := fun w : World => eq72 3 k 0 0 0 0 2 0 0 0 0 0 w
  have e3 := fun w : World => eq72 3 k 0 0 0 0 3 k 0 0 0 0 w
  simp at e1 e2 e3
  have hgd := guard72
  have hS : ∀ b' o', b' ≠ ge → (w.setCell ⟨ge, i, none⟩ (.bool true)).cell? ⟨b', o', none⟩ = w.cell? ⟨b', o', none⟩ := fun b' o' h => World.cell?_setCell_other _ _ _ _ (by simp <;> omega)
  have hbne := hR.hne
  have x2 := (hS b 2 hbne).trans hR.c2
  have x3 := (hS b 3 hbne).trans c3
  have y0 := (hS g _ hgg).trans p0
  have y1 := (hS g _ hgg).trans p1
  have y2 := (hS g _ hgg).trans p2
  have y3 := (hS g _ hgg).trans p3
  have y4 := (hS g _ hgg).trans p4
  have y5 := (hS g _ hgg).trans p5
  have hd1 : decide (n ≤ i) = false := by simp; omega
  have hbs := Lib.hid (show b < (w.setCell ⟨ge, i, none⟩ (.bool true)).heap.size by simpa using hR.hbw)
  have z2 := ((below_alloc1 (w.setCell ⟨ge, i, none⟩ (.bool true)) (.cells #[.int .i64 3, .int .i64 k, .int .i64 0, .int .i64 0, .int .i64 0, .int .i64 0] 72)).cell (p := ⟨b, 2, none⟩) hbs.out).trans x2
  have hbE := Lib.hid (show Below w0.heap.size w0 ((w.setCell ⟨ge, i, none⟩ (.bool true)).alloc (.cells #[.int .i64 3, .int .i64 k, .int .i64 0, .int .i64 0, .int .i64 0, .int .i64 0] 72)) from (below_set hR.below hR.hge).alloc (by simpa using hR.below.size) _)
  have hkm : (k : Int) < (m : Int) := by omega
  have hk0 : decide ((k : Int) ≥ 0) = true := by simp
  clear hR hpat hn hnd n0 n1 n2 n3 n4 n5 hS hgg hbne p0 p1 p2 p3 p4 p5
  go_enter Try.func71, Try.ntmps71
  go_wp2_with fail
  have hkm2 : (k : Int) < (m : Int) := by omega
  have hk02 : decide ((k : Int) ≥ 0) = true := by simp
  go_quiet (fail)
  go_wp2_with fail
  go_ret
  exact ⟨rfl, below_drewN hbE.out _⟩
end Go.Proofs.Ytjkbhdlbomcbeaa
