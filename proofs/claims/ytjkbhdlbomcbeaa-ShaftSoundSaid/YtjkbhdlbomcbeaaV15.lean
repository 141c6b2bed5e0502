import Derived.Test.YtjkbhdlbomcbeaaV9
import Derived.Test.YtjkbhdlbomcbeaaV14
import Derived.Test.YtjkbhdlbomcbeaaV13
namespace Go.Proofs.Ytjkbhdlbomcbeaa
open Go.RowKit Go.Shelf Shf

@[local go_sem] theorem as126_121x (v : Value) (w : World) : (Instr.typeAssert (.iface 126 v) 98 121 true).run Try.prog w = .ok (.tuple #[.agg #[.int .i64 0, .int .i64 0, .nilIface, .nilIface], .bool false]) w := by kernel_rfl
@[local go_sem] theorem as126_124x (v : Value) (w : World) : (Instr.typeAssert (.iface 126 v) 98 124 true).run Try.prog w = .ok (.tuple #[.agg #[.int .i64 0, .int .i64 0], .bool false]) w := by kernel_rfl
@[local go_sem] theorem as126_126x (v : Value) (w : World) : (Instr.typeAssert (.iface 126 v) 98 126 true).run Try.prog w = .ok (.tuple #[v, .bool true]) w := by kernel_rfl
@[local go_sem] theorem as124_121x (v : Value) (w : World) : (Instr.typeAssert (.iface 124 v) 98 121 true).run Try.prog w = .ok (.tuple #[.agg #[.int .i64 0, .int .i64 0, .nilIface, .nilIface], .bool false]) w := by kernel_rfl
@[local go_sem] theorem as124_124x (v : Value) (w : World) : (Instr.typeAssert (.iface 124 v) 98 124 true).run Try.prog w = .ok (.tuple #[v, .bool true]) w := by kernel_rfl
@[local go_sem] theorem as121_121x (v : Value) (w : World) : (Instr.typeAssert (.iface 121 v) 98 121 true).run Try.prog w = .ok (.tuple #[v, .bool true]) w := by kernel_rfl
set_option maxHeartbeats 4000000 in
set_option maxRecDepth 100000 in
theorem addL51 {w : World} {lb B : Nat} {k : Int} {v : Value} {ns : List Nd} (hlb : lb < B) (hB : B ≤ w.heap.size) (hc : w.cell? ⟨lb, 0, none⟩ = some v) (hf : w.frozen? ⟨lb, 0, none⟩ = false) (hown : OwnN w B v ns) (hlen : ns.length ≤ 100000) :
    Calls Try.prog 51 #[.pointer (some ⟨lb, 0, none⟩), .iface 126 (.agg #[.int .i64 k])] w (AddEnd w lb B v ns (ns ++ [⟨3, k, 0, 0, 0, 0⟩])) := by
  obtain ⟨i0, hi, hz0, hz1, hz2⟩ := info_parts info72
  have hown' := Lib.hid hown
  obtain ⟨va, vc, rfl, -⟩ := own_cells hown
  obtain ⟨n, hn⟩ : ∃ n, n = ns.length := ⟨_, rfl⟩
  rw [← hn] at hown' hc hlen ⊢
  have hn' := Lib.hid hn
  have hlbw := Lib.hid (Nat.lt_of_lt_of_le hlb hB)
  have hlb' := Lib.hid hlb
  have hB' := Lib.hid hB
  have hf' := Lib.hid hf
  clear hown hn hlb hB hf
  go_enter Try.func51, Try.ntmps51
  go_wp2_with (
    at_builtin; refine app_nd_at hown'.out (by rw [← hn'.out]; omega) hB'.out rfl _ _ rfl rfl rfl ?_; intro v1 w1 hO1 hb1 hk1 ho1 hs1
    have hO1' := Lib.hid hO1
    have hb1' := Lib.hid hb1
    have hk1' := Lib.hid hk1
    have ho1' := Lib.hid ho1
    have hs1' := Lib.hid hs1
    have hc1 := (hb1.cell (p := ⟨lb, 0, none⟩) hlb'.out).trans hc
    have hf1 := (hb1.frozen (p := ⟨lb, 0, none⟩) hlb'.out).trans hf'.out
    obtain ⟨g1, c1, rfl, hg1⟩ : ∃ g c, v1 = .slice (some ⟨g, 0, none⟩) (n + 1) c ∧ n + 1 ≤ c ∧ B ≤ g := by
      obtain ⟨ao, c, e, hc, h⟩ := own_cells hO1
      rw [List.length_append, ← hn'.out] at e hc h
      obtain ⟨g, rfl, hB, _⟩ := h (by simp)
      exact ⟨g, c, e, hc, hB⟩
    have hg1' := Lib.hid hg1
    clear hO1 hb1 hk1 ho1 hs1 hg1)
  obtain ⟨W, hW⟩ : ∃ W, W = ((w1.setCell ⟨lb, 0, none⟩ (.slice (some ⟨g1, 0, none⟩) (n + 1) c1)).alloc (.cells #[.int .i64 3, .int .i64 k, .int .i64 0, .int .i64 0, .int .i64 0, .int .i64 0] 72)).alloc (.cells #[.int .i64 k] 126) := ⟨_, rfl⟩
  have hsz1 : (w1.setCell ⟨lb, 0, none⟩ (.slice (some ⟨g1, 0, none⟩) (n + 1) c1)).heap.size = w1.heap.size := by simp
  have hlw1 : lb < w1.heap.size := Nat.lt_of_lt_of_le hlbw.out hs1'.out
  have hWb := Lib.hid (show Below w1.heap.size (w1.setCell ⟨lb, 0, none⟩ (.slice (some ⟨g1, 0, none⟩) (n + 1) c1)) W by rw [hW]; exact (Below.alloc (Below.refl _ _) (by rw [hsz1]; exact Nat.le_refl _) _).alloc (by rw [World.size_alloc, hsz1]; omega) _)
  have q0 : W.cell? ⟨lb, 0, none⟩ = some (.slice (some ⟨g1, 0, none⟩) (n + 1) c1) := (hWb.out.cell (p := ⟨lb, 0, none⟩) hlw1).trans (World.cell?_setCell_same' _ _ _ (by rw [hc1]; rfl))
  have hfl := Lib.hid ((hWb.out.frozen (p := ⟨lb, 0, none⟩) hlw1).trans (by simpa using hf1))
  have hnc : ∀ j, W.cell? ⟨w1.heap.size, j, none⟩ = (#[.int .i64 3, .int .i64 k, .int .i64 0, .int .i64 0, .int .i64 0, .int .i64 0] : Array Value)[j]? := fun j => by
    rw [hW, (below_alloc1 _ _).cell (p := ⟨w1.heap.size, j, none⟩) (by rw [World.size_alloc, hsz1]; exact Nat.lt_succ_self _), ← hsz1, World.cell?_alloc_at (hn := rfl)]
  have m0 := hnc 0
  have m1 := hnc 1
  have m2 := hnc 2
  have m3 := hnc 3
  have m4 := hnc 4
  have m5 := hnc 5
  have hO0 : OwnN (w1.setCell ⟨lb, 0, none⟩ (.slice (some ⟨g1, 0, none⟩) (n + 1) c1)) B (.slice (some ⟨g1, 0, none⟩) (n + 1) c1) (ns ++ [N0]) := ownsRow_setCell_below hO1'.out (by show lb < B; exact hlb'.out) _
  have hO : OwnN W B (.slice (some ⟨g1, 0, none⟩) (n + 1) c1) (ns ++ [N0]) := own_below hO0 (by rw [hsz1]; exact hWb.out)
  have hgw : g1 < w1.heap.size := (World.ownsRow.lt hO1'.out g1 rfl).2
  have fz := fun j => OwnN.frozenAt hO j
  have hpc := OwnN.cells hO (i := n) (by rw [List.length_append, ← hn'.out]; exact Nat.lt_succ_self _)
  rw [show (ns ++ [N0]).getD n N0 = N0 by rw [List.getD_eq_getElem?_getD, List.getElem?_append_right (by rw [← hn'.out]; exact Nat.le_refl _), ← hn'.out, Nat.sub_self]; rfl] at hpc
  obtain ⟨p0, p1, p2, p3, p4, p5⟩ := hpc
  simp only [N0] at p0 p1 p2 p3 p4 p5
  have z0 := fz (n * 6)
  have z1 := fz (n * 6 + 1)
  have z2 := fz (n * 6 + 2)
  have z3 := fz (n * 6 + 3)
  have z4 := fz (n * 6 + 4)
  have z5 := fz (n * 6 + 5)
  have hO' := Lib.hid hO
  simp only [List.getElem?_toArray, List.getElem?_cons_zero, List.getElem?_cons_succ] at m0 m1 m2 m3 m4 m5
  rw [← hW]
  have hgw' := Lib.hid hgw
  have hlw' := Lib.hid hlw1
  have hsz1' := Lib.hid hsz1
  clear hW hnc hO0 hO fz hc1 hf1 hgw hlw1 hsz1
  refine wp_region_still_tail 6 (by kernel_rfl) (by kernel_rfl) ?_
  simp only [List.take_succ_cons, List.take_zero, List.drop_succ_cons, List.drop_zero]
  have hnI : (n : Int) < (n : Int) + 1 := by omega
  iterate 6 still_step
  refine wpStill_nil ?_
  go_wp2_with fail
  go_ret
  have hlg : lb ≠ g1 := by have := hlb'.out; have := hg1'.out; omega
  have hgl : lb ≤ g1 := by have := hlb'.out; have := hg1'.out; omega
  have hlen2 := hn'.out
  have key : ∀ X, X = six W g1 (n * 6) ⟨3, k, 0, 0, 0, 0⟩ → AddEnd w lb B (.slice va n vc) ns (ns ++ [⟨3, k, 0, 0, 0, 0⟩]) (.returned (.int .i64 n)) X.drew := by
    intro X hX
    refine ⟨by rw [hlen2], ?_, .slice (some ⟨g1, 0, none⟩) (n + 1) c1, ?_, ?_, ?_, fun g hg hne hv => ?_, ho1'.out⟩
    · have h1 : Below lb w w1 := hb1'.out.mono (Nat.le_of_lt hlb'.out)
      have h2 : Below lb w (w1.setCell ⟨lb, 0, none⟩ (.slice (some ⟨g1, 0, none⟩) (n + 1) c1)) := below_set h1 (Nat.le_refl _)
      rw [hX]
      exact (six_below (o := n * 6) (m := ⟨3, k, 0, 0, 0, 0⟩) (h2.trans (hWb.out.mono (Nat.le_of_lt hlw'.out))) hgl).drew
    · show X.cell? ⟨lb, 0, none⟩ = _
      rw [hX]
      exact (six_other hlg).trans q0
    · show X.frozen? ⟨lb, 0, none⟩ = _
      rw [hX]
      exact six_frozen.trans hfl.out
    · have h := OwnN.six (m' := ⟨3, k, 0, 0, 0, 0⟩) hO'.out
      rw [← hlen2, ← hX] at h
      exact h
    · have hgg : g ≠ g1 := by
        rintro rfl
        rcases ho1'.out g rfl with h | h
        · exact hv h
        · omega
      have hsz := hs1'.out
      show X.heap[g]? = _
      rw [hX, six_heap hgg, hWb.out.block g (by omega), Below.heap_setCell w1 ⟨lb, 0, none⟩ _ g hne]
      exact hk1'.out g hg hv
  exact key _ rfl
set_option maxHeartbeats 4000000 in
set_option maxRecDepth 100000 in
theorem addE51 {w : World} {lb B : Nat} {a b : Int} {v : Value} {ns : List Nd} (hlb : lb < B) (hB : B ≤ w.heap.size) (hc : w.cell? ⟨lb, 0, none⟩ = some v) (hf : w.frozen? ⟨lb, 0, none⟩ = false) (hown : OwnN w B v ns) (hlen : ns.length ≤ 100000) :
    Calls Try.prog 51 #[.pointer (some ⟨lb, 0, none⟩), .iface 124 (.agg #[.int .i64 a, .int .i64 b])] w (AddEnd w lb B v ns (ns ++ [⟨2, 0, a, b, 0, 0⟩])) := by
  obtain ⟨i0, hi, hz0, hz1, hz2⟩ := info_parts info72
  have hown' := Lib.hid hown
  obtain ⟨va, vc, rfl, -⟩ := own_cells hown
  obtain ⟨n, hn⟩ : ∃ n, n = ns.length := ⟨_, rfl⟩
  rw [← hn] at hown' hc hlen ⊢
  have hn' := Lib.hid hn
  have hlbw := Lib.hid (Nat.lt_of_lt_of_le hlb hB)
  have hlb' := Lib.hid hlb
  have hB' := Lib.hid hB
  have hf' := Lib.hid hf
  clear hown hn hlb hB hf
  go_enter Try.func51, Try.ntmps51
  go_wp2_with (
    at_builtin; refine app_nd_at hown'.out (by rw [← hn'.out]; omega) hB'.out rfl _ _ rfl rfl rfl ?_; intro v1 w1 hO1 hb1 hk1 ho1 hs1
    have hO1' := Lib.hid hO1
    have hb1' := Lib.hid hb1
    have hk1' := Lib.hid hk1
    have ho1' := Lib.hid ho1
    have hs1' := Lib.hid hs1
    have hc1 := (hb1.cell (p := ⟨lb, 0, none⟩) hlb'.out).trans hc
    have hf1 := (hb1.frozen (p := ⟨lb, 0, none⟩) hlb'.out).trans hf'.out
    obtain ⟨g1, c1, rfl, hg1⟩ : ∃ g c, v1 = .slice (some ⟨g, 0, none⟩) (n + 1) c ∧ n + 1 ≤ c ∧ B ≤ g := by
      obtain ⟨ao, c, e, hc, h⟩ := own_cells hO1
      rw [List.length_append, ← hn'.out] at e hc h
      obtain ⟨g, rfl, hB, _⟩ := h (by simp)
      exact ⟨g, c, e, hc, hB⟩
    have hg1' := Lib.hid hg1
    clear hO1 hb1 hk1 ho1 hs1 hg1)
  obtain ⟨W, hW⟩ : ∃ W, W = ((w1.setCell ⟨lb, 0, none⟩ (.slice (some ⟨g1, 0, none⟩) (n + 1) c1)).alloc (.cells #[.int .i64 2, .int .i64 0, .int .i64 a, .int .i64 b, .int .i64 0, .int .i64 0] 72)).alloc (.cells #[.int .i64 a, .int .i64 b] 124) := ⟨_, rfl⟩
  have hsz1 : (w1.setCell ⟨lb, 0, none⟩ (.slice (some ⟨g1, 0, none⟩) (n + 1) c1)).heap.size = w1.heap.size := by simp
  have hlw1 : lb < w1.heap.size := Nat.lt_of_lt_of_le hlbw.out hs1'.out
  have hWb := Lib.hid (show Below w1.heap.size (w1.setCell ⟨lb, 0, none⟩ (.slice (some ⟨g1, 0, none⟩) (n + 1) c1)) W by rw [hW]; exact (Below.alloc (Below.refl _ _) (by rw [hsz1]; exact Nat.le_refl _) _).alloc (by rw [World.size_alloc, hsz1]; omega) _)
  have q0 : W.cell? ⟨lb, 0, none⟩ = some (.slice (some ⟨g1, 0, none⟩) (n + 1) c1) := (hWb.out.cell (p := ⟨lb, 0, none⟩) hlw1).trans (World.cell?_setCell_same' _ _ _ (by rw [hc1]; rfl))
  have hfl := Lib.hid ((hWb.out.frozen (p := ⟨lb, 0, none⟩) hlw1).trans (by simpa using hf1))
  have hnc : ∀ j, W.cell? ⟨w1.heap.size, j, none⟩ = (#[.int .i64 2, .int .i64 0, .int .i64 a, .int .i64 b, .int .i64 0, .int .i64 0] : Array Value)[j]? := fun j => by
    rw [hW, (below_alloc1 _ _).cell (p := ⟨w1.heap.size, j, none⟩) (by rw [World.size_alloc, hsz1]; exact Nat.lt_succ_self _), ← hsz1, World.cell?_alloc_at (hn := rfl)]
  have m0 := hnc 0
  have m1 := hnc 1
  have m2 := hnc 2
  have m3 := hnc 3
  have m4 := hnc 4
  have m5 := hnc 5
  have hO0 : OwnN (w1.setCell ⟨lb, 0, none⟩ (.slice (some ⟨g1, 0, none⟩) (n + 1) c1)) B (.slice (some ⟨g1, 0, none⟩) (n + 1) c1) (ns ++ [N0]) := ownsRow_setCell_below hO1'.out (by show lb < B; exact hlb'.out) _
  have hO : OwnN W B (.slice (some ⟨g1, 0, none⟩) (n + 1) c1) (ns ++ [N0]) := own_below hO0 (by rw [hsz1]; exact hWb.out)
  have hgw : g1 < w1.heap.size := (World.ownsRow.lt hO1'.out g1 rfl).2
  have fz := fun j => OwnN.frozenAt hO j
  have hpc := OwnN.cells hO (i := n) (by rw [List.length_append, ← hn'.out]; exact Nat.lt_succ_self _)
  rw [show (ns ++ [N0]).getD n N0 = N0 by rw [List.getD_eq_getElem?_getD, List.getElem?_append_right (by rw [← hn'.out]; exact Nat.le_refl _), ← hn'.out, Nat.sub_self]; rfl] at hpc
  obtain ⟨p0, p1, p2, p3, p4, p5⟩ := hpc
  simp only [N0] at p0 p1 p2 p3 p4 p5
  have z0 := fz (n * 6)
  have z1 := fz (n * 6 + 1)
  have z2 := fz (n * 6 + 2)
  have z3 := fz (n * 6 + 3)
  have z4 := fz (n * 6 + 4)
  have z5 := fz (n * 6 + 5)
  have hO' := Lib.hid hO
  simp only [List.getElem?_toArray, List.getElem?_cons_zero, List.getElem?_cons_succ] at m0 m1 m2 m3 m4 m5
  rw [← hW]
  have hgw' := Lib.hid hgw
  have hlw' := Lib.hid hlw1
  have hsz1' := Lib.hid hsz1
  clear hW hnc hO0 hO fz hc1 hf1 hgw hlw1 hsz1
  refine wp_region_still_tail 6 (by kernel_rfl) (by kernel_rfl) ?_
  simp only [List.take_succ_cons, List.take_zero, List.drop_succ_cons, List.drop_zero]
  have hnI : (n : Int) < (n : Int) + 1 := by omega
  iterate 6 still_step
  refine wpStill_nil ?_
  go_wp2_with fail
  go_ret
  have hlg : lb ≠ g1 := by have := hlb'.out; have := hg1'.out; omega
  have hgl : lb ≤ g1 := by have := hlb'.out; have := hg1'.out; omega
  have hlen2 := hn'.out
  have key : ∀ X, X = six W g1 (n * 6) ⟨2, 0, a, b, 0, 0⟩ → AddEnd w lb B (.slice va n vc) ns (ns ++ [⟨2, 0, a, b, 0, 0⟩]) (.returned (.int .i64 n)) X.drew := by
    intro X hX
    refine ⟨by rw [hlen2], ?_, .slice (some ⟨g1, 0, none⟩) (n + 1) c1, ?_, ?_, ?_, fun g hg hne hv => ?_, ho1'.out⟩
    · have h1 : Below lb w w1 := hb1'.out.mono (Nat.le_of_lt hlb'.out)
      have h2 : Below lb w (w1.setCell ⟨lb, 0, none⟩ (.slice (some ⟨g1, 0, none⟩) (n + 1) c1)) := below_set h1 (Nat.le_refl _)
      rw [hX]
      exact (six_below (o := n * 6) (m := ⟨2, 0, a, b, 0, 0⟩) (h2.trans (hWb.out.mono (Nat.le_of_lt hlw'.out))) hgl).drew
    · show X.cell? ⟨lb, 0, none⟩ = _
      rw [hX]
      exact (six_other hlg).trans q0
    · show X.frozen? ⟨lb, 0, none⟩ = _
      rw [hX]
      exact six_frozen.trans hfl.out
    · have h := OwnN.six (m' := ⟨2, 0, a, b, 0, 0⟩) hO'.out
      rw [← hlen2, ← hX] at h
      exact h
    · have hgg : g ≠ g1 := by
        rintro rfl
        rcases ho1'.out g rfl with h | h
        · exact hv h
        · omega
      have hsz := hs1'.out
      show X.heap[g]? = _
      rw [hX, six_heap hgg, hWb.out.block g (by omega), Below.heap_setCell w1 ⟨lb, 0, none⟩ _ g hne]
      exact hk1'.out g hg hv
  exact key _ rfl
theorem own_far {w : World} {B e z n g g' k c : Nat} {xs : List Value} {u : Value} (h : w.ownsRow B e z (.slice (some ⟨g', 0, none⟩) n c) n xs) (hne : g' ≠ g) : (w.setCell ⟨g, k, none⟩ u).ownsRow B e z (.slice (some ⟨g', 0, none⟩) n c) n xs := by
  refine ⟨h.1, ?_⟩
  rcases h.2 with ⟨e1, h0⟩ | ⟨g2, cap, cur, e2, hB, hg, r⟩
  · cases e1
  · refine .inr ⟨g2, cap, cur, e2, hB, ?_, r⟩
    have : g2 = g' := by injection e2 with e2; injection e2 with e2; injection e2 with e2 _; exact e2.symm
    subst this
    rw [Below.heap_setCell w ⟨g, k, none⟩ u g2 hne]; exact hg
/-- A node among others is written. -/
theorem own_sixAt {W : World} {B g n c : Nat} {ms : List Nd} {m' : Nd} (h : OwnN W B (.slice (some ⟨g, 0, none⟩) n c) ms) {i : Nat} (hi : i < ms.length) : OwnN (six W g (i * 6) m') B (.slice (some ⟨g, 0, none⟩) n c) (ms.set i m') := by
  unfold OwnN at h ⊢
  obtain ⟨_, _, e, _⟩ := own_cells h
  obtain rfl : n = ms.length := by injection e
  have h1 := (h.stored (i * 6) (.int .i64 m'.k)).1
  have h2 := (h1.stored (i * 6 + 1) (.int .i64 m'.j)).1
  have h3 := (h2.stored (i * 6 + 2) (.int .i64 m'.a)).1
  have h4 := (h3.stored (i * 6 + 3) (.int .i64 m'.b)).1
  have h5 := (h4.stored (i * 6 + 4) (.int .i64 m'.l)).1
  have h6 := (h5.stored (i * 6 + 5) (.int .i64 m'.r)).1
  obtain ⟨⟨k, j, a, b, l, r⟩, hm⟩ : ∃ m, m = ms[i] := ⟨_, rfl⟩
  have hget : ∀ y, ms[i]? = some y → y = ⟨k, j, a, b, l, r⟩ := fun y hy => by rw [List.getElem?_eq_getElem hi] at hy; cases hy; exact hm.symm
  have hs : ∀ (y z : Nd), ((ms.set i y))[i]? = some z → z = y := fun y z hz => by rw [List.getElem?_set_self hi] at hz; cases hz; rfl
  have hl : ∀ y, i < (ms.set i y).length := fun y => by rw [List.length_set]; exact hi
  have f1 := flat_set encN_len ms i 0 ⟨m'.k, j, a, b, l, r⟩ (.int .i64 m'.k) hi (by omega) (fun y hy => by rw [hget y hy]; rfl)
  have f2 := flat_set encN_len (ms.set i ⟨m'.k, j, a, b, l, r⟩) i 1 ⟨m'.k, m'.j, a, b, l, r⟩ (.int .i64 m'.j) (hl _) (by omega) (fun y hy => by rw [hs _ y hy]; rfl)
  have f3 := flat_set encN_len (ms.set i ⟨m'.k, m'.j, a, b, l, r⟩) i 2 ⟨m'.k, m'.j, m'.a, b, l, r⟩ (.int .i64 m'.a) (hl _) (by omega) (fun y hy => by rw [hs _ y hy]; rfl)
  have f4 := flat_set encN_len (ms.set i ⟨m'.k, m'.j, m'.a, b, l, r⟩) i 3 ⟨m'.k, m'.j, m'.a, m'.b, l, r⟩ (.int .i64 m'.b) (hl _) (by omega) (fun y hy => by rw [hs _ y hy]; rfl)
  have f5 := flat_set encN_len (ms.set i ⟨m'.k, m'.j, m'.a, m'.b, l, r⟩) i 4 ⟨m'.k, m'.j, m'.a, m'.b, m'.l, r⟩ (.int .i64 m'.l) (hl _) (by omega) (fun y hy => by rw [hs _ y hy]; rfl)
  have f6 := flat_set encN_len (ms.set i ⟨m'.k, m'.j, m'.a, m'.b, m'.l, r⟩) i 5 ⟨m'.k, m'.j, m'.a, m'.b, m'.l, m'.r⟩ (.int .i64 m'.r) (hl _) (by omega) (fun y hy => by rw [hs _ y hy]; rfl)
  rw [List.set_set] at f2 f3 f4 f5 f6
  rw [Nat.add_zero] at f1
  rw [f1, f2, f3, f4, f5, f6] at h6
  rw [List.length_set]
  exact h6
set_option maxHeartbeats 4000000 in
set_option maxRecDepth 100000 in
theorem addS51 {w : World} {lb B ln : Nat} {j a : Int} {lt rt : TypeId} {la ra v : Value} {ns L R : List Nd} (hlb : lb < B) (hB : B ≤ w.heap.size) (hc : w.cell? ⟨lb, 0, none⟩ = some v) (hf : w.frozen? ⟨lb, 0, none⟩ = false) (hown : OwnN w B v ns) (hlen : ns.length ≤ 100000) (hL : L.length = ln)
    (hl : ∀ (W : World) (u : Value) (ms : List Nd), B ≤ W.heap.size → W.cell? ⟨lb, 0, none⟩ = some u → W.frozen? ⟨lb, 0, none⟩ = false → OwnN W B u ms → ms.length = ns.length + 1 → Calls Try.prog 51 #[.pointer (some ⟨lb, 0, none⟩), .iface lt la] W (AddEnd W lb B u ms (ms ++ L)))
    (hr : ∀ (W : World) (u : Value) (ms : List Nd), B ≤ W.heap.size → W.cell? ⟨lb, 0, none⟩ = some u → W.frozen? ⟨lb, 0, none⟩ = false → OwnN W B u ms → ms.length = ns.length + 1 + ln → Calls Try.prog 51 #[.pointer (some ⟨lb, 0, none⟩), .iface rt ra] W (AddEnd W lb B u ms (ms ++ R))) :
    Calls Try.prog 51 #[.pointer (some ⟨lb, 0, none⟩), .iface 121 (.agg #[.int .i64 j, .int .i64 a, .iface lt la, .iface rt ra])] w (AddEnd w lb B v ns (ns ++ (⟨1, j, a, 0, (ns.length : Int) + 1, (ns.length : Int) + 1 + ln⟩ :: (L ++ R)))) := by
  obtain ⟨i0, hi, hz0, hz1, hz2⟩ := info_parts info72
  have hown' := Lib.hid hown
  have hl' := Lib.hid hl
  have hr' := Lib.hid hr
  clear hl hr
  obtain ⟨va, vc, rfl, -⟩ := own_cells hown
  obtain ⟨n, hn⟩ : ∃ n, n = ns.length := ⟨_, rfl⟩
  rw [← hn] at hown' hc hlen ⊢
  have hn' := Lib.hid hn
  have hlbw := Lib.hid (Nat.lt_of_lt_of_le hlb hB)
  have hlb' := Lib.hid hlb
  have hB' := Lib.hid hB
  have hf' := Lib.hid hf
  clear hown hn hlb hB hf
  go_enter Try.func51, Try.ntmps51
  go_upto_region 8 with (
    at_builtin; refine app_nd_at hown'.out (by rw [← hn'.out]; omega) hB'.out rfl _ _ rfl rfl rfl ?_; intro v1 w1 hO1 hb1 hk1 ho1 hs1
    have hO1' := Lib.hid hO1
    have hb1' := Lib.hid hb1
    have hk1' := Lib.hid hk1
    have ho1' := Lib.hid ho1
    have hs1' := Lib.hid hs1
    have hc1 := (hb1.cell (p := ⟨lb, 0, none⟩) hlb'.out).trans hc
    have hf1 := (hb1.frozen (p := ⟨lb, 0, none⟩) hlb'.out).trans hf'.out
    obtain ⟨g1, c1, rfl, hg1⟩ : ∃ g c, v1 = .slice (some ⟨g, 0, none⟩) (n + 1) c ∧ n + 1 ≤ c ∧ B ≤ g := by
      obtain ⟨ao, c, e, hc, h⟩ := own_cells hO1
      rw [List.length_append, ← hn'.out] at e hc h
      obtain ⟨g, rfl, hB, _⟩ := h (by simp)
      exact ⟨g, c, e, hc, hB⟩
    have hg1' := Lib.hid hg1
    clear hO1 hb1 hk1 ho1 hs1 hg1)
  obtain ⟨W, hW⟩ : ∃ W, W = ((w1.setCell ⟨lb, 0, none⟩ (.slice (some ⟨g1, 0, none⟩) (n + 1) c1)).alloc (.cells #[.int .i64 1, .int .i64 j, .int .i64 a, .int .i64 0, .int .i64 0, .int .i64 0] 72)).alloc (.cells #[.int .i64 j, .int .i64 a, .iface lt la, .iface rt ra] 121) := ⟨_, rfl⟩
  rw [← hW]
  have hsz1 : (w1.setCell ⟨lb, 0, none⟩ (.slice (some ⟨g1, 0, none⟩) (n + 1) c1)).heap.size = w1.heap.size := by simp
  have hlw1 : lb < w1.heap.size := Nat.lt_of_lt_of_le hlbw.out hs1'.out
  have hW2 : W.heap.size = w1.heap.size + 2 := by rw [hW]; simp
  have hWb := Lib.hid (show Below w1.heap.size (w1.setCell ⟨lb, 0, none⟩ (.slice (some ⟨g1, 0, none⟩) (n + 1) c1)) W by rw [hW]; exact (Below.alloc (Below.refl _ _) (by rw [hsz1]; exact Nat.le_refl _) _).alloc (by rw [World.size_alloc, hsz1]; omega) _)
  have q0 : W.cell? ⟨lb, 0, none⟩ = some (.slice (some ⟨g1, 0, none⟩) (n + 1) c1) := (hWb.out.cell (p := ⟨lb, 0, none⟩) hlw1).trans (World.cell?_setCell_same' _ _ _ (by rw [hc1]; rfl))
  have hfl := (hWb.out.frozen (p := ⟨lb, 0, none⟩) hlw1).trans (by simpa using hf1)
  have hnc : ∀ i, W.cell? ⟨w1.heap.size, i, none⟩ = (#[.int .i64 1, .int .i64 j, .int .i64 a, .int .i64 0, .int .i64 0, .int .i64 0] : Array Value)[i]? := fun i => by
    rw [hW, (below_alloc1 _ _).cell (p := ⟨w1.heap.size, i, none⟩) (by rw [World.size_alloc, hsz1]; exact Nat.lt_succ_self _), ← hsz1, World.cell?_alloc_at (hn := rfl)]
  have hnf : ∀ i, W.frozen? ⟨w1.heap.size, i, none⟩ = false := fun i => by
    rw [hW, (below_alloc1 _ _).frozen (p := ⟨w1.heap.size, i, none⟩) (by rw [World.size_alloc, hsz1]; exact Nat.lt_succ_self _), ← hsz1]; exact alloc_fz _ _ _ _
  have hnd : ∀ i, W.cell? ⟨w1.heap.size + 1, i, none⟩ = (#[.int .i64 j, .int .i64 a, .iface lt la, .iface rt ra] : Array Value)[i]? := fun i => by
    rw [hW, World.cell?_alloc_at (hn := by rw [World.size_alloc, hsz1])]
  have hO0 : OwnN (w1.setCell ⟨lb, 0, none⟩ (.slice (some ⟨g1, 0, none⟩) (n + 1) c1)) B (.slice (some ⟨g1, 0, none⟩) (n + 1) c1) (ns ++ [N0]) := ownsRow_setCell_below hO1'.out (by show lb < B; exact hlb'.out) _
  have hO : OwnN W B (.slice (some ⟨g1, 0, none⟩) (n + 1) c1) (ns ++ [N0]) := own_below hO0 (by rw [hsz1]; exact hWb.out)
  have hgw : g1 < w1.heap.size := (World.ownsRow.lt hO1'.out g1 rfl).2
  have hBw1 : B ≤ w1.heap.size := Nat.le_trans hB'.out hs1'.out
  have hO2 := Lib.hid hO
  have hq0 := Lib.hid q0
  have hgw' := Lib.hid hgw
  have hW2' := Lib.hid hW2
  have hBw1' := Lib.hid hBw1
  have hlw1' := Lib.hid hlw1
  have hnc' := Lib.hid hnc
  have hnf' := Lib.hid hnf
  have hnd' := Lib.hid hnd
  have hsz1' := Lib.hid hsz1
  have hlen1 := Lib.hid (show (ns ++ [N0]).length = n + 1 by rw [List.length_append, ← hn'.out]; rfl)
  have hcl := Lib.hid (hl'.out W _ (ns ++ [N0]) (by omega) q0 hfl hO (by rw [hlen1.out, hn'.out]))
  have hle1 := Lib.hid (show (((ns ++ [N0]).length : Nat) : Int) = (n : Int) + 1 by rw [hlen1.out]; omega)
  obtain ⟨b6, hb6⟩ : ∃ b6, b6 = w1.heap.size := ⟨_, rfl⟩
  have hb6' := Lib.hid hb6
  rw [← hb6] at hnc' hnf' hnd' hW2' hWb ⊢
  have m2 := hnd'.out 2
  simp only [List.getElem?_toArray, List.getElem?_cons_zero, List.getElem?_cons_succ] at m2
  clear hW hnc hnf hnd hO0 hO q0 hc1 hf1 hfl hgw hBw1 hlw1 hW2 hsz1 hb6 hlen
  go_upto_region 9 with (go_at_call 51; refine (hcl.out).mono ?_; clear hcl m2; rintro e w3 ⟨he, hb3, v3, hc3, hf3, hO3, hk3, ho3⟩
                         rw [hle1.out] at he
                         subst he
                         have hb3' := Lib.hid hb3
                         have hc3' := Lib.hid hc3
                         have hf3' := Lib.hid hf3
                         have hO3' := Lib.hid hO3
                         have hk3' := Lib.hid hk3
                         have ho3' := Lib.hid ho3
                         have h6 := Lib.hid (hk3 b6 (by have := hW2'.out; omega) (by have := hlw1'.out; have := hb6'.out; omega) (fun e => by have e2 : g1 = b6 := Option.some.inj e; have := hgw'.out; have := hb6'.out; omega))
                         have h7 := Lib.hid (hk3 (b6 + 1) (by have := hW2'.out; omega) (by have := hlw1'.out; have := hb6'.out; omega) (fun e => by have e2 : g1 = b6 + 1 := Option.some.inj e; have := hgw'.out; have := hb6'.out; omega))
                         have k4 := (World.cell?_of_block (a := ⟨b6, 4, none⟩) h6.out).trans (hnc'.out 4)
                         have f4 := (World.frozen?_of_block (a := ⟨b6, 4, none⟩) h6.out).trans (hnf'.out 4)
                         simp only [List.getElem?_toArray, List.getElem?_cons_zero, List.getElem?_cons_succ] at k4
                         clear hb3 hc3 hf3 hO3 hk3 ho3)
  obtain ⟨X3, hX3⟩ : ∃ X3, X3 = w3.setCell ⟨b6, 4, none⟩ (.int .i64 ((n : Int) + 1)) := ⟨_, rfl⟩
  rw [← hX3]
  obtain ⟨g3, c3, rfl, hg3B⟩ : ∃ g c, v3 = .slice (some ⟨g, 0, none⟩) (n + 1 + ln) c ∧ B ≤ g := by
    obtain ⟨ao, c, e, hc, h⟩ := own_cells hO3'.out
    rw [List.length_append, hlen1.out, hL] at e hc h
    obtain ⟨g, rfl, hB, _⟩ := h (by omega)
    exact ⟨g, c, e, hB⟩
  have hg36 : g3 ≠ b6 := by
    rcases ho3'.out g3 rfl with h | h
    · have e2 : g1 = g3 := Option.some.inj h; have := hgw'.out; have := hb6'.out; omega
    · have := hW2'.out; omega
  have hg37 : g3 ≠ b6 + 1 := by
    rcases ho3'.out g3 rfl with h | h
    · have e2 : g1 = g3 := Option.some.inj h; have := hgw'.out; have := hb6'.out; omega
    · have := hW2'.out; omega
  have hs3 : W.heap.size ≤ w3.heap.size := hb3'.out.size
  have hX3s : X3.heap.size = w3.heap.size := by rw [hX3, World.size_setCell]
  have hlen3 := Lib.hid (show ((ns ++ [N0]) ++ L).length = n + 1 + ln by rw [List.length_append, hlen1.out, hL])
  have hle3 := Lib.hid (show ((((ns ++ [N0]) ++ L).length : Nat) : Int) = (n : Int) + 1 + ln by rw [hlen3.out]; omega)
  have hOX : OwnN X3 B (.slice (some ⟨g3, 0, none⟩) (n + 1 + ln) c3) ((ns ++ [N0]) ++ L) := by
    have h := hO3'.out
    unfold OwnN at h ⊢
    rw [hlen3.out] at h ⊢
    rw [hX3]; exact own_far h hg36
  have hlb6 : lb ≠ b6 := by have := hlw1'.out; have := hb6'.out; omega
  have hcX : X3.cell? ⟨lb, 0, none⟩ = some (.slice (some ⟨g3, 0, none⟩) (n + 1 + ln) c3) := by
    rw [hX3, World.cell?_setCell_other _ _ _ _ (by intro e; exact hlb6 (congrArg Addr.block e).symm)]; exact hc3'.out
  have hfX : X3.frozen? ⟨lb, 0, none⟩ = false := by rw [hX3, World.frozen?_setCell]; exact hf3'.out
  have hcr := Lib.hid (hr'.out X3 _ _ (by have := hW2'.out; have := hBw1'.out; have := hb6'.out; omega) hcX hfX hOX (by rw [hlen3.out, ← hn'.out]))
  have x6 : ∀ k, k ≠ 4 → X3.cell? ⟨b6, k, none⟩ = W.cell? ⟨b6, k, none⟩ := fun k hk => by
    rw [hX3, World.cell?_setCell_other _ _ _ _ (by intro e; exact hk (congrArg Addr.off e).symm)]; exact World.cell?_of_block (a := ⟨b6, k, none⟩) h6.out
  have x64 : X3.cell? ⟨b6, 4, none⟩ = some (.int .i64 ((n : Int) + 1)) := by rw [hX3]; exact World.cell?_setCell_same' _ _ _ (by rw [k4]; rfl)
  have x6f : ∀ k, X3.frozen? ⟨b6, k, none⟩ = false := fun k => by rw [hX3, World.frozen?_setCell]; exact (World.frozen?_of_block (a := ⟨b6, k, none⟩) h6.out).trans (hnf'.out k)
  have x7 : X3.cell? ⟨b6 + 1, 3, none⟩ = some (.iface rt ra) := by
    rw [hX3, World.cell?_setCell_other _ _ _ _ (by intro e; have := congrArg Addr.block e; simp at this)]
    exact (World.cell?_of_block (a := ⟨b6 + 1, 3, none⟩) h7.out).trans (hnd'.out 3)
  have hX3' := Lib.hid hX3
  have hx6 := Lib.hid x6
  have hx64 := Lib.hid x64
  have hx6f := Lib.hid x6f
  have hX3s' := Lib.hid hX3s
  have hs3' := Lib.hid hs3
  have hg36' := Lib.hid hg36
  have hg3B' := Lib.hid hg3B
  have hlb6' := Lib.hid hlb6
  clear hX3 k4 f4 hOX hcX hfX x6 x64 x6f hX3s hs3 hg36 hg37 hg3B hlb6
  go_upto_region 16 with (go_at_call 51; refine (hcr.out).mono ?_; clear hcr x7; rintro e w5 ⟨he, hb5, v5, hc5, hf5, hO5, hk5, ho5⟩
                          rw [hle3.out] at he
                          subst he
                          have hb5' := Lib.hid hb5
                          have hc5' := Lib.hid hc5
                          have hf5' := Lib.hid hf5
                          have hO5' := Lib.hid hO5
                          have hk5' := Lib.hid hk5
                          have ho5' := Lib.hid ho5
                          have h65 := Lib.hid (hk5 b6 (by have := hW2'.out; have := hX3s'.out; have := hs3'.out; omega) (fun e => hlb6'.out e.symm) (fun e => hg36'.out (Option.some.inj e)))
                          have k5 := (World.cell?_of_block (a := ⟨b6, 5, none⟩) h65.out).trans ((hx6.out 5 (by omega)).trans (hnc'.out 5))
                          have f5 := (World.frozen?_of_block (a := ⟨b6, 5, none⟩) h65.out).trans (hx6f.out 5)
                          simp only [List.getElem?_toArray, List.getElem?_cons_zero, List.getElem?_cons_succ] at k5
                          clear hb5 hc5 hf5 hO5 hk5 ho5)
  obtain ⟨nl, hnl⟩ : ∃ nl, nl = (((ns ++ [N0]) ++ L) ++ R).length := ⟨_, rfl⟩
  have hnl2 : n < nl := by rw [hnl, List.length_append, hlen3.out]; omega
  obtain ⟨g5, c5, rfl, hnc5, hg5B⟩ : ∃ g c, v5 = .slice (some ⟨g, 0, none⟩) nl c ∧ nl ≤ c ∧ B ≤ g := by
    obtain ⟨ao, c, e, hc, h⟩ := own_cells hO5'.out
    rw [← hnl] at e hc h
    obtain ⟨g, rfl, hB, _⟩ := h (by omega)
    exact ⟨g, c, e, hc, hB⟩
  have hg56 : g5 ≠ b6 := by
    rcases ho5'.out g5 rfl with h | h
    · have e2 : g3 = g5 := Option.some.inj h
      rw [← e2]; exact hg36'.out
    · have := hX3s'.out; have := hs3'.out; have := hW2'.out; omega
  obtain ⟨X5, hX5⟩ : ∃ X5, X5 = w5.setCell ⟨b6, 5, none⟩ (.int .i64 ((n : Int) + 1 + ln)) := ⟨_, rfl⟩
  rw [← hX5]
  have hO6 : OwnN X5 B (.slice (some ⟨g5, 0, none⟩) nl c5) (((ns ++ [N0]) ++ L) ++ R) := by
    have h := hO5'.out
    unfold OwnN at h ⊢
    rw [← hnl] at h ⊢
    rw [hX5]; exact own_far h hg56
  have q0 : X5.cell? ⟨lb, 0, none⟩ = some (.slice (some ⟨g5, 0, none⟩) nl c5) := by
    rw [hX5, World.cell?_setCell_other _ _ _ _ (by intro e; exact hlb6'.out (congrArg Addr.block e).symm)]; exact hc5'.out
  have hfl : X5.frozen? ⟨lb, 0, none⟩ = false := by rw [hX5, World.frozen?_setCell]; exact hf5'.out
  have xk : ∀ k, k ≠ 4 → k ≠ 5 → X5.cell? ⟨b6, k, none⟩ = W.cell? ⟨b6, k, none⟩ := fun k h4 h5 => by
    rw [hX5, World.cell?_setCell_other _ _ _ _ (by intro e; exact h5 (congrArg Addr.off e).symm)]
    exact (World.cell?_of_block (a := ⟨b6, k, none⟩) h65.out).trans (hx6.out k h4)
  have m0 := (xk 0 (by omega) (by omega)).trans (hnc'.out 0)
  have m1 := (xk 1 (by omega) (by omega)).trans (hnc'.out 1)
  have m2 := (xk 2 (by omega) (by omega)).trans (hnc'.out 2)
  have m3 := (xk 3 (by omega) (by omega)).trans (hnc'.out 3)
  have m4 : X5.cell? ⟨b6, 4, none⟩ = some (.int .i64 ((n : Int) + 1)) := by
    rw [hX5, World.cell?_setCell_other _ _ _ _ (by intro e; have := congrArg Addr.off e; simp at this)]
    exact (World.cell?_of_block (a := ⟨b6, 4, none⟩) h65.out).trans hx64.out
  have m5 : X5.cell? ⟨b6, 5, none⟩ = some (.int .i64 ((n : Int) + 1 + ln)) := by rw [hX5]; exact World.cell?_setCell_same' _ _ _ (by rw [k5]; rfl)
  simp only [List.getElem?_toArray, List.getElem?_cons_zero, List.getElem?_cons_succ] at m0 m1 m2 m3
  have hg5w : g5 < X5.heap.size := (World.ownsRow.lt hO6 g5 rfl).2
  have fz := fun i => OwnN.frozenAt hO6 i
  have hpc := OwnN.cells hO6 (i := n) (by rw [← hnl]; exact hnl2)
  rw [show ((((ns ++ [N0]) ++ L) ++ R)).getD n N0 = N0 by
    rw [List.append_assoc, List.append_assoc, List.getD_eq_getElem?_getD, List.getElem?_append_right (by rw [← hn'.out]; exact Nat.le_refl _), ← hn'.out, Nat.sub_self]; rfl] at hpc
  obtain ⟨p0, p1, p2, p3, p4, p5⟩ := hpc
  simp only [N0] at p0 p1 p2 p3 p4 p5
  have z0 := fz (n * 6)
  have z1 := fz (n * 6 + 1)
  have z2 := fz (n * 6 + 2)
  have z3 := fz (n * 6 + 3)
  have z4 := fz (n * 6 + 4)
  have z5 := fz (n * 6 + 5)
  have hO6' := Lib.hid hO6
  have hX5' := Lib.hid hX5
  have hq0 := Lib.hid q0
  have hfl' := Lib.hid hfl
  have hnl' := Lib.hid hnl
  have hg56' := Lib.hid hg56
  have hg5B' := Lib.hid hg5B
  have hnI : (n : Int) < (nl : Int) := by omega
  clear hX5 hO6 hfl xk hg5w fz hnl hg56 hg5B k5 f5 hnl2 hnc5
  refine wp_region_still_tail 6 (by kernel_rfl) (by kernel_rfl) ?_
  simp only [List.take_succ_cons, List.take_zero, List.drop_succ_cons, List.drop_zero]
  iterate 6 still_step
  refine wpStill_nil ?_
  go_wp2_with fail
  go_ret
  have hlg : lb ≠ g5 := by have := hlb'.out; have := hg5B'.out; omega
  have hgl : lb ≤ g5 := by have := hlb'.out; have := hg5B'.out; omega
  have hlen2 := hn'.out
  have key : ∀ X, X = six X5 g5 (n * 6) ⟨1, j, a, 0, (n : Int) + 1, (n : Int) + 1 + ln⟩ → AddEnd w lb B (.slice va n vc) ns (ns ++ (⟨1, j, a, 0, (n : Int) + 1, (n : Int) + 1 + ln⟩ :: (L ++ R))) (.returned (.int .i64 n)) X.drew := by
    intro X hX
    have hb1w : Below lb w w1 := hb1'.out.mono (Nat.le_of_lt hlb'.out)
    have hbW : Below lb w W := (below_set hb1w (Nat.le_refl _)).trans (hWb.out.mono (by have := hlw1'.out; have := hb6'.out; omega))
    have hb6l : lb ≤ b6 := by have := hlw1'.out; have := hb6'.out; omega
    have hb3w : Below lb w X3 := by rw [hX3'.out]; exact below_set (hbW.trans hb3'.out) hb6l
    have hb5w : Below lb w X5 := by rw [hX5'.out]; exact below_set (hb3w.trans hb5'.out) hb6l
    refine ⟨by rw [hlen2], ?_, .slice (some ⟨g5, 0, none⟩) nl c5, ?_, ?_, ?_, fun g hg hne hv => ?_, fun g hg => ?_⟩
    · rw [hX]
      exact (six_below (o := n * 6) hb5w hgl).drew
    · show X.cell? ⟨lb, 0, none⟩ = _
      rw [hX]
      exact (six_other hlg).trans hq0.out
    · show X.frozen? ⟨lb, 0, none⟩ = _
      rw [hX]
      exact six_frozen.trans hfl'.out
    · have h := own_sixAt (m' := ⟨1, j, a, 0, (n : Int) + 1, (n : Int) + 1 + ln⟩) hO6'.out (i := n) (by rw [← hnl'.out]; omega)
      rw [← hX, List.append_assoc, List.append_assoc, List.set_append_right _ _ (by omega), show n - ns.length = 0 by omega] at h
      exact h
    · have h1 : g1 ≠ g := by
        intro e; subst e
        rcases ho1'.out g1 rfl with h | h
        · exact hv h
        · omega
      have hsw : w.heap.size ≤ w1.heap.size := hs1'.out
      have hgb : g ≠ b6 := by have := hb6'.out; omega
      have h3 : g3 ≠ g := by
        intro e; subst e
        rcases ho3'.out g3 rfl with h | h
        · exact h1 (Option.some.inj h)
        · have := hW2'.out; have := hb6'.out; omega
      have h5 : g5 ≠ g := by
        intro e; subst e
        rcases ho5'.out g5 rfl with h | h
        · exact h3 (Option.some.inj h)
        · have := hX3s'.out; have := hs3'.out; have := hW2'.out; have := hb6'.out; omega
      show X.heap[g]? = _
      rw [hX, six_heap (fun e => h5 e.symm), hX5'.out, Below.heap_setCell w5 ⟨b6, 5, none⟩ _ g hgb, hk5'.out g (by have := hX3s'.out; have := hs3'.out; have := hW2'.out; have := hb6'.out; omega) hne (fun e => h3 (Option.some.inj e)),
        hX3'.out, Below.heap_setCell w3 ⟨b6, 4, none⟩ _ g hgb, hk3'.out g (by have := hW2'.out; have := hb6'.out; omega) hne (fun e => h1 (Option.some.inj e)), hWb.out.block g (by have := hb6'.out; omega), Below.heap_setCell w1 ⟨lb, 0, none⟩ _ g hne]
      exact hk1'.out g hg hv
    · have e5 : g5 = g := Option.some.inj hg
      subst e5
      rcases ho5'.out g5 rfl with h | h
      · have e3 : g3 = g5 := Option.some.inj h
        subst e3
        rcases ho3'.out g3 rfl with h | h
        · have e1 : g1 = g3 := Option.some.inj h
          subst e1
          exact ho1'.out g1 rfl
        · right; have := hW2'.out; have := hb6'.out; have := hs1'.out; omega
      · right; have := hX3s'.out; have := hs3'.out; have := hW2'.out; have := hb6'.out; have := hs1'.out; omega
  exact key _ rfl
end Go.Proofs.Ytjkbhdlbomcbeaa

namespace Go.Proofs.Ytjkbhdlbomcbeaa
open Go.RowKit Go.Shelf Shf

/-- How a tree is written, from a number on. -/
def ser : Tr → Nat → List Nd
  | .split j a l r, i => ⟨1, j, a, 0, (i : Int) + 1, (i : Int) + 1 + l.nodes⟩ :: (ser l (i + 1) ++ ser r (i + 1 + l.nodes))
  | .energy a b, _ => [⟨2, 0, a, b, 0, 0⟩]
  | .late k, _ => [⟨3, k, 0, 0, 0, 0⟩]
theorem ser_length : ∀ (t : Tr) (i : Nat), (ser t i).length = t.nodes
  | .split j a l r, i => by simp only [ser, Tr.nodes, List.length_cons, List.length_append, ser_length l, ser_length r]; omega
  | .energy .., _ => rfl
  | .late .., _ => rfl
/-- A tree is written behind the others. -/
theorem add51 : ∀ (t : Tr) {w : World} {lb B : Nat} {v : Value} {ns : List Nd}, lb < B → B ≤ w.heap.size → w.cell? ⟨lb, 0, none⟩ = some v → w.frozen? ⟨lb, 0, none⟩ = false → OwnN w B v ns → ns.length + t.nodes ≤ 100000 →
    Calls Try.prog 51 #[.pointer (some ⟨lb, 0, none⟩), t.val] w (AddEnd w lb B v ns (ns ++ ser t ns.length)) := by
  intro t
  induction t with
  | late k => intro w lb B v ns h1 h2 h3 h4 h5 h6; exact addL51 h1 h2 h3 h4 h5 (by simp only [Tr.nodes] at h6; omega)
  | energy a b => intro w lb B v ns h1 h2 h3 h4 h5 h6; exact addE51 h1 h2 h3 h4 h5 (by simp only [Tr.nodes] at h6; omega)
  | split j a l r ihl ihr =>
    intro w lb B v ns h1 h2 h3 h4 h5 h6
    simp only [Tr.nodes] at h6
    rw [Tr.val, val_is l, val_is r]
    exact addS51 (ln := l.nodes) (L := ser l (ns.length + 1)) (R := ser r (ns.length + 1 + l.nodes)) h1 h2 h3 h4 h5 (by omega) (ser_length _ _)
      (fun W u ms k1 k2 k3 k4 k5 => by
        have := ihl h1 k1 k2 k3 k4 (by omega)
        rw [k5, val_is] at this; exact this)
      (fun W u ms k1 k2 k3 k4 k5 => by
        have := ihr h1 k1 k2 k3 k4 (by omega)
        rw [k5, val_is] at this; exact this)
/-- What was written is read. -/
theorem pz_ser {nj no : Nat} {ns : List Nd} : ∀ (t : Tr) (f i : Nat) (sn : Nat → Bool), WfT nj no t → t.nodes ≤ f → (∀ k, k < t.nodes → ns[i + k]? = (ser t i)[k]?) → (∀ k, i ≤ k → k < i + t.nodes → sn k = false) →
    ∃ sn', pz ns nj no f i sn = (some t, sn') ∧ ∀ k, k < i ∨ i + t.nodes ≤ k → sn' k = sn k := by
  intro t
  induction t with
  | late k =>
    intro f i sn hw hf hs hsn
    obtain ⟨f, rfl⟩ : ∃ g, f = g + 1 := ⟨f - 1, by simp only [Tr.nodes] at hf; omega⟩
    have h0 := hs 0 (by simp [Tr.nodes])
    rw [Nat.add_zero] at h0
    have hi : i < ns.length := by
      refine Nat.lt_of_not_le fun hc => ?_
      rw [List.getElem?_eq_none hc] at h0
      simp [ser] at h0
    rw [pz_step hi (hsn i (Nat.le_refl _) (by simp [Tr.nodes]))]
    rw [List.getD_eq_getElem?_getD, h0]
    obtain ⟨w1, w2⟩ := hw
    refine ⟨seeN sn i, ?_, fun k hk => ?_⟩
    · simp [ser, isSp, isEn, isLa, w1, w2]
    · unfold seeN; rw [if_neg]; simp only [Tr.nodes] at hk; omega
  | energy a b =>
    intro f i sn hw hf hs hsn
    obtain ⟨f, rfl⟩ : ∃ g, f = g + 1 := ⟨f - 1, by simp only [Tr.nodes] at hf; omega⟩
    have h0 := hs 0 (by simp [Tr.nodes])
    rw [Nat.add_zero] at h0
    have hi : i < ns.length := by
      refine Nat.lt_of_not_le fun hc => ?_
      rw [List.getElem?_eq_none hc] at h0
      simp [ser] at h0
    rw [pz_step hi (hsn i (Nat.le_refl _) (by simp [Tr.nodes]))]
    rw [List.getD_eq_getElem?_getD, h0]
    have hw' : intB a b = true := hw
    refine ⟨seeN sn i, ?_, fun k hk => ?_⟩
    · simp [ser, isSp, isEn, hw']
    · unfold seeN; rw [if_neg]; simp only [Tr.nodes] at hk; omega
  | split j a l r ihl ihr =>
    intro f i sn hw hf hs hsn
    simp only [Tr.nodes] at hf hs hsn
    obtain ⟨f, rfl⟩ : ∃ g, f = g + 1 := ⟨f - 1, by omega⟩
    have h0 := hs 0 (by omega)
    rw [Nat.add_zero] at h0
    have hi : i < ns.length := by
      refine Nat.lt_of_not_le fun hc => ?_
      rw [List.getElem?_eq_none hc] at h0
      simp [ser] at h0
    obtain ⟨w1, w2, w3, w4⟩ := hw
    have hsi := hsn i (Nat.le_refl _) (by omega)
    have hsub : ∀ k, k < l.nodes + r.nodes → ns[i + 1 + k]? = (ser l (i + 1) ++ ser r (i + 1 + l.nodes))[k]? := fun k hk => by
      have := hs (k + 1) (by omega)
      rw [show i + 1 + k = i + (k + 1) by omega, this]
      simp [ser]
    obtain ⟨s1, e1, k1⟩ := ihl f (i + 1) (seeN sn i) w3 (by omega) (fun k hk => by
      rw [hsub k (by omega), List.getElem?_append_left (by rw [ser_length]; exact hk)]) (fun k h1 h2 => by
      unfold seeN; rw [if_neg (by omega)]; exact hsn k (by omega) (by omega))
    obtain ⟨s2, e2, k2⟩ := ihr f (i + 1 + l.nodes) s1 w4 (by omega) (fun k hk => by
      rw [show i + 1 + l.nodes + k = i + 1 + (l.nodes + k) by omega, hsub (l.nodes + k) (by omega), List.getElem?_append_right (by rw [ser_length]; omega), ser_length]
      congr 1; omega) (fun k h1 h2 => by
      rw [k1 k (by omega)]; unfold seeN; rw [if_neg (by omega)]; exact hsn k (by omega) (by omega))
    have hx : ns.getD i N0 = ⟨1, j, a, 0, (i : Int) + 1, (i : Int) + 1 + l.nodes⟩ := by rw [List.getD_eq_getElem?_getD, h0]; rfl
    rw [pz_step hi hsi, hx]
    refine ⟨s2, ?_, fun k hk => ?_⟩
    · have t1 : ((i : Int) + 1).toNat = i + 1 := by omega
      have t2 : ((i : Int) + 1 + (l.nodes : Int)).toNat = i + 1 + l.nodes := by omega
      have hok : spOk nj i ⟨1, j, a, 0, (i : Int) + 1, (i : Int) + 1 + l.nodes⟩ = true := by
        unfold spOk
        simp only [Bool.and_eq_true, decide_eq_true_eq]
        exact ⟨w1, w2, by omega, by omega⟩
      simp only
      rw [if_pos (show isSp ⟨1, j, a, 0, (i : Int) + 1, (i : Int) + 1 + l.nodes⟩ = true from rfl), if_pos hok]
      simp only [t1, t2, e1, e2]
    · simp only [Tr.nodes] at hk
      rw [k2 k (by omega), k1 k (by omega)]
      unfold seeN; rw [if_neg]; omega
/-- A tree that was written refutes as it says. -/
theorem prB_ser {s : Sh} {t : Tr} (hw : WfT s.n s.os.length t) : prB s s.n s.os.length (ser t 0) = rf t s := by
  obtain ⟨sn', h, _⟩ := pz_ser (ns := ser t 0) t ((ser t 0).length + 1) 0 (fun _ => false) hw (by rw [ser_length]; omega) (fun k _ => by rw [Nat.zero_add]) (fun _ _ _ => rfl)
  unfold prB
  rw [h]; rfl
end Go.Proofs.Ytjkbhdlbomcbeaa
