import Derived.Test.YtjkbhdlbomcbeaaXe
namespace Go.Proofs.Ytjkbhdlbomcbeaa
open Go.RowKit Go.Shelf Shf

structure Nd where
  k : Int
  j : Int
  a : Int
  b : Int
  l : Int
  r : Int
deriving DecidableEq
def N0 : Nd := ⟨0, 0, 0, 0, 0, 0⟩
def encN (n : Nd) : List Value := [.int .i64 n.k, .int .i64 n.j, .int .i64 n.a, .int .i64 n.b, .int .i64 n.l, .int .i64 n.r]
theorem encN_len (n : Nd) : (encN n).length = 6 := rfl
theorem info72 : (Try.prog.info? 72).map (fun i => (i.zero, i.size, i.bytes)) = some (some (.agg #[.int .i64 0, .int .i64 0, .int .i64 0, .int .i64 0, .int .i64 0, .int .i64 0]), 6, 48) := by kernel_rfl
def OwnN (w : World) (B : Nat) (v : Value) (ns : List Nd) : Prop := w.ownsRow B 72 6 v ns.length (flat encN ns)
theorem one_flatN (ns : List Nd) : ∀ v ∈ flat encN ns, v.oneCell' = true := fun v hv => by
  simp only [flat, List.mem_flatMap, encN, List.mem_cons, List.not_mem_nil, or_false] at hv
  obtain ⟨j, _, rfl | rfl | rfl | rfl | rfl | rfl⟩ := hv <;> rfl
def nd0 : Array Value := #[.int .i64 0, .int .i64 0, .int .i64 0, .int .i64 0, .int .i64 0, .int .i64 0]
/-- append(l, Node{}); what else changes. -/
theorem app_nd_at {ops : Array Oper} {rest : List Oper} {o : Oper} {a : Act} {Q : Exit → Act → World → Prop} {w : World} {B : Nat} {v : Value} {ns : List Nd}
    (hown : OwnN w B v ns) (hlen : ns.length ≤ 1000000) (hB : B ≤ w.heap.size) (hgd : o.guard = none) (s x : Operand)
    (ho : o.op = .call { callee := .builtin .append, args := #[s, x], argTypes := #[100, 100] }) (hs : a.eval s = v) (hx : a.eval x = .slice (some ⟨w.heap.size, 0, none⟩) 1 1)
    (h : ∀ v' w', OwnN w' B v' (ns ++ [N0]) → Below B w w' → (∀ g, g < w.heap.size → v.ownBlock ≠ some g → w'.heap[g]? = w.heap[g]?) → (∀ g, v'.ownBlock = some g → v.ownBlock = some g ∨ w.heap.size ≤ g) → w.heap.size ≤ w'.heap.size → wpList Try.prog ops Q rest (a.put o.dst v') w') : wpList Try.prog ops Q (o :: rest) a (w.alloc (.cells nd0 72)) := by
  obtain ⟨i0, hi, hz0, hz1, hz2⟩ := info_parts info72
  refine wpList_append_own_at _ hgd s x 100 ho B 72 i0 _ 6 48 Try.underlying100 hi hz0 hz1 hz2 rfl (by decide) v ns.length (flat encN ns) hs (World.ownsRow.alloc hown _) ⟨w.heap.size, 0, none⟩ 1 1 (encN N0) hx rfl ?_ ?_ ?_ ?_ ?_ ?_
  · intro j u hj
    have e : (⟨w.heap.size, 0, none⟩ : Addr).add j = ⟨w.heap.size, j, none⟩ := by unfold Addr.add; split <;> simp_all
    rw [e, World.cell?_alloc_at (hn := rfl)]
    show nd0[j]? = some u
    rw [← Array.getElem?_toList]; exact hj
  · exact fun u hu => one_flatN [N0] u (by simpa [flat] using hu)
  · unfold maxLen; omega
  · omega
  · simp; omega
  · intro v' w' h2 h3 _ h5
    refine h v' w' ?_ ?_ (fun g hg hne => ?_) (fun g hg => ?_) (by have := h3.size; simp at this; omega)
    · unfold OwnN; rw [flat_app, List.length_append]; simpa [flat] using h2
    · exact ((Below.refl B w).alloc hB _).grown h3 (by simp; omega) (fun k hk => (World.ownsRow.lt hown k hk).1)
    · rw [h3.block g (by simp; omega) (fun e => hne e.symm)]
      exact (below_alloc1 w _).block g hg
    · rcases h5 with h5 | h5
      · left; rw [← h5]; exact hg
      · right; rw [h5] at hg; injection hg with hg; rw [← hg]; simp
@[local go_sem] theorem as126_121 (v : Value) (w : World) : (Instr.typeAssert (.iface 126 v) 98 121 true).run Try.prog w = .ok (.tuple #[.agg #[.int .i64 0, .int .i64 0, .nilIface, .nilIface], .bool false]) w := by kernel_rfl
@[local go_sem] theorem as126_124 (v : Value) (w : World) : (Instr.typeAssert (.iface 126 v) 98 124 true).run Try.prog w = .ok (.tuple #[.agg #[.int .i64 0, .int .i64 0], .bool false]) w := by kernel_rfl
@[local go_sem] theorem as126_126 (v : Value) (w : World) : (Instr.typeAssert (.iface 126 v) 98 126 true).run Try.prog w = .ok (.tuple #[v, .bool true]) w := by kernel_rfl
/-- A node is written behind the others. -/
def AddEnd (w : World) (lb B : Nat) (v : Value) (ns ms : List Nd) (e : Ending) (w' : World) : Prop :=
  e = .returned (.int .i64 ns.length) ∧ Below lb w w' ∧ ∃ v', w'.cell? ⟨lb, 0, none⟩ = some v' ∧ w'.frozen? ⟨lb, 0, none⟩ = false ∧ OwnN w' B v' ms ∧ (∀ g, g < w.heap.size → g ≠ lb → v.ownBlock ≠ some g → w'.heap[g]? = w.heap[g]?) ∧ (∀ g, v'.ownBlock = some g → v.ownBlock = some g ∨ w.heap.size ≤ g)
theorem set6 (xs : List Value) (a b c d e f a' b' c' d' e' f' : Value) : ((((((xs ++ [a, b, c, d, e, f]).set (xs.length) a').set (xs.length + 1) b').set (xs.length + 2) c').set (xs.length + 3) d').set (xs.length + 4) e').set (xs.length + 5) f' = xs ++ [a', b', c', d', e', f'] := by
  simp [List.set_append_right]
theorem OwnN.frozenAt {W : World} {B g n c : Nat} {ns : List Nd} (h : OwnN W B (.slice (some ⟨g, 0, none⟩) n c) ns) (j : Nat) : W.frozen? ⟨g, j, none⟩ = false := by
  unfold OwnN at h
  obtain ⟨_, _, e, _⟩ := own_cells h
  obtain rfl : n = ns.length := by injection e
  exact World.ownsRow.frozenAt h j
theorem OwnN.cells {W : World} {B g n c : Nat} {ns : List Nd} (h : OwnN W B (.slice (some ⟨g, 0, none⟩) n c) ns) {i : Nat} (hi : i < ns.length) : W.cell? ⟨g, i * 6, none⟩ = some (.int .i64 (ns.getD i N0).k) ∧ W.cell? ⟨g, i * 6 + 1, none⟩ = some (.int .i64 (ns.getD i N0).j) ∧ W.cell? ⟨g, i * 6 + 2, none⟩ = some (.int .i64 (ns.getD i N0).a) ∧
    W.cell? ⟨g, i * 6 + 3, none⟩ = some (.int .i64 (ns.getD i N0).b) ∧ W.cell? ⟨g, i * 6 + 4, none⟩ = some (.int .i64 (ns.getD i N0).l) ∧ W.cell? ⟨g, i * 6 + 5, none⟩ = some (.int .i64 (ns.getD i N0).r) := by
  unfold OwnN at h
  obtain ⟨_, _, e, _, hc⟩ := own_cells h
  obtain ⟨g', e1, _, _, hcl⟩ := hc (by omega)
  injection e with e2 e3 e4
  rw [← e2] at e1
  obtain rfl : g = g' := by injection e1 with e1; injection e1
  have e : ns.getD i N0 = ns[i] := by rw [List.getD_eq_getElem?_getD, List.getElem?_eq_getElem hi]; rfl
  rw [e]
  exact ⟨hcl _ _ (flat_at encN_len ns i 0 hi (by omega)), hcl _ _ (flat_at encN_len ns i 1 hi (by omega)), hcl _ _ (flat_at encN_len ns i 2 hi (by omega)), hcl _ _ (flat_at encN_len ns i 3 hi (by omega)), hcl _ _ (flat_at encN_len ns i 4 hi (by omega)), hcl _ _ (flat_at encN_len ns i 5 hi (by omega))⟩
def six (W : World) (g o : Nat) (m : Nd) : World := (((((W.setCell ⟨g, o, none⟩ (.int .i64 m.k)).setCell ⟨g, o + 1, none⟩ (.int .i64 m.j)).setCell ⟨g, o + 2, none⟩ (.int .i64 m.a)).setCell ⟨g, o + 3, none⟩ (.int .i64 m.b)).setCell ⟨g, o + 4, none⟩ (.int .i64 m.l)).setCell ⟨g, o + 5, none⟩ (.int .i64 m.r)
theorem OwnN.six {W : World} {B g n c : Nat} {ns : List Nd} {m m' : Nd} (h : OwnN W B (.slice (some ⟨g, 0, none⟩) n c) (ns ++ [m])) : OwnN (six W g (ns.length * 6) m') B (.slice (some ⟨g, 0, none⟩) n c) (ns ++ [m']) := by
  unfold OwnN at h ⊢
  obtain ⟨_, _, e, _⟩ := own_cells h
  obtain rfl : n = (ns ++ [m]).length := by injection e
  have hl : (flat encN ns).length = ns.length * 6 := flat_len encN_len ns
  have h1 := (h.stored (ns.length * 6) (.int .i64 m'.k)).1
  have h2 := (h1.stored (ns.length * 6 + 1) (.int .i64 m'.j)).1
  have h3 := (h2.stored (ns.length * 6 + 2) (.int .i64 m'.a)).1
  have h4 := (h3.stored (ns.length * 6 + 3) (.int .i64 m'.b)).1
  have h5 := (h4.stored (ns.length * 6 + 4) (.int .i64 m'.l)).1
  have h6 := (h5.stored (ns.length * 6 + 5) (.int .i64 m'.r)).1
  rw [flat_app, ← hl, show flat encN [m] = [.int .i64 m.k, .int .i64 m.j, .int .i64 m.a, .int .i64 m.b, .int .i64 m.l, .int .i64 m.r] from rfl, set6] at h6
  rw [flat_app, List.length_append]
  rw [List.length_append] at h6
  unfold Go.Proofs.Ytjkbhdlbomcbeaa.six
  rw [← hl, List.length_append]
  exact h6
theorem six_other {W : World} {g o b k : Nat} {m : Nd} (h : b ≠ g) : (six W g o m).cell? ⟨b, k, none⟩ = W.cell? ⟨b, k, none⟩ := by
  unfold six
  rw [World.cell?_setCell_other _ _ _ _ (by simp <;> omega), World.cell?_setCell_other _ _ _ _ (by simp <;> omega), World.cell?_setCell_other _ _ _ _ (by simp <;> omega), World.cell?_setCell_other _ _ _ _ (by simp <;> omega), World.cell?_setCell_other _ _ _ _ (by simp <;> omega), World.cell?_setCell_other _ _ _ _ (by simp <;> omega)]
theorem six_frozen {W : World} {g o : Nat} {p : Addr} {m : Nd} : (six W g o m).frozen? p = W.frozen? p := by
  unfold six; simp only [World.frozen?_setCell]
theorem six_heap {W : World} {g o b : Nat} {m : Nd} (h : b ≠ g) : (six W g o m).heap[b]? = W.heap[b]? := by
  unfold six
  rw [Below.heap_setCell _ ⟨g, _, none⟩ _ b h, Below.heap_setCell _ ⟨g, _, none⟩ _ b h, Below.heap_setCell _ ⟨g, _, none⟩ _ b h, Below.heap_setCell _ ⟨g, _, none⟩ _ b h, Below.heap_setCell _ ⟨g, _, none⟩ _ b h, Below.heap_setCell _ ⟨g, _, none⟩ _ b h]
theorem six_below {W0 W : World} {C g o : Nat} {m : Nd} (h : Below C W0 W) (hg : C ≤ g) : Below C W0 (six W g o m) := by
  unfold six
  exact below_set (below_set (below_set (below_set (below_set (below_set h hg) hg) hg) hg) hg) hg
set_option maxHeartbeats 4000000 in
set_option maxRecDepth 100000 in
theorem addLate51 {w : World} {lb B k : Nat} {v : Value} {ns : List Nd} (hlb : lb < B) (hB : B ≤ w.heap.size) (hc : w.cell? ⟨lb, 0, none⟩ = some v) (hf : w.frozen? ⟨lb, 0, none⟩ = false) (hown : OwnN w B v ns) (hlen : ns.length ≤ 100000) :
    Calls Try.prog 51 #[.pointer (some ⟨lb, 0, none⟩), .iface 126 (.agg #[.int .i64 k])] w (AddEnd w lb B v ns (ns ++ [⟨3, k, 0, 0, 0, 0⟩])) := by
  obtain ⟨i0, hi, hz0, hz1, hz2⟩ := info_parts info72
  have hown' := Lib.hid hown
  obtain ⟨va, vc, rfl, -⟩ := own_cells hown
  obtain ⟨n, hn⟩ : ∃ n, n = ns.length := ⟨_, rfl⟩
  rw [← hn] at hown' hc hlen ⊢
  have hn' := Lib.hid hn
  have hlbw := Lib.hid (Nat.lt_of_lt_of_le hlb hB)
  have hlb' := Lib.hid hlb
  have hB' := Lib.hid hB
  have hf' := Lib.hid hf
  clear hown hn hlb hB hf
  go_enter Try.func51, Try.ntmps51
  go_wp2_with (
    at_builtin; refine app_nd_at hown'.out (by rw [← hn'.out]; omega) hB'.out rfl _ _ rfl rfl rfl ?_; intro v1 w1 hO1 hb1 hk1 ho1 hs1
    have hO1' := Lib.hid hO1
    have hb1' := Lib.hid hb1
    have hk1' := Lib.hid hk1
    have ho1' := Lib.hid ho1
    have hs1' := Lib.hid hs1
    have hc1 := (hb1.cell (p := ⟨lb, 0, none⟩) hlb'.out).trans hc
    have hf1 := (hb1.frozen (p := ⟨lb, 0, none⟩) hlb'.out).trans hf'.out
    obtain ⟨g1, c1, rfl, hg1⟩ : ∃ g c, v1 = .slice (some ⟨g, 0, none⟩) (n + 1) c ∧ n + 1 ≤ c ∧ B ≤ g := by
      obtain ⟨ao, c, e, hc, h⟩ := own_cells hO1
      rw [List.length_append, ← hn'.out] at e hc h
      obtain ⟨g, rfl, hB, _⟩ := h (by simp)
      exact ⟨g, c, e, hc, hB⟩
    have hg1' := Lib.hid hg1
    clear hO1 hb1 hk1 ho1 hs1 hg1)
  obtain ⟨W, hW⟩ : ∃ W, W = ((w1.setCell ⟨lb, 0, none⟩ (.slice (some ⟨g1, 0, none⟩) (n + 1) c1)).alloc (.cells #[.int .i64 3, .int .i64 k, .int .i64 0, .int .i64 0, .int .i64 0, .int .i64 0] 72)).alloc (.cells #[.int .i64 k] 126) := ⟨_, rfl⟩
  have hsz1 : (w1.setCell ⟨lb, 0, none⟩ (.slice (some ⟨g1, 0, none⟩) (n + 1) c1)).heap.size = w1.heap.size := by simp
  have hlw1 : lb < w1.heap.size := Nat.lt_of_lt_of_le hlbw.out hs1'.out
  have hWb := Lib.hid (show Below w1.heap.size (w1.setCell ⟨lb, 0, none⟩ (.slice (some ⟨g1, 0, none⟩) (n + 1) c1)) W by rw [hW]; exact (Below.alloc (Below.refl _ _) (by rw [hsz1]; exact Nat.le_refl _) _).alloc (by rw [World.size_alloc, hsz1]; omega) _)
  have q0 : W.cell? ⟨lb, 0, none⟩ = some (.slice (some ⟨g1, 0, none⟩) (n + 1) c1) := (hWb.out.cell (p := ⟨lb, 0, none⟩) hlw1).trans (World.cell?_setCell_same' _ _ _ (by rw [hc1]; rfl))
  have hfl := Lib.hid ((hWb.out.frozen (p := ⟨lb, 0, none⟩) hlw1).trans (by simpa using hf1))
  have hnc : ∀ j, W.cell? ⟨w1.heap.size, j, none⟩ = (#[.int .i64 3, .int .i64 k, .int .i64 0, .int .i64 0, .int .i64 0, .int .i64 0] : Array Value)[j]? := fun j => by
    rw [hW, (below_alloc1 _ _).cell (p := ⟨w1.heap.size, j, none⟩) (by rw [World.size_alloc, hsz1]; exact Nat.lt_succ_self _), ← hsz1, World.cell?_alloc_at (hn := rfl)]
  have m0 := hnc 0
  have m1 := hnc 1
  have m2 := hnc 2
  have m3 := hnc 3
  have m4 := hnc 4
  have m5 := hnc 5
  have hO0 : OwnN (w1.setCell ⟨lb, 0, none⟩ (.slice (some ⟨g1, 0, none⟩) (n + 1) c1)) B (.slice (some ⟨g1, 0, none⟩) (n + 1) c1) (ns ++ [N0]) := ownsRow_setCell_below hO1'.out (by show lb < B; exact hlb'.out) _
  have hO : OwnN W B (.slice (some ⟨g1, 0, none⟩) (n + 1) c1) (ns ++ [N0]) := own_below hO0 (by rw [hsz1]; exact hWb.out)
  have hgw : g1 < w1.heap.size := (World.ownsRow.lt hO1'.out g1 rfl).2
  have fz := fun j => OwnN.frozenAt hO j
  have hpc := OwnN.cells hO (i := n) (by rw [List.length_append, ← hn'.out]; exact Nat.lt_succ_self _)
  rw [show (ns ++ [N0]).getD n N0 = N0 by rw [List.getD_eq_getElem?_getD, List.getElem?_append_right (by rw [← hn'.out]; exact Nat.le_refl _), ← hn'.out, Nat.sub_self]; rfl] at hpc
  obtain ⟨p0, p1, p2, p3, p4, p5⟩ := hpc
  simp only [N0] at p0 p1 p2 p3 p4 p5
  have z0 := fz (n * 6)
  have z1 := fz (n * 6 + 1)
  have z2 := fz (n * 6 + 2)
  have z3 := fz (n * 6 + 3)
  have z4 := fz (n * 6 + 4)
  have z5 := fz (n * 6 + 5)
  have hO' := Lib.hid hO
  simp only [List.getElem?_toArray, List.getElem?_cons_zero, List.getElem?_cons_succ] at m0 m1 m2 m3 m4 m5
  rw [← hW]
  have hgw' := Lib.hid hgw
  have hlw' := Lib.hid hlw1
  have hsz1' := Lib.hid hsz1
  clear hW hnc hO0 hO fz hc1 hf1 hgw hlw1 hsz1
  refine wp_region_still_tail 6 (by kernel_rfl) (by kernel_rfl) ?_
  simp only [List.take_succ_cons, List.take_zero, List.drop_succ_cons, List.drop_zero]
  have hnI : (n : Int) < (n : Int) + 1 := by omega
  iterate 6 still_step
  refine wpStill_nil ?_
  go_wp2_with fail
  go_ret
  have hlg : lb ≠ g1 := by have := hlb'.out; have := hg1'.out; omega
  have hgl : lb ≤ g1 := by have := hlb'.out; have := hg1'.out; omega
  have hlen2 := hn'.out
  have key : ∀ X, X = six W g1 (n * 6) ⟨3, k, 0, 0, 0, 0⟩ → AddEnd w lb B (.slice va n vc) ns (ns ++ [⟨3, k, 0, 0, 0, 0⟩]) (.returned (.int .i64 n)) X.drew := by
    intro X hX
    refine ⟨by rw [hlen2], ?_, .slice (some ⟨g1, 0, none⟩) (n + 1) c1, ?_, ?_, ?_, fun g hg hne hv => ?_, ho1'.out⟩
    · have h1 : Below lb w w1 := hb1'.out.mono (Nat.le_of_lt hlb'.out)
      have h2 : Below lb w (w1.setCell ⟨lb, 0, none⟩ (.slice (some ⟨g1, 0, none⟩) (n + 1) c1)) := below_set h1 (Nat.le_refl _)
      rw [hX]
      exact (six_below (o := n * 6) (m := ⟨3, k, 0, 0, 0, 0⟩) (h2.trans (hWb.out.mono (Nat.le_of_lt hlw'.out))) hgl).drew
    · show X.cell? ⟨lb, 0, none⟩ = _
      rw [hX]
      exact (six_other hlg).trans q0
    · show X.frozen? ⟨lb, 0, none⟩ = _
      rw [hX]
      exact six_frozen.trans hfl.out
    · have h := OwnN.six (m' := ⟨3, k, 0, 0, 0, 0⟩) hO'.out
      rw [← hlen2, ← hX] at h
      exact h
    · have hgg : g ≠ g1 := by
        rintro rfl
        rcases ho1'.out g rfl with h | h
        · exact hv h
        · omega
      have hsz := hs1'.out
      show X.heap[g]? = _
      rw [hX, six_heap hgg, hWb.out.block g (by omega), Below.heap_setCell w1 ⟨lb, 0, none⟩ _ g hne]
      exact hk1'.out g hg hv
  exact key _ rfl
end Go.Proofs.Ytjkbhdlbomcbeaa
