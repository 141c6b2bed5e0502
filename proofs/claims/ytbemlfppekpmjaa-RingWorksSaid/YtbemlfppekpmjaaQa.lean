import Derived.Test.YtbemlfppekpmjaaH
/-! The reference's computation in memory. -/
namespace Go.Proofs.Ytbemlfppekpmjaa
open Go.RowKit Rng
def encT (x : Bool × Hd) : List Value := [.bool x.2.wk, .bool x.1, .int .i64 ((x.2.par : Int) - 1), .int .i64 x.2.owed]
theorem encT_len (x : Bool × Hd) : (encT x).length = 4 := rfl
theorem one_flatT (xs : List (Bool × Hd)) : ∀ v ∈ flat encT xs, v.oneCell' = true := fun v hv => by
  simp only [flat, List.mem_flatMap, encT, List.mem_cons, List.not_mem_nil, or_false] at hv
  obtain ⟨j, _, rfl | rfl | rfl | rfl⟩ := hv <;> rfl
theorem info110 : (Try.prog.info? 110).map (fun i => (i.zero, i.size, i.bytes)) = some (some (.agg #[.bool false, .bool false, .int .i64 0, .int .i64 0]), 4, 24) := by kernel_rfl
/-- The workers, with whether they are engaged. -/
def tl (S : WS) : List (Bool × Hd) := (List.range S.n).map fun i => (S.eng i, S.hd i)
theorem tl_len (S : WS) : (tl S).length = S.n := by simp [tl]
theorem tl_at (S : WS) {i : Nat} (h : i < S.n) : (tl S)[i]'(by rw [tl_len]; exact h) = (S.eng i, S.hd i) := by simp [tl]
theorem tl_congr {S T : WS} (hn : S.n = T.n) (h : ∀ i, i < S.n → S.hd i = T.hd i) : tl S = tl T := by
  unfold tl
  rw [← hn]
  refine List.map_congr_left fun i hi => ?_
  have := h i (List.mem_range.1 hi)
  unfold WS.eng
  rw [this]
theorem tl_set (S : WS) {i : Nat} (h : Hd) (hi : i < S.n) : tl (S.set i h) = (tl S).set i (i == 0 || h.par != 0, h) := by
  apply List.ext_getElem
  · rw [List.length_set, tl_len, tl_len, n_set]
  · intro j h1 h2
    rw [tl_len, n_set] at h1
    rw [tl_at _ (by simpa using h1), List.getElem_set, hd_set _ _ _ _ hi]
    unfold WS.eng
    rw [hd_set _ _ _ _ hi]
    by_cases e : i = j
    · subst e; rw [if_pos rfl, if_pos rfl]
    · rw [if_neg (fun e' => e e'.symm), if_neg e, tl_at _ h1]; rfl
def OwnT (w : World) (B : Nat) (v : Value) (ts : List (Bool × Hd)) : Prop := w.ownsRow B 110 4 v ts.length (flat encT ts)
/-- The reference's computation that lies at `b`, its workers at `h`. -/
structure TkAt (w : World) (B b h c : Nat) (fv : Value) (S : WS) : Prop where
  Bb : B ≤ b
  bw : b < w.heap.size
  c0 : w.cell? ⟨b, 0, none⟩ = some (.slice (some ⟨h, 0, none⟩) S.n c)
  c1 : w.cell? ⟨b, 1, none⟩ = some fv
  fz : ∀ j, w.frozen? ⟨b, j, none⟩ = false
  hn : OwnT w B (.slice (some ⟨h, 0, none⟩) S.n c) (tl S)
  fl : OwnL w B fv S.fl
  bh : b ≠ h
  bf : fv.ownBlock ≠ some b
  hf : fv.ownBlock ≠ some h
theorem TkAt.pos {w : World} {B b h c : Nat} {fv : Value} {S : WS} (k : TkAt w B b h c fv S) : ∀ i, WkP b h fv i → B ≤ i ∧ i < w.heap.size := by
  rintro i (rfl | rfl | e)
  · exact ⟨k.Bb, k.bw⟩
  · exact World.ownsRow.lt k.hn _ rfl
  · exact World.ownsRow.lt k.fl _ e
theorem TkAt.keep {w w' : World} {B b h c : Nat} {fv : Value} {S : WS} (k : TkAt w B b h c fv S) (hs : w.heap.size ≤ w'.heap.size) (hb : ∀ i, WkP b h fv i → w'.heap[i]? = w.heap[i]?) : TkAt w' B b h c fv S where
  Bb := k.Bb
  bw := Nat.lt_of_lt_of_le k.bw hs
  c0 := (cell_block (hb b (.inl rfl))).trans k.c0
  c1 := (cell_block (hb b (.inl rfl))).trans k.c1
  fz := fun j => (frozen_block (hb b (.inl rfl))).trans (k.fz j)
  hn := own_block k.hn (fun i e => hb i (.inr (.inl (by injection e with e; exact e.symm))))
  fl := own_block k.fl (fun i e => hb i (.inr (.inr e)))
  bh := k.bh
  bf := k.bf
  hf := k.hf
theorem TkAt.below {w w' : World} {B b h c : Nat} {fv : Value} {S : WS} (k : TkAt w B b h c fv S) (hb : Below w.heap.size w w') : TkAt w' B b h c fv S :=
  k.keep hb.size (fun i hi => hb.block i (k.pos i hi).2)
theorem TkAt.lt_h {w : World} {B b h c : Nat} {fv : Value} {S : WS} (k : TkAt w B b h c fv S) : h < w.heap.size := (k.pos h (.inr (.inl rfl))).2
theorem TkAt.drew {w : World} {B b h c : Nat} {fv : Value} {S : WS} (k : TkAt w B b h c fv S) : TkAt w.drew B b h c fv S := ⟨k.Bb, k.bw, k.c0, k.c1, k.fz, k.hn, k.fl, k.bh, k.bf, k.hf⟩
theorem TkAt.hand {w : World} {B b h c : Nat} {fv : Value} {S : WS} (k : TkAt w B b h c fv S) {i : Nat} (hi : i < S.n) : w.cell? ⟨h, i * 4, none⟩ = some (.bool (S.hd i).wk) ∧ w.cell? ⟨h, i * 4 + 1, none⟩ = some (.bool (S.eng i)) ∧ w.cell? ⟨h, i * 4 + 2, none⟩ = some (.int .i64 (((S.hd i).par : Int) - 1)) ∧ w.cell? ⟨h, i * 4 + 3, none⟩ = some (.int .i64 (S.hd i).owed) ∧ (∀ j, w.frozen? ⟨h, j, none⟩ = false) := by
  have hh := k.hn
  unfold OwnT at hh
  rw [tl_len] at hh
  obtain ⟨ao, c', e, _, hc⟩ := own_cells hh
  obtain ⟨g, e1, _, _, hcl⟩ := hc (by omega)
  obtain rfl : h = g := by
    injection e with e _ _
    rw [← e] at e1
    injection e1 with e1; injection e1
  have hl : i < (tl S).length := by rw [tl_len]; exact hi
  have f := fun q hq => flat_at encT_len (tl S) i q hl hq
  rw [tl_at S hi] at f
  exact ⟨hcl _ _ (f 0 (by omega)), hcl _ _ (f 1 (by omega)), hcl _ _ (f 2 (by omega)), hcl _ _ (f 3 (by omega)), fun j => World.ownsRow.frozenAt hh j⟩
theorem TkAt.nc {w : World} {B b h c : Nat} {fv : Value} {S : WS} (k : TkAt w B b h c fv S) : S.n ≤ c := by
  obtain ⟨ao, c', e, hc, _⟩ := own_cells k.hn
  injection e with _ _ e
  rw [tl_len] at hc; omega
theorem TkAt.flv {w : World} {B b h c : Nat} {fv : Value} {S : WS} (k : TkAt w B b h c fv S) : ∃ ao fc, fv = .slice ao S.fl.length fc ∧ S.fl.length ≤ fc := by
  obtain ⟨ao, c', e, hc, _⟩ := own_cells k.fl
  exact ⟨ao, c', e, hc⟩
theorem OwnT.set {w : World} {B h n c : Nat} {ts : List (Bool × Hd)} (k : OwnT w B (.slice (some ⟨h, 0, none⟩) n c) ts) {i f : Nat} {x a : Bool × Hd} {u : Value} (hi : ts[i]? = some x) (hf : f < 4) (ha : encT a = (encT x).set f u) : OwnT (w.setCell ⟨h, i * 4 + f, none⟩ u) B (.slice (some ⟨h, 0, none⟩) n c) (ts.set i a) := by
  unfold OwnT at k ⊢
  obtain ⟨_, _, e, _⟩ := own_cells k
  obtain rfl : n = ts.length := by injection e
  have := (World.ownsRow.stored k (i * 4 + f) u).1
  have hl := (List.getElem?_eq_some_iff.1 hi).1
  rw [List.length_set, ← flat_set encT_len ts i f a u hl hf (fun b hb => by rw [hi] at hb; injection hb with hb; subst hb; exact ha)]
  exact this
/-- A worker is written to; its row may be ahead of the computation. -/
structure TkRow (w : World) (B b h c : Nat) (fv : Value) (n : Nat) (ts : List (Bool × Hd)) (ls : List Lt) : Prop where
  Bb : B ≤ b
  bw : b < w.heap.size
  c0 : w.cell? ⟨b, 0, none⟩ = some (.slice (some ⟨h, 0, none⟩) n c)
  c1 : w.cell? ⟨b, 1, none⟩ = some fv
  fz : ∀ j, w.frozen? ⟨b, j, none⟩ = false
  hn : OwnT w B (.slice (some ⟨h, 0, none⟩) n c) ts
  fl : OwnL w B fv ls
  bh : b ≠ h
  bf : fv.ownBlock ≠ some b
  hf : fv.ownBlock ≠ some h
theorem TkAt.row {w : World} {B b h c : Nat} {fv : Value} {S : WS} (k : TkAt w B b h c fv S) : TkRow w B b h c fv S.n (tl S) S.fl := ⟨k.Bb, k.bw, k.c0, k.c1, k.fz, k.hn, k.fl, k.bh, k.bf, k.hf⟩
theorem TkRow.at {w : World} {B b h c n : Nat} {fv : Value} {ts : List (Bool × Hd)} {ls : List Lt} {S : WS} (k : TkRow w B b h c fv n ts ls) (hn : n = S.n) (ht : ts = tl S) (hl : ls = S.fl) : TkAt w B b h c fv S := by
  subst hn ht hl; exact ⟨k.Bb, k.bw, k.c0, k.c1, k.fz, k.hn, k.fl, k.bh, k.bf, k.hf⟩
theorem TkRow.drew {w : World} {B b h c n : Nat} {fv : Value} {ts : List (Bool × Hd)} {ls : List Lt} (k : TkRow w B b h c fv n ts ls) : TkRow w.drew B b h c fv n ts ls := ⟨k.Bb, k.bw, k.c0, k.c1, k.fz, k.hn, k.fl, k.bh, k.bf, k.hf⟩
theorem TkRow.setT {w : World} {B b h c n : Nat} {fv : Value} {ts : List (Bool × Hd)} {ls : List Lt} (k : TkRow w B b h c fv n ts ls) {i f : Nat} {x a : Bool × Hd} {u : Value} (hi : ts[i]? = some x) (hf : f < 4) (ha : encT a = (encT x).set f u) : TkRow (w.setCell ⟨h, i * 4 + f, none⟩ u) B b h c fv n (ts.set i a) ls where
  Bb := k.Bb
  bw := by simpa using k.bw
  c0 := by rw [World.cell?_setCell_other _ _ _ _ (by have := k.bh; simp <;> omega)]; exact k.c0
  c1 := by rw [World.cell?_setCell_other _ _ _ _ (by have := k.bh; simp <;> omega)]; exact k.c1
  fz := fun j => by rw [World.frozen?_setCell]; exact k.fz j
  hn := OwnT.set k.hn hi hf ha
  fl := ownsRow_setCell_other k.fl k.hf _
  bh := k.bh
  bf := k.bf
  hf := k.hf
/-- Another row of letters is laid. -/
theorem TkRow.setF {w w' : World} {B b h c n : Nat} {fv fv' : Value} {ts : List (Bool × Hd)} {ls fl' : List Lt} (k : TkRow w B b h c fv n ts ls) (hs : Below w.heap.size w w') (hl : OwnL w' w.heap.size fv' fl') : TkRow (w'.setCell ⟨b, 1, none⟩ fv') B b h c fv' n ts fl' := by
  have hhw : h < w.heap.size := (World.ownsRow.lt k.hn _ rfl).2
  have hBw : B ≤ w.heap.size := Nat.le_trans k.Bb (Nat.le_of_lt k.bw)
  have hnw : ∀ i, i < w.heap.size → fv'.ownBlock ≠ some i := fun i hi e => by have := (World.ownsRow.lt hl _ e).1; omega
  refine ⟨k.Bb, ?_, ?_, ?_, fun j => ?_, ?_, ?_, k.bh, hnw b k.bw, hnw h hhw⟩
  · simpa using Nat.lt_of_lt_of_le k.bw hs.size
  · rw [World.cell?_setCell_other _ _ _ _ (by simp)]; exact (hs.cell (p := ⟨b, 0, none⟩) k.bw).trans k.c0
  · rw [World.cell?_setCell_same' _ _ _ (by rw [hs.cell (p := ⟨b, 1, none⟩) k.bw, k.c1]; rfl)]
  · rw [World.frozen?_setCell]; exact (hs.frozen (p := ⟨b, j, none⟩) k.bw).trans (k.fz j)
  · exact ownsRow_setCell_other (own_below k.hn hs) (by intro e; injection e with e; exact k.bh e.symm) _
  · exact own_base (ownsRow_setCell_other hl (hnw b k.bw) _) hBw
def TkEnd (w : World) (B b h c : Nat) (fv : Value) (S : WS) (ev : Value) (e : Ending) (w' : World) : Prop := e = .returned ev ∧ ∃ fv', TkAt w' B b h c fv' S ∧ Frm (WkP b h fv) (WkP b h fv') w w'
/-- append(s, src...) of structs, at one step of a region that draws its order: into memory that is new. -/
theorem step_flat {ops : Array Oper} {o : Oper} {a : Act} {w : World} {K : Act → World → Prop} {Q : Exit → Act → World → Prop} {E : Prop} {B m n z bytes : Nat} {t e : TypeId} {i0 : TypeInfo} {zv : Value} (ht : Try.prog.underlying t = some (.slice e)) (hi : Try.prog.info? e = some i0) (hz0 : i0.zero = some zv) (hz1 : i0.size = z) (hz2 : i0.bytes = bytes) (hzc : zv.cells.size = z) (hz : 0 < z) (hby : bytes ≤ 100)
    (hg : o.guard = none) (s x : Operand) (hop : o.op = Op.call { callee := Callee.builtin Builtin.append, args := #[s, x], argTypes := #[t, t] })
    {v xv : Value} {xs ys : List Value} (hown : w.ownsRow B e z v n xs) (hs : a.eval s = v) (hxv : a.eval x = xv) (hx : FlatR w z xv m ys) (h1 : ∀ u ∈ ys, u.oneCell' = true) (hlen : n + m ≤ 1000000) (hB : B ≤ w.heap.size)
    (hK : ∀ v' w', w'.ownsRow B e z v' (n + m) (xs ++ ys) → Below B w w' → (∀ g, g < w.heap.size → v.ownBlock ≠ some g → w'.heap[g]? = w.heap[g]?) → K (a.put o.dst v') w') :
    if Region.wanted o (yielded ops a.tmps) = true then Oper.wp Try.prog o a w K Q else E := by
  have hw : Region.wanted o (yielded ops a.tmps) = true := by simp [Region.wanted, hg]
  rw [if_pos hw]
  obtain ⟨h0, ao, c, rfl, hc, hnone, hcl⟩ := hx
  have hfin : ∃ v' w', (Builtin.append_ #[t, t] o.type #[v, .slice ao m c]).run Try.prog w = .ok v' w' ∧ w'.ownsRow B e z v' (n + m) (xs ++ ys) ∧ w.grownBy w' v.ownBlock := by
    cases ao with
    | none =>
      have := hnone rfl; subst this
      obtain rfl : m = 0 := by omega
      obtain rfl : ys = [] := List.length_eq_zero_iff.1 (by rw [h0]; omega)
      exact ⟨v, w, run_append_owned_none (P := Try.prog) (w := w) B t o.type e i0 z ht hi v n xs hown, by rw [List.append_nil]; exact hown, ⟨rfl, rfl, rfl, Nat.le_refl _, fun _ _ _ => rfl⟩⟩
    | some ad =>
      have hnews : ∀ j u, ys[j]? = some u → w.cell? (ad.add j) = some u := fun j u hj => by
        by_cases hm : m = 0
        · subst hm
          have := (List.getElem?_eq_some_iff.1 hj).1
          rw [h0] at this; omega
        · obtain ⟨g, o, e1, _, hcell⟩ := hcl hm
          obtain rfl : ad = ⟨g, o, none⟩ := by injection e1
          rw [Addr.add_lit]
          exact hcell j u hj
      obtain ⟨v', w', hrun, r1, r2, _⟩ := run_append_own (P := Try.prog) w B t o.type e i0 zv z bytes ht hi hz0 hz1 hz2 hzc hz v n xs hown ad m c ys h0 hnews h1 (by unfold maxLen; omega)
        (Nat.le_trans (Nat.mul_le_mul hlen hby) (by omega)) hB
      exact ⟨v', w', hrun, r1, r2⟩
  obtain ⟨v', w', hrun, r1, r2⟩ := hfin
  unfold Oper.wp
  simp [execOp, hop, resolve, invoke, builtin, hs, hxv, hrun, Result.andThen]
  exact hK v' w' r1 ((Below.refl B w).grown r2 hB (fun k hk => (World.ownsRow.lt hown k hk).1)) (fun g hg hne => r2.block g hg (fun e => hne e.symm))
end Go.Proofs.Ytbemlfppekpmjaa
