import Derived.Test.YtpcjigdmfchbdaaDoorS
import Derived.Deep.CutRange
namespace Go.Proofs.YtpcjigdmfchbdaaDoor
open Go.RowKit Go.Shelf Cl

/-! ## Disputes are read -/
theorem csD_zero : csD 0 [] = #[.int .i64 0, .int .u64 0, .int .u64 0, .int .u64 0, .int .u64 0, .int .u64 0, .int .u64 0, .int .u64 0, .int .u64 0, .int .u64 0, .int .u64 0, .int .u64 0, .int .u64 0, .int .u64 0, .int .u64 0, .int .u64 0, .int .u64 0, .int .u64 0, .int .u64 0, .int .u64 0, .int .u64 0, .int .u64 0, .int .u64 0, .int .u64 0, .int .u64 0] := rfl
theorem csD_nil (n : Nat) : csD n [] = #[.int .i64 (n : Int), .int .u64 0, .int .u64 0, .int .u64 0, .int .u64 0, .int .u64 0, .int .u64 0, .int .u64 0, .int .u64 0, .int .u64 0, .int .u64 0, .int .u64 0, .int .u64 0, .int .u64 0, .int .u64 0, .int .u64 0, .int .u64 0, .int .u64 0, .int .u64 0, .int .u64 0, .int .u64 0, .int .u64 0, .int .u64 0, .int .u64 0, .int .u64 0] := rfl
theorem csD_size (n : Nat) (L : Atts) : (csD n L).size = 25 := rfl
theorem csD_one (n : Nat) (L : Atts) : (csD n L).all (·.oneCell') = true := by simp [csD, Value.oneCell']
theorem size_setCells (b : Nat) : ∀ (vs : List Value) (o : Nat) (w : World), (w.setCells b o vs).heap.size = w.heap.size
  | [], _, _ => rfl
  | v :: r, o, w => by rw [World.setCells, size_setCells b r]; simp
theorem below_setC {B g : Nat} {W0 : World} (hg : B ≤ g) : ∀ (vs : List Value) (o : Nat) (w : World), Below B W0 w → Below B W0 (w.setCells g o vs)
  | [], _, _, h => h
  | _ :: vs, o, _, h => below_setC hg vs (o + 1) _ (below_set h hg)
/-- A block of 25 cells that may be written. -/
def Th (W : World) (b : Nat) : Prop := b < W.heap.size ∧ W.there b 0 25
theorem Th.new (W : World) (cs : Array Value) (t : TypeId) (h : cs.size = 25) : Th (W.alloc (.cells cs t)) W.heap.size := ⟨by simp, fun j hj => ⟨by rw [Nat.zero_add, cells_new, Array.getElem?_eq_getElem (by omega)]; rfl, frozen_of_row _ _ _ _ t (heap_alloc_new W (.cells cs t))⟩⟩
theorem Th.below {W W' : World} {b : Nat} (h : Th W b) (hb : Below W.heap.size W W') : Th W' b := ⟨Nat.lt_of_lt_of_le h.1 hb.size, fun j hj => by
  rw [hb.cell (p := ⟨b, 0 + j, none⟩) h.1, hb.frozen (p := ⟨b, 0 + j, none⟩) h.1]; exact h.2 j hj⟩
theorem DAt.stored {W : World} {b n : Nat} {L : Atts} (h : Th W b) : DAt (W.setCells b 0 (csD n L).toList) b n L := ⟨by rw [size_setCells]; exact h.1, fun j v hj => by
  have := World.rangeAt_setCells_same W b 0 (csD n L).toList (by rw [Array.length_toList, csD_size]; exact h.2) j v (by simpa using hj)
  rwa [Nat.zero_add] at this⟩
/-- A store of a dispute. -/
theorem ws74 {ops : Array Oper} {rest : List Oper} {o : Oper} {a : Act} {Q : Exit → Act → World → Prop} {W : World} {b n : Nat} {L : Atts} (hw : Region.wanted o (yielded ops a.tmps) = true) (x y : Operand) (ho : o.op = .store 74 x y)
    (hx : a.eval x = .pointer (some ⟨b, 0, none⟩)) (hy : a.eval y = .agg (csD n L)) (h : Th W b) (hK : ∀ W', W' = W.setCells b 0 (csD n L).toList → wpList Tryd.prog ops Q rest (a.put o.dst undef) W') : wpList Tryd.prog ops Q (o :: rest) a W := by
  unfold wpList
  rw [if_pos hw]
  exact .inl (wp_store_mid (P := Tryd.prog) 74 x y ho b 0 (csD n L) hx hy (by rw [csD_size]; exact h.2) (by rw [csD_size]; exact size74) (csD_one n L) (hK _ rfl))
theorem results_cell_tmpR {fn : Func} {p t : Tmp} {b n : Nat} {L : Atts} {w : World} (h : fn.results = #[.cell p 74, .tmp t]) (tmps : Array Value) (hp : tmps.getD p undef = .pointer (some ⟨b, 0, none⟩)) (hd : DAt w b n L) :
    (results fn tmps).run Tryd.prog w = .ok (.tuple #[.agg (csD n L), tmps.getD t undef]) w := by
  have hl := run_loadVar_mid (P := Tryd.prog) w b 0 74 (csD n L).toList _ (fun j v hj => by rw [Nat.zero_add]; exact hd.2 j v (by simpa using hj)) Tryd.underlying74 rfl size74
  have hp' : tmps[p]?.getD undef = .pointer (some ⟨b, 0, none⟩) := by simpa using hp
  simp [results, h, hp', asAddr, hl]
theorem results_cell_tmp2R {fn : Func} {p t u : Tmp} {b n : Nat} {L : Atts} {w : World} (h : fn.results = #[.cell p 74, .tmp t, .tmp u]) (tmps : Array Value) (hp : tmps.getD p undef = .pointer (some ⟨b, 0, none⟩)) (hd : DAt w b n L) :
    (results fn tmps).run Tryd.prog w = .ok (.tuple #[.agg (csD n L), tmps.getD t undef, tmps.getD u undef]) w := by
  have hl := run_loadVar_mid (P := Tryd.prog) w b 0 74 (csD n L).toList _ (fun j v hj => by rw [Nat.zero_add]; exact hd.2 j v (by simpa using hj)) Tryd.underlying74 rfl size74
  have hp' : tmps[p]?.getD undef = .pointer (some ⟨b, 0, none⟩) := by simpa using hp
  simp [results, h, hp', asAddr, hl]

/-- The pairs, as numbers that aren't negative. -/
def natP (ps : List (Int × Int)) : Atts := ps.map fun p => (p.1.toNat, p.2.toNat)
def okP (n : Int) (p : Int × Int) : Bool := decide (0 ≤ p.1) && decide (0 ≤ p.2) && decide (p.1 < n) && decide (p.2 < n)
def vldB (n : Int) (ps : List (Int × Int)) : Bool := decide (1 ≤ n) && decide (n ≤ 12) && decide (ps.length ≤ 40) && ps.all (okP n)
def encP (p : Int × Int) : List Value := [.int .i64 p.1, .int .i64 p.2]
theorem encP_len (p : Int × Int) : (encP p).length = 2 := rfl
/-- A row of pairs. -/
def ReadsP (w : World) (v : Value) (ps : List (Int × Int)) : Prop := FlatR w 2 v ps.length (flat encP ps)
theorem ReadsP.below {w w' : World} {v : Value} {ps : List (Int × Int)} (h : ReadsP w v ps) (hb : Below w.heap.size w w') : ReadsP w' v ps := FlatR.below h hb
theorem ReadsP.at {w : World} {v : Value} {ps : List (Int × Int)} (h : ReadsP w v ps) : ∃ ao c, v = .slice ao ps.length c ∧ (ps ≠ [] → ∃ g o, ao = some ⟨g, o, none⟩ ∧ g < w.heap.size ∧ ∀ k, k < ps.length → w.cell? ⟨g, o + k * 2, none⟩ = some (.int .i64 (ps.getD k (0, 0)).1) ∧ w.cell? ⟨g, o + k * 2 + 1, none⟩ = some (.int .i64 (ps.getD k (0, 0)).2)) := by
  obtain ⟨_, ao, c, rfl, _, _, hcl⟩ := h
  refine ⟨ao, c, rfl, fun hne => ?_⟩
  obtain ⟨g, o, rfl, hg, hc⟩ := hcl (fun e => hne (List.length_eq_zero_iff.1 e))
  refine ⟨g, o, rfl, hg, fun k hk => ?_⟩
  have e : ps.getD k (0, 0) = ps[k] := by rw [List.getD_eq_getElem?_getD, List.getElem?_eq_getElem hk]; rfl
  have h0 := flat_at encP_len ps k 0 hk (by decide)
  have h1 := flat_at encP_len ps k 1 hk (by decide)
  rw [e]
  exact ⟨hc _ _ h0, by have := hc _ _ h1; rwa [← Nat.add_assoc] at this⟩
theorem tg_snoc (L : Atts) (a b i : Nat) : tg (L ++ [(a, b)]) i = if i = a then tg L i ||| 2 ^ b else tg L i := by
  unfold tg
  rw [List.foldl_append]
  by_cases h : a = i
  · subst h; simp
  · have h' : ¬ i = a := fun e => h e.symm
    simp [h, h']
theorem ag_snoc (L : Atts) (a b i : Nat) : ag (L ++ [(a, b)]) i = if i = b then ag L i ||| 2 ^ a else ag L i := by
  unfold ag
  rw [List.foldl_append]
  by_cases h : b = i
  · subst h; simp
  · have h' : ¬ i = b := fun e => h e.symm
    simp [h, h']
/-- A dispute in memory that is being read. -/
structure DF (W : World) (b n : Nat) (t a : Nat → Nat) : Prop where
  lt : b < W.heap.size
  c0 : W.cell? ⟨b, 0, none⟩ = some (.int .i64 (n : Int))
  ct : ∀ i, i < 12 → W.cell? ⟨b, 1 + i, none⟩ = some (.int .u64 (t i : Int))
  ca : ∀ i, i < 12 → W.cell? ⟨b, 13 + i, none⟩ = some (.int .u64 (a i : Int))
  fz : ∀ j, W.frozen? ⟨b, j, none⟩ = false
theorem DF.keep {W W' : World} {b n : Nat} {t a : Nat → Nat} (h : DF W b n t a) (hb : Below W.heap.size W W') : DF W' b n t a :=
  ⟨Nat.lt_of_lt_of_le h.lt hb.size, (hb.cell (p := ⟨b, 0, none⟩) h.lt).trans h.c0, fun i hi => (hb.cell (p := ⟨b, 1 + i, none⟩) h.lt).trans (h.ct i hi), fun i hi => (hb.cell (p := ⟨b, 13 + i, none⟩) h.lt).trans (h.ca i hi), fun j => (hb.frozen (p := ⟨b, j, none⟩) h.lt).trans (h.fz j)⟩
theorem DF.same {W : World} {b n : Nat} {t a t' a' : Nat → Nat} (h : DF W b n t a) (ht : ∀ i, t i = t' i) (ha : ∀ i, a i = a' i) : DF W b n t' a' :=
  ⟨h.lt, h.c0, fun i hi => by rw [← ht]; exact h.ct i hi, fun i hi => by rw [← ha]; exact h.ca i hi, h.fz⟩
theorem cell_other {W : World} {b i j : Nat} {u : Value} (h : i ≠ j) : (W.setCell ⟨b, i, none⟩ u).cell? ⟨b, j, none⟩ = W.cell? ⟨b, j, none⟩ :=
  World.cell?_setCell_other _ _ _ _ (by intro e; simp only [Addr.mk.injEq] at e; exact h e.2.1)
theorem DF.setT {W : World} {b n A y : Nat} {t a : Nat → Nat} (h : DF W b n t a) (hA : A < 12) : DF (W.setCell ⟨b, 1 + A, none⟩ (.int .u64 (y : Int))) b n (fun i => if i = A then y else t i) a := by
  refine ⟨by simpa using h.lt, (cell_other (by omega)).trans h.c0, fun i hi => ?_, fun i hi => (cell_other (by omega)).trans (h.ca i hi), fun j => by rw [World.frozen?_setCell]; exact h.fz j⟩
  by_cases e : i = A
  · subst e
    rw [if_pos rfl]
    exact World.cell?_setCell_same' _ _ _ (by rw [h.ct i hi]; rfl)
  · rw [if_neg e]
    exact (cell_other (by omega)).trans (h.ct i hi)
theorem DF.setA {W : World} {b n A y : Nat} {t a : Nat → Nat} (h : DF W b n t a) (hA : A < 12) : DF (W.setCell ⟨b, 13 + A, none⟩ (.int .u64 (y : Int))) b n t (fun i => if i = A then y else a i) := by
  refine ⟨by simpa using h.lt, (cell_other (by omega)).trans h.c0, fun i hi => (cell_other (by omega)).trans (h.ct i hi), fun i hi => ?_, fun j => by rw [World.frozen?_setCell]; exact h.fz j⟩
  by_cases e : i = A
  · subst e
    rw [if_pos rfl]
    exact World.cell?_setCell_same' _ _ _ (by rw [h.ca i hi]; rfl)
  · rw [if_neg e]
    exact (cell_other (by omega)).trans (h.ca i hi)
theorem DF.dat {W : World} {b n : Nat} {L : Atts} (h : DF W b n (tg L) (ag L)) : DAt W b n L := by
  refine ⟨h.lt, fun j v hj => ?_⟩
  have hlt : j < 25 := (Array.getElem?_eq_some_iff.1 hj).1
  by_cases h0 : j = 0
  · subst h0
    have : some (Value.int .i64 (n : Int)) = some v := hj
    rw [← this]; exact h.c0
  · by_cases h1 : j < 13
    · have e := csD_t n L (j - 1) (by omega)
      rw [show 1 + (j - 1) = j by omega, hj] at e
      have := h.ct (j - 1) (by omega)
      rw [show 1 + (j - 1) = j by omega] at this
      rw [this, e]
    · have e := csD_a n L (j - 13) (by omega)
      rw [show 13 + (j - 13) = j by omega, hj] at e
      have := h.ca (j - 13) (by omega)
      rw [show 13 + (j - 13) = j by omega] at this
      rw [this, e]
theorem DAt.df {W : World} {b n : Nat} {L : Atts} (h : DAt W b n L) (hf : ∀ j, W.frozen? ⟨b, j, none⟩ = false) : DF W b n (tg L) (ag L) :=
  ⟨h.1, h.c0, fun i hi => h.2 _ _ (csD_t n L i hi), fun _ hi => h.ca hi, hf⟩
def ReadEnd (w : World) (n : Int) (ps : List (Int × Int)) (e : Ending) (w' : World) : Prop :=
  ((vldB n ps = true ∧ e = .returned (.tuple #[.agg (csD n.toNat (natP ps)), .int .i64 0])) ∨ (vldB n ps = false ∧ e = .returned (.tuple #[.agg (csD 0 []), .int .i64 1]))) ∧ Below w.heap.size w w'
end Go.Proofs.YtpcjigdmfchbdaaDoor
