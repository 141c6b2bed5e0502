import Derived.Test.YtbcoaiaocfommaaSc
import Derived.Test.YtbcoaiaocfommaaBf
import Derived.RangeFuncWrites
import Derived.RangeFuncBox
import Derived.Maps.OwnIn
import Derived.Maps.AppendAt
import Derived.Deep.AppendLies
namespace Go.Proofs.Ytbcoaiaocfommaa
open Go.RowKit Go.Shelf

/-! ## marks that loops over a function leave behind -/
def mark (D : Nat) : Deferred := { target := .collected D, args := #[] }
def Marks (W : World) (B : Nat) (Ds : List Nat) : Prop := Ds.Nodup ∧ ∀ D ∈ Ds, B ≤ D ∧ W.heap[D]? = some (.deferred (some []))
theorem Marks.lt {W : World} {B : Nat} {Ds : List Nat} (h : Marks W B Ds) {D : Nat} (hD : D ∈ Ds) : D < W.heap.size := (Array.getElem?_eq_some_iff.1 (h.2 D hD).2).1
theorem Marks.tail {W : World} {B D : Nat} {Ds : List Nat} (h : Marks W B (D :: Ds)) (o : Obj) : Marks (W.putObj D o) B Ds :=
  ⟨(List.nodup_cons.1 h.1).2, fun E hE => ⟨(h.2 E (List.mem_cons_of_mem _ hE)).1, by
    rw [World.putObj_heap_other (k := E) (r := D) (fun e => (List.nodup_cons.1 h.1).1 (by rw [← e]; exact hE))]
    exact (h.2 E (List.mem_cons_of_mem _ hE)).2⟩⟩
theorem Marks.below {W W' : World} {B : Nat} {Ds : List Nat} (h : Marks W B Ds) (hb : Below W.heap.size W W') : Marks W' B Ds :=
  ⟨h.1, fun D hD => ⟨(h.2 D hD).1, by rw [hb.block D (h.lt hD)]; exact (h.2 D hD).2⟩⟩
theorem Marks.cons {W : World} {B D N : Nat} {Ds : List Nat} (h : Marks W B Ds) (hlt : ∀ E ∈ Ds, E < N) (hN : N ≤ D) (hB : B ≤ D) (hD : W.heap[D]? = some (.deferred (some []))) : Marks W B (D :: Ds) :=
  ⟨List.nodup_cons.2 ⟨fun hm => by have := hlt D hm; omega, h.1⟩, fun E hE => by
    rcases List.mem_cons.1 hE with rfl | hE
    · exact ⟨hB, hD⟩
    · exact h.2 E hE⟩

theorem leaves_marks {F : Fence} {n : Nat} {P : Program} {fn : Func} {tmps : Array Value} {R : Ending → World → Prop} (B : Nat) (Pr : World → Prop)
    (hP : ∀ W D, Pr W → B ≤ D → W.heap[D]? = some (.deferred (some [])) → Pr (W.putObj D (.deferred none)))
    (hR : ∀ W, Pr W → ∃ v, (results fn tmps).run P W = .ok v W ∧ R (.returned v) W) : ∀ (Ds : List Nat) (W : World), Pr W → Marks W B Ds → LeavesInM F n P fn tmps R (Ds.map mark) .returning W := by
  intro Ds
  induction Ds with
  | nil => exact fun W h _ => hR W h
  | cons D Ds ih =>
    intro W h hm
    have hD := hm.2 D (List.mem_cons_self ..)
    exact ⟨by simp, .inl ⟨D, _, rfl, run_takeDeferred hD.2, ih _ (hP W D h hD.1 hD.2) (hm.tail _)⟩⟩

theorem below_put {B D : Nat} {w W : World} (h : Below B w W) (hB : B ≤ D) (hD : W.heap[D]? = some (.deferred (some []))) : Below B w (W.putObj D (.deferred none)) :=
  h.trans ((Below.refl B W).grown (grownBy_putObj' W D _) (by have := (Array.getElem?_eq_some_iff.1 hD).1; omega) (fun k e => by cases e; exact hB))

/-! ## 'len(m)' and append within a fence -/
theorem wpListIn_len_own {H : Type} {F : Fence} {nF : Nat} {P : Program} {w : World} {ops : Array Oper} {rest : List Oper} {o : Oper} {a : Act} {Q : Exit → Act → World → Prop}
    (hg : o.guard = none) (m : Operand) (t : TypeId) (hop : o.op = Op.call { callee := Callee.builtin Builtin.len, args := #[m], argTypes := #[t] })
    (k e : TypeId) (ht : P.underlying t = some (.map k e)) (R : Value → Option (DataW H × List MemPlace)) (b n : Nat) (D : DataW H) (hm : a.eval m = .map (some b)) (hown : w.ownsMap P k R b n D)
    (hK : wpListIn F nF P ops Q rest (a.put o.dst (.int .i64 (Maps.size D))) w) :
    wpListIn F nF P ops Q (o :: rest) a w := by
  refine wpListIn_plain hg fun K' hK' => ?_
  unfold Oper.wpIn
  refine ⟨?_, ?_⟩
  · simp [Oper.about, hop, resolve, Target.leads, Sem.run_pure]
  · rw [Oper.semAt_plain F _ _ (by rw [hop]; intro c hc'; cases hc')]
    simp [execOp, hop, resolve, invoke, builtin, hm, hown.len ht o.type, Result.andThen]
    exact hK' _ _ hK

theorem app_int_in {F : Fence} {nF : Nat} {ops : Array Oper} {rest : List Oper} {o : Oper} {a : Act} {Q : Exit → Act → World → Prop} {w : World} {B : Nat} {v : Value} {xs : List Int} {y : Int}
    (hown : Ints w B v xs) (hlen : xs.length ≤ 1000000000) (hB : B ≤ w.heap.size) (hgd : o.guard = none) (s x : Operand)
    (ho : o.op = .call { callee := .builtin .append, args := #[s, x], argTypes := #[23, 23] }) (hs : a.eval s = v) (hx : a.eval x = .slice (some ⟨w.heap.size, 0, none⟩) 1 1)
    (h : ∀ v' w', Ints w' B v' (xs ++ [y]) → Below B w w' → (∀ (D : Nat) ds, w.heap[D]? = some (.deferred ds) → w'.heap[D]? = some (.deferred ds)) → wpListIn F nF Try.prog ops Q rest (a.put o.dst v') w') : wpListIn F nF Try.prog ops Q (o :: rest) a (w.alloc (.cells #[.int .i64 y] 3)) := by
  obtain ⟨i0, hi, hz0, hz1, hz2⟩ := info_parts info3
  refine wpListIn_append_own _ hgd s x 23 ho B 3 i0 (.int .i64 0) 1 8 Try.underlying23 hi hz0 hz1 hz2 rfl (by decide) v xs.length (xs.map (Value.int .i64)) hs (World.ownsRow.alloc hown _) ⟨w.heap.size, 0, none⟩ 1 1 [.int .i64 y] hx rfl ?_ ?_ ?_ ?_ ?_ ?_
  · exact cell_one_new _ _ _
  · intro u hu; simp at hu; subst hu; rfl
  · unfold maxLen; omega
  · omega
  · simp; omega
  · intro v' w' h2 h3 _
    refine h v' w' ?_ ?_ ?_
    · unfold Ints; simpa using h2
    · exact ((Below.refl B w).alloc hB _).grown h3 (by simp; omega) (fun k hk => (World.ownsRow.lt hown k hk).1)
    · intro D ds hD
      have hlt := (Array.getElem?_eq_some_iff.1 hD).1
      have hne : some D ≠ v.ownBlock := by
        intro e
        rcases hown.2 with hn | ⟨g, cap, cur, hg0, hB0, hg, rest⟩
        · rw [hn.1] at e; cases e
        · rw [hg0] at e
          have : D = g := by simpa [Value.ownBlock] using e
          subst this
          rw [hg] at hD; cases hD
      rw [h3.block D (by simp; omega) hne, (World.grownBy_alloc w _ none).block D hlt (by simp)]
      exact hD

/-! ## a set of strings as a map -/
def keyL (x : Ltr) : Lit := .string x.1.data.toList
def setD (xs : List Ltr) : DataW Unit := Maps.setOf (.lit (.bool true)) (xs.map keyL)
def setL (xs : List (List UInt8)) : List (List UInt8) := xs.foldl addS []
theorem setD_snoc (xs : List Ltr) (x : Ltr) : setD (xs ++ [x]) = (setD xs).put (keyL x) (.lit (.bool true)) := by
  unfold setD
  rw [List.map_append]
  exact Maps.setOf_snoc _ _ _
theorem addKey_str (acc : List (List UInt8)) (y : List UInt8) : Maps.addKey (acc.map Lit.string) (.string y) = (addS acc y).map Lit.string := by
  unfold Maps.addKey addS
  have e : ((acc.map Lit.string).any fun z => z.sameKey (.string y)) = acc.contains y := by
    rw [List.any_map, Bool.eq_iff_iff, List.any_eq_true, List.contains_iff_mem]
    constructor
    · rintro ⟨z, hz, h⟩
      have : z = y := by simpa [Lit.sameKey] using h
      exact this ▸ hz
    · intro h
      exact ⟨y, h, by simp [Lit.sameKey]⟩
  rw [e]
  split <;> simp
theorem fold_str (xs : List (List UInt8)) : ∀ acc : List (List UInt8), (xs.map Lit.string).foldl Maps.addKey (acc.map Lit.string) = (xs.foldl addS acc).map Lit.string := by
  induction xs with
  | nil => intro acc; rfl
  | cons x xs ih => intro acc; rw [List.map_cons, List.foldl_cons, addKey_str, ih]; rfl
theorem size_setD (xs : List Ltr) : Maps.size (setD xs) = (setL (xs.map fun x => x.1.data.toList)).length := by
  unfold setD
  rw [Maps.size_setOf]
  · have h := fold_str (xs.map fun x => x.1.data.toList) []
    rw [List.map_map] at h
    have e : (xs.map keyL) = xs.map (Lit.string ∘ fun x : Ltr => x.1.data.toList) := rfl
    rw [e]
    show (List.foldl Maps.addKey (List.map Lit.string []) _).length = _
    rw [h, List.length_map]; rfl
  · intro x hx
    obtain ⟨y, _, rfl⟩ := List.mem_map.1 hx
    trivial
theorem key_ltr (x : Ltr) : keyOf Try.prog 9 (.string x.1) = some (keyL x) := by
  refine WideMaps.keyOf_string_mk Try.underlying9 ?_
  have := x.2
  unfold maxLen; omega
theorem setL_parts (s : ByteArray) (hs : s.size ≤ 1000) (m k : Nat) : setL ((partsUp s hs m k).map fun x => x.1.data.toList) = paRow s.data.toList m k := by
  unfold setL paRow partsUp
  rw [List.map_map, List.foldl_map]
  congr 1
  funext seen i
  show addS seen (partAt s hs m i).1.data.toList = _
  unfold partAt
  rw [subL_extract]
end Go.Proofs.Ytbcoaiaocfommaa
