import Derived.Test.YtfobdlllghpelaaXb
import Derived.Test.YtfobdlllghpelaaXd
import Derived.Test.YtfobdlllghpelaaA
import Derived.Maps.AppendAt
import Derived.Deep.RegionHeld3
import Derived.Deep.AppendLies
import Derived.Test.YtfobdlllghpelaaZs
import Derived.Test.YtfobdlllghpelaaZb
section
namespace Go.Proofs.Ytfobdlllghpelaa
open Go.RowKit Go.Shelf Pair

/-- The costs with a number added to each cost of row `a`. -/
def moreC (cs : List (List Int)) (n a : Nat) (d : Int) : List (List Int) := (List.range n).map fun i => if i = a then (cs.getD i []).map (· + d) else cs.getD i []
def exch (a b i : Nat) : Nat := if i = a then b else if i = b then a else i
/-- The costs with two rows exchanged. -/
def swapC (cs : List (List Int)) (n a b : Nat) : List (List Int) := (List.range n).map fun i => cs.getD (exch a b i) []
theorem exch_exch (a b i : Nat) : exch a b (exch a b i) = i := by
  unfold exch
  by_cases h1 : i = a
  · subst h1
    by_cases h2 : b = i
    · subst h2; simp
    · simp [h2]
  · by_cases h2 : i = b
    · subst h2; simp [h1]
    · simp [h1, h2]
theorem exch_lt {a b i n : Nat} (ha : a < n) (hb : b < n) (hi : i < n) : exch a b i < n := by
  unfold exch
  split
  · exact hb
  · split
    · exact ha
    · exact hi
theorem exch_inj {a b i j : Nat} (h : exch a b i = exch a b j) : i = j := by
  have := congrArg (exch a b) h
  rwa [exch_exch, exch_exch] at this
theorem more_row {cs : List (List Int)} {n a i : Nat} {d : Int} (hi : i < n) : (moreC cs n a d).getD i [] = if i = a then (cs.getD i []).map (· + d) else cs.getD i [] := by
  unfold moreC; simp [List.getD_eq_getElem?_getD, hi]
theorem swap_row {cs : List (List Int)} {n a b i : Nat} (hi : i < n) : (swapC cs n a b).getD i [] = cs.getD (exch a b i) [] := by
  unfold swapC; simp [List.getD_eq_getElem?_getD, hi]
theorem more_at {cs : List (List Int)} {n a i j : Nat} {d : Int} (hg : Good cs n) (hi : i < n) (hj : j < n) : costAt (moreC cs n a d) i j = costAt cs i j + (if i = a then d else 0) := by
  unfold costAt
  rw [more_row hi]
  by_cases e : i = a
  · rw [if_pos e, if_pos e]
    have hl : j < (cs.getD i []).length := by rw [hg.row i hi]; exact hj
    rw [List.getD_eq_getElem?_getD, List.getElem?_map, List.getD_eq_getElem?_getD (l := cs.getD i []), List.getElem?_eq_getElem hl]
    rfl
  · rw [if_neg e, if_neg e]; omega
theorem swap_at {cs : List (List Int)} {n a b i j : Nat} (hi : i < n) : costAt (swapC cs n a b) i j = costAt cs (exch a b i) j := by
  unfold costAt; rw [swap_row hi]
theorem more_good {cs : List (List Int)} {n a : Nat} {d : Int} (hg : Good cs n) (h0 : 0 ≤ d) (hb : ∀ i j, i < n → j < n → costAt cs i j + d ≤ 1000) : Good (moreC cs n a d) n where
  len := by simp [moreC]
  one := hg.one
  eight := hg.eight
  row := fun i hi => by
    rw [more_row hi]
    by_cases e : i = a
    · rw [if_pos e, List.length_map]; exact hg.row i hi
    · rw [if_neg e]; exact hg.row i hi
  bd := fun i j hi hj => by
    rw [more_at hg hi hj]
    have := hg.bd i j hi hj
    have := hb i j hi hj
    split <;> omega
theorem swap_good {cs : List (List Int)} {n a b : Nat} (hg : Good cs n) (ha : a < n) (hb : b < n) : Good (swapC cs n a b) n where
  len := by simp [swapC]
  one := hg.one
  eight := hg.eight
  row := fun i hi => by rw [swap_row hi]; exact hg.row _ (exch_lt ha hb hi)
  bd := fun i j hi hj => by rw [swap_at hi]; exact hg.bd _ j (exch_lt ha hb hi) hj
theorem good_valid {cs : List (List Int)} {n : Nat} (hg : Good cs n) : validC cs = true := by
  unfold validC
  rw [hg.len]
  simp only [Bool.and_eq_true, decide_eq_true_eq]
  refine ⟨⟨hg.one, hg.eight⟩, ?_⟩
  unfold rowsOk
  rw [List.all_eq_true]
  intro r hr
  obtain ⟨i, hi, rfl⟩ := List.getElem_of_mem hr
  have hin : i < n := by rw [← hg.len]; exact hi
  have e : cs.getD i [] = cs[i] := by simp [List.getD_eq_getElem?_getD, hi]
  have hl := hg.row i hin
  rw [e] at hl
  simp only [Bool.and_eq_true, decide_eq_true_eq]
  refine ⟨hl, ?_⟩
  unfold entOk
  rw [List.all_eq_true]
  intro x hx
  obtain ⟨j, hj, rfl⟩ := List.getElem_of_mem hx
  have := hg.bd i j hin (by omega)
  unfold costAt at this
  rw [e] at this
  have e2 : (cs[i]).getD j 0 = cs[i][j] := by simp [List.getD_eq_getElem?_getD, hj]
  rw [e2] at this
  simp [this.1, this.2]
theorem more_sum {cs : List (List Int)} {n a : Nat} {d : Int} {l : List Nat} (hg : Good cs n) (ha : a < n) (hl : PermL n l) : sumM (moreC cs n a d) 0 l = sumM cs 0 l + d := by
  rw [sumM_total, sumM_total, hl.1]
  simp only [Nat.zero_add]
  rw [← row_more ha l (fun i j => costAt cs i j) d]
  refine total_congr fun i hi => ?_
  rw [more_at hg hi (hl.at hi)]
  by_cases e : i = a <;> simp [e]
theorem best_shift {m m' : List Nat → Int} {d : Int} : ∀ (ls : List (List Nat)) (o : Option (List Nat)), (∀ l ∈ ls, m' l = m l + d) → (∀ l, o = some l → m' l = m l + d) → ls.foldl (bestM m') o = ls.foldl (bestM m) o
  | [], _, _, _ => rfl
  | l :: ls, o, h, ho => by
    rw [List.foldl_cons, List.foldl_cons]
    have h1 := h l (List.mem_cons_self ..)
    have e : bestM m' o l = bestM m o l := by
      cases o with
      | none => rfl
      | some b =>
        have h2 := ho b rfl
        show (if m' l < m' b then some l else some b) = if m l < m b then some l else some b
        by_cases h3 : m l < m b
        · rw [if_pos h3, if_pos (by omega)]
        · rw [if_neg h3, if_neg (by omega)]
    rw [e]
    refine best_shift ls _ (fun x hx => h x (List.mem_cons_of_mem _ hx)) fun x hx => ?_
    cases o with
    | none =>
      have : bestM m none l = some l := rfl
      rw [this] at hx; injection hx with hx; subst hx; exact h1
    | some b =>
      have h4 : bestM m (some b) l = if m l < m b then some l else some b := rfl
      rw [h4] at hx
      split at hx
      · injection hx with hx; subst hx; exact h1
      · injection hx with hx; subst hx; exact ho _ rfl
/-- Cheapest of the costs with more in one row. -/
theorem more_cheap {cs : List (List Int)} {n a : Nat} {d : Int} (hg : Good cs n) (ha : a < n) : (allP n n []).foldl (bestM (sumM (moreC cs n a d) 0)) none = (allP n n []).foldl (bestM (sumM cs 0)) none :=
  best_shift _ none (fun _ hl => more_sum hg ha (allP_perm.1 hl)) (fun l h => by simp at h)
theorem perm_swap {n a b : Nat} {l : List Nat} (ha : a < n) (hb : b < n) (hl : PermL n l) : PermL n ((List.range n).map fun i => l.getD (exch a b i) 0) := by
  have := Perm.moved (n := n) (p := l) (s := exch a b) ⟨hl.1, hl.2.2, hl.2.1⟩ (fun i hi => exch_lt ha hb hi) (fun i i' _ _ e => exch_inj e)
  exact ⟨this.1, this.2.2, this.2.1⟩
theorem swap_get {n a b i : Nat} {l : List Nat} (hi : i < n) : ((List.range n).map fun i => l.getD (exch a b i) 0).getD i 0 = l.getD (exch a b i) 0 := by
  simp [List.getD_eq_getElem?_getD, hi]
theorem swap_swap {cs : List (List Int)} {n a b : Nat} (hg : Good cs n) (ha : a < n) (hb : b < n) : swapC (swapC cs n a b) n a b = cs := by
  refine List.ext_getElem (by simp [swapC, hg.len]) fun i h1 h2 => ?_
  have hi : i < n := by rw [← hg.len]; exact h2
  have e := swap_row (cs := swapC cs n a b) (a := a) (b := b) hi
  rw [swap_row (exch_lt ha hb hi), exch_exch] at e
  simpa [List.getD_eq_getElem?_getD, h1, h2] using e
theorem swap_ways {cs : List (List Int)} {n a b : Nat} {lim : Int} (ha : a < n) (hb : b < n) (h : 0 < waysM cs 0 lim n) : 0 < waysM (swapC cs n a b) 0 lim n := by
  obtain ⟨l, h1, h2, h3, h4⟩ := ways_iff.1 h
  obtain ⟨q1, q2, q3⟩ := perm_swap ha hb ⟨h1, h2, h3⟩
  refine ways_iff.2 ⟨_, q1, q2, q3, fun i hi => ?_⟩
  rw [swap_get hi]
  have := h4 _ (exch_lt ha hb hi)
  unfold okM at this ⊢
  rw [swap_at hi]
  exact this
theorem swap_worst {cs : List (List Int)} {n a b m m' : Nat} (hg : Good cs n) (ha : a < n) (hb : b < n) (h : Least (fun m => decide (0 < waysM cs 0 m n)) 1000 m) (h' : Least (fun m => decide (0 < waysM (swapC cs n a b) 0 m n)) 1000 m') : m = m' := by
  obtain ⟨_, p1, _, p2⟩ := worst_fact hg h
  obtain ⟨_, q1, _, q2⟩ := worst_fact (swap_good hg ha hb) h'
  have r1 := (q2 m).2 (swap_ways ha hb p1)
  have r2 := swap_ways ha hb q1
  rw [swap_swap hg ha hb] at r2
  have r3 := (p2 m').2 r2
  omega
theorem swap_ev {cs : List (List Int)} {n a b : Nat} {l : List Nat} (ha : a < n) (hb : b < n) (hl : PermL n l) : evM (swapC cs n a b) l = evM cs ((List.range n).map fun i => l.getD (exch a b i) 0) := by
  have hp : (costsN (swapC cs n a b) l).Perm (costsN cs ((List.range n).map fun i => l.getD (exch a b i) 0)) := by
    have hm := (renamed (n := n) (s := exch a b) (fun i hi => exch_lt ha hb hi) (fun i i' _ _ e => exch_inj e)).range.map (fun i => (costAt cs (exch a b i) (l.getD i 0)).toNat)
    rw [List.map_map] at hm
    have e1 : costsN (swapC cs n a b) l = (List.range n).map (fun i => (costAt cs (exch a b i) (l.getD i 0)).toNat) := by
      unfold costsN
      rw [hl.1]
      exact List.map_congr_left fun i hi => by rw [swap_at (List.mem_range.1 hi)]
    have e2 : costsN cs ((List.range n).map fun i => l.getD (exch a b i) 0) = (List.range n).map ((fun i => (costAt cs (exch a b i) (l.getD i 0)).toNat) ∘ exch a b) := by
      unfold costsN
      rw [List.length_map, List.length_range]
      exact List.map_congr_left fun i hi => by
        rw [swap_get (List.mem_range.1 hi)]
        simp only [Function.comp, exch_exch]
    rw [e1, e2]
    exact hm.symm
  unfold evM
  rw [falling_same hp]
theorem ev_least {cs : List (List Int)} {n : Nat} {q : List Nat} (h : (allP n n []).foldl (bestM (evM cs)) none = some q) {p : List Nat} (hp : PermL n p) : evM cs q ≤ evM cs p := by
  have hs := allP_sorted n n []
  have hin := allP_perm.2 hp
  cases e : allP n n [] with
  | nil => rw [e] at hin; simp at hin
  | cons b ls =>
    rw [e] at hs h hin
    rw [List.foldl_cons] at h
    have h3 : ls.foldl (bestM (evM cs)) (some b) = some q := h
    rw [best_first] at h3
    injection h3 with h3
    obtain ⟨_, g2, _⟩ := firstLeast_spec (evM cs) ls b hs
    rw [h3] at g2
    exact g2 p hin
theorem swap_even {cs : List (List Int)} {n a b : Nat} {q q' : List Nat} (hg : Good cs n) (ha : a < n) (hb : b < n) (hq : PermL n q) (hq' : PermL n q') (h : (allP n n []).foldl (bestM (evM cs)) none = some q)
    (h' : (allP n n []).foldl (bestM (evM (swapC cs n a b))) none = some q') : evM cs q = evM (swapC cs n a b) q' := by
  have h1 := ev_least h (perm_swap ha hb hq')
  rw [← swap_ev ha hb hq'] at h1
  have h2 := ev_least h' (perm_swap ha hb hq)
  have e := swap_ev (cs := swapC cs n a b) ha hb hq
  rw [swap_swap hg ha hb] at e
  omega
end Go.Proofs.Ytfobdlllghpelaa
end

section
namespace Go.Proofs.Ytfobdlllghpelaa
open Go.RowKit

/-! Several tables that grow in one statement, beside rows of ints. -/
def DisV (v u : Value) : Prop := ∀ k, v.ownBlock = some k → u.ownBlock ≠ some k
/-- Tables `L` of one's own, apart from each other; new cells `P` that wait to be appended; rows of ints `R` that stay; what was before `B` is as in `w0`. -/
structure StV (w0 w : World) (B : Nat) (L : List (Value × List Value)) (P : List (Nat × Value)) (R : List (Value × List Int)) : Prop where
  own : ∀ (i : Nat) v xs, L[i]? = some (v, xs) → w.ownsRow B 24 1 v xs.length xs
  dis : ∀ (i j : Nat) v xs u ys, i ≠ j → L[i]? = some (v, xs) → L[j]? = some (u, ys) → DisV v u
  pend : ∀ b y, (b, y) ∈ P → b < w.heap.size ∧ w.cell? ⟨b, 0, none⟩ = some y ∧ y.oneCell' = true ∧ ∀ (i : Nat) v xs, L[i]? = some (v, xs) → v.ownBlock ≠ some b
  rows : ∀ u zs, (u, zs) ∈ R → Ints w B u zs
  size : B ≤ w.heap.size
  below : Below B w0 w
section
variable {w0 w : World} {B : Nat} {L : List (Value × List Value)} {P : List (Nat × Value)} {R : List (Value × List Int)}
theorem StV.drew (h : StV w0 w B L P R) : StV w0 w.drew B L P R :=
  ⟨fun i v xs hi => own_below (h.own i v xs hi) (Below.refl _ _).drew, h.dis, h.pend, fun u zs hm => (h.rows u zs hm).below (Below.refl _ _).drew, h.size, h.below.drew⟩
theorem StV.step {w' : World} (h : StV w0 w B L [] R) (hb : Below w.heap.size w w') : StV w0 w' B L [] R :=
  ⟨fun i v xs hi => own_below (h.own i v xs hi) hb, h.dis, fun b y hm => by simp at hm, fun u zs hm => (h.rows u zs hm).below hb, Nat.le_trans h.size hb.size, h.below.trans (hb.mono h.size)⟩
theorem StV.add {u : Value} {zs : List Int} (h : StV w0 w B L P R) (hu : Ints w B u zs) : StV w0 w B L P ((u, zs) :: R) :=
  ⟨h.own, h.dis, h.pend, fun u' zs' hm => by
    rcases List.mem_cons.1 hm with e | hm
    · cases e; exact hu
    · exact h.rows u' zs' hm, h.size, h.below⟩
theorem StV.snoc {u : Value} {zs : List Int} (h : StV w0 w B L P R) (hu : Ints w B u zs) : StV w0 w B L P (R ++ [(u, zs)]) :=
  ⟨h.own, h.dis, h.pend, fun u' zs' hm => by
    rcases List.mem_append.1 hm with hm | hm
    · exact h.rows u' zs' hm
    · rw [List.mem_singleton] at hm; cases hm; exact hu, h.size, h.below⟩
theorem StV.clear (h : StV w0 w B L P R) : StV w0 w B L [] R := ⟨h.own, h.dis, fun b y hm => by simp at hm, h.rows, h.size, h.below⟩
theorem StV.two (w : World) : StV w ((w.alloc (.cells #[] 24)).alloc (.cells #[] 24)) w.heap.size [(.slice (some ⟨w.heap.size, 0, none⟩) 0 0, []), (.slice (some ⟨w.heap.size + 1, 0, none⟩) 0 0, [])] [] [] := by
  have h1 : (w.alloc (.cells #[] 24)).ownsRow w.heap.size 24 1 (.slice (some ⟨w.heap.size, 0, none⟩) 0 0) 0 [] := World.ownsRow_made w #[] 0 (Nat.le_refl _) (by unfold maxLen; omega) (by simp)
  have h2 : ((w.alloc (.cells #[] 24)).alloc (.cells #[] 24)).ownsRow w.heap.size 24 1 (.slice (some ⟨w.heap.size + 1, 0, none⟩) 0 0) 0 [] := by
    have := World.ownsRow_made (base := w.heap.size) (size := 1) (e := 24) (w.alloc (.cells #[] 24)) #[] 0 (by simp) (by unfold maxLen; omega) (by simp)
    rwa [World.size_alloc] at this
  refine ⟨fun i v xs hi => ?_, fun i j v xs u ys hij hi hj => ?_, fun b y hm => by simp at hm, fun u zs hm => by simp at hm, by simp; omega, ((Below.refl _ _).alloc (Nat.le_refl _) _).alloc (by simp) _⟩
  · match i, hi with
    | 0, hi => simp at hi; obtain ⟨rfl, rfl⟩ := hi; exact own_below h1 (below_alloc1 _ _)
    | 1, hi => simp at hi; obtain ⟨rfl, rfl⟩ := hi; exact h2
    | i + 2, hi => simp at hi
  · match i, j, hi, hj with
    | 0, 0, _, _ => exact absurd rfl hij
    | 1, 1, _, _ => exact absurd rfl hij
    | 0, 1, hi, hj =>
      simp at hi hj; obtain ⟨rfl, rfl⟩ := hi; obtain ⟨rfl, rfl⟩ := hj
      intro k h1 h2; simp [Value.ownBlock] at h1 h2; omega
    | 1, 0, hi, hj =>
      simp at hi hj; obtain ⟨rfl, rfl⟩ := hi; obtain ⟨rfl, rfl⟩ := hj
      intro k h1 h2; simp [Value.ownBlock] at h1 h2; omega
    | i + 2, _, hi, _ => simp at hi
    | _, j + 2, _, hj => simp at hj
theorem StV.cell (h : StV w0 w B L P R) {a : Addr} {z : Value} (ha : a.block < B) (hc : w0.cell? a = some z) : w.cell? a = some z := (h.below.cell ha).trans hc
theorem StV.alloc (h : StV w0 w B L P R) {y : Value} (hy : y.oneCell' = true) : StV w0 (w.alloc (.cells #[y] 24)) B L ((w.heap.size, y) :: P) R := by
  have hb := below_alloc1 w (.cells #[y] 24)
  refine ⟨fun i v xs hi => own_below (h.own i v xs hi) hb, h.dis, fun b z hm => ?_, fun u zs hm => (h.rows u zs hm).below hb, by simp; have := h.size; omega, h.below.alloc h.size _⟩
  rcases List.mem_cons.1 hm with e | hm
  · cases e
    refine ⟨by simp, by rw [World.cell?_alloc_at (hn := rfl)]; rfl, hy, fun i v xs hi e => ?_⟩
    have := (World.ownsRow.lt (h.own i v xs hi) _ e).2
    omega
  · obtain ⟨h1, h2, h3, h4⟩ := h.pend b z hm
    exact ⟨by simp; omega, (hb.cell (p := ⟨b, 0, none⟩) h1).trans h2, h3, h4⟩
/-- One of the tables grows. -/
theorem StV.app {w' : World} (h : StV w0 w B L P R) {i : Nat} {v v' : Value} {xs : List Value} {y : Value} (hi : L[i]? = some (v, xs))
    (h2 : w'.ownsRow B 24 1 v' (xs ++ [y]).length (xs ++ [y])) (h3 : w.grownBy w' v.ownBlock) (h4 : v'.ownBlock = v.ownBlock ∨ v'.ownBlock = some w.heap.size) : StV w0 w' B (L.set i (v', xs ++ [y])) P R := by
  have hil : i < L.length := (List.getElem?_eq_some_iff.1 hi).1
  have hget : ∀ (j : Nat) u ys, (L.set i (v', xs ++ [y]))[j]? = some (u, ys) → (j = i ∧ u = v' ∧ ys = xs ++ [y]) ∨ (j ≠ i ∧ L[j]? = some (u, ys)) := by
    intro j u ys hj
    rw [List.getElem?_set] at hj
    by_cases e : i = j
    · subst e
      rw [if_pos rfl, if_pos hil] at hj
      simp only [Option.some.injEq, Prod.mk.injEq] at hj
      exact .inl ⟨rfl, hj.1.symm, hj.2.symm⟩
    · rw [if_neg e] at hj
      exact .inr ⟨fun h => e h.symm, hj⟩
  have hsz := h3.size
  have hnew : ∀ (j : Nat) u ys, j ≠ i → L[j]? = some (u, ys) → DisV u v' := by
    intro j u ys hj hu k hk e
    rcases h4 with h4 | h4
    · exact h.dis j i u ys v xs hj hu hi k hk (by rw [← h4]; exact e)
    · rw [h4] at e
      have := (World.ownsRow.lt (h.own j u ys hu) k hk).2
      simp at e; omega
  refine ⟨fun j u ys hj => ?_, fun j1 j2 u1 y1 u2 y2 hne hj1 hj2 => ?_, fun b z hm => ?_, fun u zs hm => ?_, by have := h.size; omega, ?_⟩
  · rcases hget j u ys hj with ⟨_, rfl, rfl⟩ | ⟨hji, hj⟩
    · exact h2
    · refine World.ownsRow.kept (h.own j u ys hj) h3 ?_
      cases hu : u.ownBlock with
      | none => exact .inl rfl
      | some k => exact .inr (fun e => h.dis j i u ys v xs hji hj hi k hu e.symm)
  · rcases hget j1 u1 y1 hj1 with ⟨rfl, rfl, rfl⟩ | ⟨hji1, hk1⟩
    · rcases hget j2 u2 y2 hj2 with ⟨rfl, rfl, rfl⟩ | ⟨hji2, hk2⟩
      · exact absurd rfl hne
      · exact fun k hk e => hnew j2 u2 y2 hji2 hk2 k e hk
    · rcases hget j2 u2 y2 hj2 with ⟨rfl, rfl, rfl⟩ | ⟨hji2, hk2⟩
      · exact hnew j1 u1 y1 hji1 hk1
      · exact h.dis j1 j2 u1 y1 u2 y2 hne hk1 hk2
  · obtain ⟨p1, p2, p3, p4⟩ := h.pend b z hm
    refine ⟨by omega, h3.cell p2 (fun e => p4 i v xs hi e.symm), p3, fun j u ys hj e => ?_⟩
    rcases hget j u ys hj with ⟨_, rfl, rfl⟩ | ⟨_, hj⟩
    · rcases h4 with h4 | h4
      · exact p4 i v xs hi (by rw [← h4]; exact e)
      · rw [h4] at e; simp at e; omega
    · exact p4 j u ys hj e
  · have hz := h.rows u zs hm
    refine World.ownsRow.kept hz h3 ?_
    rcases hz.2 with ⟨rfl, _⟩ | ⟨g, cap, cur, rfl, _, hg, _⟩
    · exact .inl rfl
    · right
      intro e
      rcases (h.own i v xs hi).2 with ⟨rfl, _⟩ | ⟨g', cap', cur', rfl, _, hg', _⟩
      · simp [Value.ownBlock] at e
      · simp only [Value.ownBlock, Option.some.injEq] at e
        subst e
        rw [hg] at hg'
        simp at hg'
  · exact h.below.grown h3 h.size (fun k hk => (World.ownsRow.lt (h.own i v xs hi) k hk).1)
theorem step_app_stv {ops : Array Oper} {o : Oper} {a : Act} {K : Act → World → Prop} {Q : Exit → Act → World → Prop} {E : Prop}
    (i : Nat) {v : Value} {xs : List Value} {y : Value} {b : Nat} (hgd : o.guard = none) (s x : Operand)
    (ho : o.op = .call { callee := .builtin .append, args := #[s, x], argTypes := #[22, 22] }) (hty : o.type = 22) (hst : StV w0 w B L P R) (hi : L[i]? = some (v, xs)) (hs : a.eval s = v) (hx : a.eval x = .slice (some ⟨b, 0, none⟩) 1 1) (hm : (b, y) ∈ P)
    (hlen : xs.length ≤ 1000000) (h : ∀ v' w', StV w0 w' B (L.set i (v', xs ++ [y])) P R → K (a.put o.dst v') w') : if Region.wanted o (yielded ops a.tmps) = true then Oper.wp Try.prog o a w K Q else E := by
  have hw : Region.wanted o (yielded ops a.tmps) = true := by simp [Region.wanted, hgd]
  rw [if_pos hw]
  obtain ⟨_, hc, hone, _⟩ := hst.pend b y hm
  obtain ⟨i0, hi0, hz0, hz1, hz2⟩ := info_parts info24
  obtain ⟨v', w', hr, h2, h3, _, h4⟩ := run_append_own_at (P := Try.prog) w B 22 22 24 i0 (.slice none 0 0) 1 24 Try.underlying22 hi0 hz0 hz1 hz2 rfl (by decide) v xs.length xs (hst.own i v xs hi) ⟨b, 0, none⟩ 1 1 [y] rfl (by
      intro j z hj
      cases j with
      | zero => simp at hj; subst hj; simpa [Addr.add] using hc
      | succ j => simp at hj) (by intro z hz; simp at hz; subst hz; exact hone) (by unfold maxLen; omega) (by omega) hst.size
  have h2' : w'.ownsRow B 24 1 v' (xs ++ [y]).length (xs ++ [y]) := by simpa using h2
  unfold Oper.wp execOp
  simp only [ho, resolve, invoke, builtin, Sem.run_bind, Sem.run_pure, Result.andThen_ok, List.map_toArray, List.map_cons, List.map_nil, hs, hx, hty, hr]
  exact h v' w' (hst.app hi h2' h3 h4)
end
end Go.Proofs.Ytfobdlllghpelaa
end

section
namespace Go.Proofs.Ytfobdlllghpelaa
open Go.RowKit Go.Shelf Pair
variable {w0 w : World} {B : Nat} {L : List (Value × List Value)} {P : List (Nat × Value)} {R : List (Value × List Int)}
/-- One of the tables is written to. -/
theorem StV.grow {w' : World} (h : StV w0 w B L P R) {i : Nat} {v v' : Value} {xs : List Value} {ns : List Value} (hi : L[i]? = some (v, xs))
    (h2 : w'.ownsRow B 24 1 v' ns.length ns) (h3 : w.grownBy w' v.ownBlock) (h4 : v'.ownBlock = v.ownBlock ∨ v'.ownBlock = some w.heap.size) : StV w0 w' B (L.set i (v', ns)) P R := by
  have hil : i < L.length := (List.getElem?_eq_some_iff.1 hi).1
  have hget : ∀ (j : Nat) u ys, (L.set i (v', ns))[j]? = some (u, ys) → (j = i ∧ u = v' ∧ ys = ns) ∨ (j ≠ i ∧ L[j]? = some (u, ys)) := by
    intro j u ys hj
    rw [List.getElem?_set] at hj
    by_cases e : i = j
    · subst e
      rw [if_pos rfl, if_pos hil] at hj
      simp only [Option.some.injEq, Prod.mk.injEq] at hj
      exact .inl ⟨rfl, hj.1.symm, hj.2.symm⟩
    · rw [if_neg e] at hj
      exact .inr ⟨fun h => e h.symm, hj⟩
  have hsz := h3.size
  have hnew : ∀ (j : Nat) u ys, j ≠ i → L[j]? = some (u, ys) → DisV u v' := by
    intro j u ys hj hu k hk e
    rcases h4 with h4 | h4
    · exact h.dis j i u ys v xs hj hu hi k hk (by rw [← h4]; exact e)
    · rw [h4] at e
      have := (World.ownsRow.lt (h.own j u ys hu) k hk).2
      simp at e; omega
  refine ⟨fun j u ys hj => ?_, fun j1 j2 u1 y1 u2 y2 hne hj1 hj2 => ?_, fun b z hm => ?_, fun u zs hm => ?_, by have := h.size; omega, ?_⟩
  · rcases hget j u ys hj with ⟨_, rfl, rfl⟩ | ⟨hji, hj⟩
    · exact h2
    · refine World.ownsRow.kept (h.own j u ys hj) h3 ?_
      cases hu : u.ownBlock with
      | none => exact .inl rfl
      | some k => exact .inr (fun e => h.dis j i u ys v xs hji hj hi k hu e.symm)
  · rcases hget j1 u1 y1 hj1 with ⟨rfl, rfl, rfl⟩ | ⟨hji1, hk1⟩
    · rcases hget j2 u2 y2 hj2 with ⟨rfl, rfl, rfl⟩ | ⟨hji2, hk2⟩
      · exact absurd rfl hne
      · exact fun k hk e => hnew j2 u2 y2 hji2 hk2 k e hk
    · rcases hget j2 u2 y2 hj2 with ⟨rfl, rfl, rfl⟩ | ⟨hji2, hk2⟩
      · exact hnew j1 u1 y1 hji1 hk1
      · exact h.dis j1 j2 u1 y1 u2 y2 hne hk1 hk2
  · obtain ⟨p1, p2, p3, p4⟩ := h.pend b z hm
    refine ⟨by omega, h3.cell p2 (fun e => p4 i v xs hi e.symm), p3, fun j u ys hj e => ?_⟩
    rcases hget j u ys hj with ⟨_, rfl, rfl⟩ | ⟨_, hj⟩
    · rcases h4 with h4 | h4
      · exact p4 i v xs hi (by rw [← h4]; exact e)
      · rw [h4] at e; simp at e; omega
    · exact p4 j u ys hj e
  · have hz := h.rows u zs hm
    refine World.ownsRow.kept hz h3 ?_
    rcases hz.2 with ⟨rfl, _⟩ | ⟨g, cap, cur, rfl, _, hg, _⟩
    · exact .inl rfl
    · right
      intro e
      rcases (h.own i v xs hi).2 with ⟨rfl, _⟩ | ⟨g', cap', cur', rfl, _, hg', _⟩
      · simp [Value.ownBlock] at e
      · simp only [Value.ownBlock, Option.some.injEq] at e
        subst e
        rw [hg] at hg'
        simp at hg'
  · exact h.below.grown h3 h.size (fun k hk => (World.ownsRow.lt (h.own i v xs hi) k hk).1)

theorem StV.put {g n c j : Nat} {i : Nat} {xs : List Value} (h : StV w0 w B L P R) (hi : L[i]? = some (.slice (some ⟨g, 0, none⟩) n c, xs)) (hn : xs.length = n) (u : Value) :
    StV w0 (w.setCell ⟨g, j, none⟩ u) B (L.set i (.slice (some ⟨g, 0, none⟩) n c, xs.set j u)) P R := by
  have h1 := h.own i _ _ hi
  rw [hn] at h1
  obtain ⟨h2, h3⟩ := h1.stored j u
  exact h.grow hi (by rw [List.length_set, hn]; exact h2) h3 (.inl rfl)

/-- Two places of a table are exchanged. -/
theorem StV.exch {mv : Value} {ms vs : List Value} {g n c a b : Nat} (h : StV w0 w B [(mv, ms), (.slice (some ⟨g, 0, none⟩) n c, vs)] [] R) (hn : vs.length = n) (u z : Value) :
    StV w0 ((w.setCell ⟨g, a, none⟩ u).setCell ⟨g, b, none⟩ z).drew B [(mv, ms), (.slice (some ⟨g, 0, none⟩) n c, (vs.set a u).set b z)] [] R := by
  have h1 := h.put (i := 1) (j := a) rfl hn u
  have h2 := h1.put (i := 1) (j := b) (g := g) (n := n) (c := c) (xs := vs.set a u) rfl (by rw [List.length_set, hn]) z
  exact h2.drew

theorem exch_list {vs : List Value} {a b j : Nat} (ha : a < vs.length) (hb : b < vs.length) : ((vs.set a (vs.getD b undef)).set b (vs.getD a undef)).getD j undef = vs.getD (exch a b j) undef := by
  unfold exch
  simp only [List.getD_eq_getElem?_getD, List.getElem?_set, List.length_set]
  by_cases e : j = a
  · subst e
    by_cases e2 : b = j
    · subst e2; simp [ha]
    · simp [e2, ha]
  · rw [if_neg e]
    by_cases e2 : j = b
    · subst e2; simp [hb]
    · rw [if_neg e2, if_neg (Ne.symm e2), if_neg (Ne.symm e)]

theorem good_cst {cs : List (List Int)} {n : Nat} {v : Value} {B : Nat} (hg : Good cs n) (h : OwnG w B v cs) : Cst w v cs :=
  ⟨h.shape, by rw [hg.len]; have := hg.eight; omega, fun j hj => by rw [hg.row j (by rw [hg.len] at hj; exact hj)]; have := hg.eight; omega⟩

/-- What stands after the exchange. -/
theorem exch_end {mv : Value} {vs : List Value} {g n c a b C : Nat} {cs mc : List (List Int)} (h : StV w0 w B [(mv, R.map Prod.fst), (.slice (some ⟨g, 0, none⟩) n c, vs)] [] R) (hn : vs.length = n) (hR : R.length = n)
    (ha : a < n) (hb : b < n) (hB : w0.heap.size = B) (hC : C ≤ B) (hm : mc.length = n) (hRc : ∀ j, j < n → (R.getD j (undef, [])).2 = mc.getD j []) (hrow : ∀ j, j < n → Ints w0 C (vs.getD j undef) (cs.getD j [])) :
    OwnG (((w.setCell ⟨g, a, none⟩ (vs.getD b undef)).setCell ⟨g, b, none⟩ (vs.getD a undef)).drew) B mv mc ∧
    OwnG (((w.setCell ⟨g, a, none⟩ (vs.getD b undef)).setCell ⟨g, b, none⟩ (vs.getD a undef)).drew) C (.slice (some ⟨g, 0, none⟩) n c) (swapC cs n a b) ∧
    Below w0.heap.size w0 (((w.setCell ⟨g, a, none⟩ (vs.getD b undef)).setCell ⟨g, b, none⟩ (vs.getD a undef)).drew) := by
  have h1 := h.exch (a := a) (b := b) hn (vs.getD b undef) (vs.getD a undef)
  obtain ⟨w', hw'⟩ : ∃ w', w' = ((w.setCell ⟨g, a, none⟩ (vs.getD b undef)).setCell ⟨g, b, none⟩ (vs.getD a undef)).drew := ⟨_, rfl⟩
  rw [← hw'] at h1 ⊢
  refine ⟨⟨R.map Prod.fst, h1.own 0 _ _ rfl, by rw [List.length_map, hR, hm], fun j hj => ?_⟩, ⟨(vs.set a (vs.getD b undef)).set b (vs.getD a undef), own_base (h1.own 1 _ _ rfl) hC, by simp [swapC, hn], fun j hj => ?_⟩, by rw [hB]; exact h1.below⟩
  · rw [List.length_map] at hj
    rw [← hRc j (by omega)]
    refine h1.rows _ _ ?_
    have e1 : (R.map Prod.fst).getD j undef = (R[j]'hj).1 := by simp [List.getD_eq_getElem?_getD, hj]
    have e2 : (R.getD j (undef, [])).2 = (R[j]'hj).2 := by simp [List.getD_eq_getElem?_getD, hj]
    rw [e1, e2]
    exact List.getElem_mem hj
  · simp only [List.length_set] at hj
    rw [exch_list (by omega) (by omega), swap_row (by omega)]
    exact (hrow _ (exch_lt ha hb (by omega))).below (by rw [hB]; exact h1.below)
end Go.Proofs.Ytfobdlllghpelaa
end

section
namespace Go.Proofs.Ytfobdlllghpelaa
open Go.RowKit Go.Shelf Pair
attribute [local go_sem] Oper.semAt_some

/-- A row to whose first costs a number was added. -/
def rowT (xs : List Int) (n : Nat) (d : Int) (j : Nat) : List Int := (List.range n).map fun t => if t < j then xs.getD t 0 + d else xs.getD t 0
theorem rowT_at {xs : List Int} {n t j : Nat} {d : Int} (h : t < n) : (rowT xs n d j).getD t 0 = if t < j then xs.getD t 0 + d else xs.getD t 0 := by
  unfold rowT; simp [List.getD_eq_getElem?_getD, h]
theorem rowT_zero {xs : List Int} {n : Nat} {d : Int} (h : xs.length = n) : rowT xs n d 0 = xs := by
  refine List.ext_getElem (by simp [rowT, h]) fun i h1 h2 => ?_
  simp [rowT, List.getD_eq_getElem?_getD, h2]
theorem rowT_all {xs : List Int} {n : Nat} {d : Int} (h : xs.length = n) : rowT xs n d n = xs.map (· + d) := by
  refine List.ext_getElem (by simp [rowT, h]) fun i h1 h2 => ?_
  have hi : i < n := by simpa [rowT] using h1
  have hx : i < xs.length := by omega
  simp [rowT, List.getD_eq_getElem?_getD, hx, hi]
theorem rowT_next {xs : List Int} {n j : Nat} {d : Int} : (rowT xs n d j).set j (xs.getD j 0 + d) = rowT xs n d (j + 1) := by
  have g : ∀ i q (h : i < (rowT xs n d q).length), (rowT xs n d q)[i] = if i < q then xs.getD i 0 + d else xs.getD i 0 := fun i q h => by simp [rowT]
  refine List.ext_getElem (by simp [rowT]) fun i h1 h2 => ?_
  rw [List.getElem_set, g, g]
  by_cases e : j = i
  · subst e; rw [if_pos rfl, if_pos (by omega)]
  · rw [if_neg e]
    by_cases h : i < j
    · rw [if_pos h, if_pos (by omega)]
    · rw [if_neg h, if_neg (by omega)]

set_option maxHeartbeats 4000000 in
set_option maxRecDepth 100000 in
theorem walk17 {w : World} {v : Value} {xs : List Nat} {n0 : Int} (hn0 : (Lit.int .u8 n0).wf = true) (hx : InNats .u16 65535 w v xs) {y0 y1 y2 : Nat} (hy0 : y0 ≤ 255) (hy1 : y1 ≤ 255) (hy2 : y2 ≤ 255) :
    Calls Try.prog 17 #[.int .u8 n0, v, .agg #[.int .u8 y0, .int .u8 y1, .int .u8 y2]] w fun e w' => e = .returned (.bool true) ∧ Below w.heap.size w w' := by
  obtain ⟨a', rfl, ha⟩ := wf8 hn0
  obtain ⟨w0, hw0⟩ : ∃ w0, w0 = w.alloc (.cells #[.int .u8 y0, .int .u8 y1, .int .u8 y2] 70) := ⟨_, rfl⟩
  have hb0 : Below w.heap.size w w0 := by rw [hw0]; exact below_alloc1 w _
  have e0 : w0.cell? ⟨w.heap.size, 0, none⟩ = some (.int .u8 y0) := by rw [hw0, World.cell?_alloc_at (hn := rfl)]; rfl
  have e1 : w0.cell? ⟨w.heap.size, 1, none⟩ = some (.int .u8 y1) := by rw [hw0, World.cell?_alloc_at (hn := rfl)]; rfl
  have e2 : w0.cell? ⟨w.heap.size, 2, none⟩ = some (.int .u8 y2) := by rw [hw0, World.cell?_alloc_at (hn := rfl)]; rfl
  have hsz : w.heap.size < w0.heap.size := by rw [hw0]; simp
  obtain ⟨g0, hg0⟩ : ∃ g, g = w.heap.size := ⟨_, rfl⟩
  rw [← hg0] at e0 e1 e2 hsz
  have hmd := Lib.hid (made45 (hx.below hb0) a' 8 60 ha (by omega) (by omega) (by omega))
  obtain ⟨n, hn⟩ : ∃ n, n = sizeM a' 8 := ⟨_, rfl⟩
  have hn1 : 1 ≤ n := by rw [hn]; exact size_one a' 8
  have hn8 : n ≤ 8 := by rw [hn]; exact size_le a' 8 (by omega)
  have hgd := made_good (xs := xs) (m := 60) hn1 hn8 (by omega)
  have hcb : ∀ i j, i < n → j < n → costAt (madeC xs 60 n n) i j ≤ 60 := fun i j hi hj => by
    rw [made_at hi hj]; exact (cellM_bd xs 60 n i j).2
  rw [← hn] at hmd
  obtain ⟨cs, hcs⟩ : ∃ cs, cs = madeC xs 60 n n := ⟨_, rfl⟩
  rw [← hcs] at hmd hgd hcb
  clear hn hcs
  obtain ⟨a, haq⟩ : ∃ l : Nat, l = y0 % n := ⟨_, rfl⟩
  obtain ⟨b, hbq⟩ : ∃ l : Nat, l = y1 % n := ⟨_, rfl⟩
  have han : a < n := by rw [haq]; exact Nat.mod_lt _ (by omega)
  have hbn : b < n := by rw [hbq]; exact Nat.mod_lt _ (by omega)
  have hra : Int.tmod (y0 : Int) (n : Int) = (a : Int) := by rw [haq]; exact tmod_nat y0 n
  have hrb : Int.tmod (y1 : Int) (n : Int) = (b : Int) := by rw [hbq]; exact tmod_nat y1 n
  have hnz : ¬ n = 0 := by omega
  clear haq hbq
  have hmg : Good (moreC cs n a (y2 : Int)) n := more_good hgd (by omega) (fun i j hi hj => by have := hcb i j hi hj; omega)
  have hsg : Good (swapC cs n a b) n := swap_good hgd han hbn
  have hvd := good_valid hgd
  have hvm := good_valid hmg
  have hvs := good_valid hsg
  obtain ⟨x, hx1, hx2, hx3, hx4⟩ := cheap_first (cs := cs) hn8
  obtain ⟨x', g1, g2, g3, g4⟩ := cheap_first (cs := moreC cs n a (y2 : Int)) hn8
  obtain rfl : x' = x := by
    rw [more_cheap hgd han, hx4] at g4
    exact (Option.some.inj g4).symm
  have hxp := allP_perm.1 hx2
  have hsum : optI (moreC cs n a (y2 : Int)) n n (2 ^ n - 1) = optI cs n n (2 ^ n - 1) + (y2 : Int) := by
    rw [← g3, ← hx3]
    exact more_sum hgd han hxp
  have hVb : 0 ≤ optI cs n n (2 ^ n - 1) ∧ optI cs n n (2 ^ n - 1) ≤ 8000 := by
    have := optI_bd hgd.bd n (2 ^ n - 1) (Nat.le_refl _)
    omega
  have hk1 := Lib.hid (fun (w : World) (v : Value) (h : Cst w v cs) => cheapest28 h hvd hgd x' hx1)
  have hk2 := Lib.hid (fun (w : World) (v : Value) (h : Cst w v (moreC cs n a (y2 : Int))) => cheapest28 h hvm hmg x' g1)
  rw [hsum] at hk2
  obtain ⟨V, hV⟩ : ∃ V, V = optI cs n n (2 ^ n - 1) := ⟨_, rfl⟩
  rw [← hV] at hk1 hk2 hVb
  have hk3 := Lib.hid (fun (w : World) (v : Value) (h : Cst w v cs) => worst19 h hvd hgd)
  have hk4 := Lib.hid (fun (w : World) (v : Value) (h : Cst w v (swapC cs n a b)) => worst19 h hvs hsg)
  have hk5 := Lib.hid (fun (w : World) (v : Value) (h : Cst w v cs) => even20 h hvd hgd)
  have hk6 := Lib.hid (fun (w : World) (v : Value) (h : Cst w v (swapC cs n a b)) => even20 h hvs hsg)
  have hsw := Lib.hid (fun (m m' : Nat) (h : Least (fun m => decide (0 < waysM cs 0 m n)) 1000 m) (h' : Least (fun m => decide (0 < waysM (swapC cs n a b) 0 m n)) 1000 m') => swap_worst hgd han hbn h h')
  have hsv := Lib.hid (fun (q q' : List Nat) (h1 : PermL n q) (h2 : PermL n q') (h : (allP n n []).foldl (bestM (evM cs)) none = some q) (h' : (allP n n []).foldl (bestM (evM (swapC cs n a b))) none = some q') => swap_even hgd han hbn h1 h2 h h')
  have hxl := Lib.hid (show (natI x').length = n by rw [natI_len, hxp.1])
  clear hvd hvm hvs hx1 hx2 hx3 hx4 g1 g2 g3 g4 hxp hsum hV
  have hgd' := Lib.hid hgd
  have hmg' := Lib.hid hmg
  have hsg' := Lib.hid hsg
  have hcb' := Lib.hid hcb
  have hlv := Lib.hid (fun (w : World) => lives22 (w := w))
  obtain ⟨⟨xo, xc, rfl, _⟩, -⟩ := hx
  have hb0' := Lib.hid hb0
  have hw0' := Lib.hid hw0
  have hg0' := Lib.hid hg0
  have hlen := Lib.hid hgd.len
  clear hn0 hb0 hw0 hg0 hgd hmg hsg hcb
  go_enter Try.func17, Try.ntmps17
  go_wp2_with fail
  rw [← hw0'.out, ← hg0'.out]
  refine (hmd.out).mono ?_
  rintro e w1 ⟨v1, rfl, hv1, hb1⟩
  obtain ⟨vs, ho1, ho2, ho3⟩ := hv1
  rw [hlen.out] at ho2
  have k0 := (hb1.cell (p := ⟨g0, 0, none⟩) hsz).trans e0
  have k1 := (hb1.cell (p := ⟨g0, 1, none⟩) hsz).trans e1
  have k2 := (hb1.cell (p := ⟨g0, 2, none⟩) hsz).trans e2
  have hb1' := Lib.hid (below_call hb0'.out hb1)
  obtain ⟨gc, cc, he, hgc, hcell⟩ : ∃ gc cc, v1 = .slice (some ⟨gc, 0, none⟩) n cc ∧ gc < w1.heap.size ∧ ∀ j, j < n → w1.cell? ⟨gc, j, none⟩ = some (vs.getD j undef) := by
    rcases ho1.2 with ⟨_, h0⟩ | ⟨g, cap, cur, rfl, hB, hg, hnc, _⟩
    · omega
    · refine ⟨g, cap, by rw [ho2], (Array.getElem?_eq_some_iff.1 hg).1, fun j hj => ?_⟩
      rw [ho1.cellAt j (by omega)]
      simp [List.getD_eq_getElem?_getD, show j < vs.length by omega]
  subst he
  have ho1' := Lib.hid ho1
  have ho2' := Lib.hid ho2
  have ho3' := Lib.hid ho3
  have hcell' := Lib.hid hcell
  have hb10 := Lib.hid hb1
  clear ho1 ho3 hcell hb1 e0 e1 e2 hsz hmd ho2
  go_wp2_with fail
  go_quiet (fail)
  go_wp2_with fail
  have hd2 := below_drewN (Below.refl w1.heap.size w1) nq
  have hs2 : (w1.drewN nq).heap.size = w1.heap.size := by simp
  obtain ⟨w2, hw2⟩ : ∃ w2, w2 = w1.drewN nq := ⟨_, rfl⟩
  rw [← hw2] at hd2 hs2 ⊢
  have hst := StV.two w2
  rw [hs2] at hst
  obtain ⟨B, hB⟩ : ∃ B, B = w1.heap.size := ⟨_, rfl⟩
  rw [← hB] at hst hs2 hgc ⊢
  have hst' := Lib.hid hst
  have hb2 := Lib.hid (below_call hb1'.out (show Below w1.heap.size w1 w2 from hd2))
  have hcst2 := Lib.hid ((show Cst w1 (.slice (some ⟨gc, 0, none⟩) n cc) cs from good_cst hgd'.out ⟨vs, ho1'.out, by rw [ho2'.out, hlen.out], ho3'.out⟩).below hd2)
  have hrow2 := Lib.hid (show ∀ j, j < n → Ints w2 w0.heap.size (vs.getD j undef) (cs.getD j []) from fun j hj => (ho3'.out j (by rw [ho2'.out]; exact hj)).below hd2)
  have hcell2 := Lib.hid (show ∀ j, j < n → w2.cell? ⟨gc, j, none⟩ = some (vs.getD j undef) from fun j hj => (hd2.cell (p := ⟨gc, j, none⟩) (show gc < _ by omega)).trans (hcell'.out j hj))
  have hrl := Lib.hid (show ∀ j, j < n → (cs.getD j []).length = n from hgd'.out.row)
  have hB2 := Lib.hid hB
  have hs2' := Lib.hid hs2
  have hvl := Lib.hid ho2'.out
  clear hw2 hst hd2 k0 k1 k2 hB hs2 hra hrb hnz
  go_loopw [11, 12, 13] (fun mv sv iv wr => ∃ (i : Nat) (R : List (Value × List Int)), i ≤ n ∧ iv = .int .i64 i ∧ R.length = i ∧ Hid (∀ j, j < i → (R.getD j (undef, [])).2 = (moreC cs n a (y2 : Int)).getD j []) ∧ Hid (StV w2 wr B [(mv, R.map Prod.fst), (sv, vs.take i)] [] R)) (fun _ _ iv _ => n - (intOf iv).toNat)
  case atStart => exact ⟨0, [], Nat.zero_le _, rfl, rfl, Lib.hid (fun j h => by omega), hst'⟩
  case round =>
    clear hst'
    obtain ⟨i, R, hi, rfl, hRl, hRc, hst⟩ := hrel
    by_cases hin : i < n
    · obtain ⟨g1, c1, e1, _, hg1, hx1, _⟩ := ints_parts (hrow2.out i hin) (by intro e; have := hrl.out i hin; rw [e] at this; simp at this; omega)
      rw [hrl.out i hin] at e1 hx1
      have hci := hcell2.out i hin
      rw [e1] at hci
      have cci := hst.out.cell (a := ⟨gc, i, none⟩) hgc hci
      have hrd := Lib.hid (show Reads w2 (.slice (some ⟨g1, 0, none⟩) n c1) (cs.getD i []) from by have := (hrow2.out i hin).shape; rwa [e1] at this)
      have e1' := Lib.hid e1
      have hrd1 := Lib.hid (hrd.out.below (show Below w2.heap.size w2 wr from by have := hst.out.below; rwa [← hs2'.out] at this))
      have hlit := Lib.hid (Ints.lit wr wr.heap.size (Nat.le_refl _))
      have hbl := Lib.hid (below_alloc1 wr (.cells #[] 3))
      have hrd2 := Lib.hid (hrd1.out.below hbl.out)
      have hgcw : gc < wr.heap.size := Nat.lt_of_lt_of_le hgc hst.out.size
      have cci2 := (hbl.out.cell (p := ⟨gc, i, none⟩) hgcw).trans cci
      have hl9 := Lib.hid (show ([] : List Int).length + (cs.getD i []).length ≤ 1000000000 by rw [hrl.out i hin]; simp; omega)
      clear e1 hx1 hci
      go_wp2_with (first | (at_builtin; refine app_ints hlit.out hrd2.out (.inr ⟨_, _, _, rfl⟩) hl9.out (by simp) rfl _ _ rfl rfl rfl ?_; intro v6 w6 hv6 hb6))
      rw [List.nil_append] at hv6
      have hbw6 := Lib.hid (hbl.out.trans hb6)
      have hrow6 := Lib.hid hv6
      obtain ⟨g6, c6, rfl, hg6, hg6s, _⟩ := ints_parts hv6 (by intro e; have := hrl.out i hin; rw [e] at this; simp at this; omega)
      rw [hrl.out i hin] at hrow6 ⊢
      clear hv6 hb6 hlit hbl hrd2 hl9 hrd1 cci cci2 hgcw
      clear hg6s
      go_wp2_with fail
      go_loopw [15] (fun jv wx => ∃ j : Nat, j ≤ n ∧ jv = .int .i64 j ∧ (i ≠ a → j = 0) ∧ Hid (Ints wx wr.heap.size (.slice (some ⟨g6, 0, none⟩) n c6) (rowT (cs.getD i []) n (y2 : Int) j)) ∧ Hid (Below wr.heap.size wr wx)) (fun jv _ => n - (intOf jv).toNat)
      case atStart => exact ⟨0, Nat.zero_le _, rfl, fun _ => rfl, Lib.hid (by rw [rowT_zero (hrl.out i hin)]; exact hrow6.out), hbw6⟩
      case round =>
        clear hrow6 hbw6
        obtain ⟨j, hj, rfl, hja, hrow, hbx⟩ := hrel
        by_cases hia : i = a
        · subst hia
          clear hja
          by_cases hjn : j < n
          · have hne : rowT (cs.getD i []) n (y2 : Int) j ≠ [] := by
              intro e
              have h9 := congrArg List.length e
              simp [rowT] at h9
              omega
            obtain ⟨gx, cx, ex, gB, gs, rc, rf, rs⟩ := ints_parts hrow.out hne
            clear hne
            obtain ⟨rfl, rfl⟩ : g6 = gx ∧ c6 = cx := by
              rw [show (rowT (cs.getD i []) n (y2 : Int) j).length = n from by simp [rowT]] at ex
              cases ex
              exact ⟨rfl, rfl⟩
            have cr := rc j (by simp [rowT]; exact hjn)
            rw [rowT_at hjn, if_neg (by omega)] at cr
            have fr := rf j
            have hcj := hgd'.out.bd i j hin hjn
            unfold costAt at hcj
            have hnx := Lib.hid (rowT_next (xs := cs.getD i []) (n := n) (j := j) (d := (y2 : Int)))
            obtain ⟨z, hz⟩ : ∃ z, z = (cs.getD i []).getD j 0 := ⟨_, rfl⟩
            rw [← hz] at cr hcj hnx
            have hs2 := Lib.hid (rs j (z + (y2 : Int)))
            rw [hnx.out] at hs2
            have hb2' := Lib.hid (below_set (k := j) (u := .int .i64 (z + (y2 : Int))) hbx.out gB)
            have hia' : ((i : Int) == (i : Int)) = true := by simp
            clear rc rf rs hz ex hnx
            go_wp2_with fail
            go_roundw
            case rel => exact ⟨j + 1, by omega, by go_num, fun h => absurd rfl h, hs2, hb2'⟩
            case measure => simp [intOf]; omega
          · obtain rfl : n = j := by omega
            have hys := Lib.hid (show rowT (cs.getD i []) n (y2 : Int) n = (moreC cs n i (y2 : Int)).getD i [] by rw [more_row hin, if_pos rfl, rowT_all (hrl.out i hin)])
            have hstx := hst.out.step hbx.out
            have hst3 := hstx.snoc (hrow.out.base (B' := B) hst.out.size)
            have hcx := hcell2.out i hin
            rw [e1'.out] at hcx
            have k1 : (R.map Prod.fst).length ≤ 1000000 := by rw [List.length_map]; omega
            have k2 : (vs.take i).length ≤ 1000000 := by rw [List.length_take]; omega
            have f1 := Lib.hid (show (R ++ [((Value.slice (some ⟨g6, 0, none⟩) n c6 : Value), rowT (cs.getD i []) n (y2 : Int) n)]).map Prod.fst = R.map Prod.fst ++ [Value.slice (some ⟨g6, 0, none⟩) n c6] by simp)
            have f2 := Lib.hid (show vs.take (i + 1) = vs.take i ++ [Value.slice (some ⟨g1, 0, none⟩) n c1] by
              rw [List.take_succ_eq_append_getElem (by rw [hvl.out]; exact hin), ← e1'.out]
              simp [List.getD_eq_getElem?_getD, show i < vs.length by rw [hvl.out]; exact hin])
            have f3 := Lib.hid (show ∀ q, q < i + 1 → ((R ++ [((Value.slice (some ⟨g6, 0, none⟩) n c6 : Value), rowT (cs.getD i []) n (y2 : Int) n)]).getD q (undef, [])).2 = (moreC cs n i (y2 : Int)).getD q [] from fun q hq => by
              rcases Nat.lt_succ_iff_lt_or_eq.1 hq with h | rfl
              · rw [← hRc.out q h, List.getD_eq_getElem?_getD, List.getElem?_append_left (by omega), ← List.getD_eq_getElem?_getD]
              · rw [List.getD_eq_getElem?_getD, List.getElem?_append_right (by omega), hRl, Nat.sub_self]
                exact hys.out)
            clear hstx hrow hbx
            go_wp2_with fail
            go_region_held3 (fun w' => w'.cell? ⟨gc, i, none⟩ = some (.slice (some ⟨g1, 0, none⟩) n c1)) (first | exact StV.cell (a := ⟨gc, i, none⟩) hst7 hgc hcx | exact StV.cell (a := ⟨gc, i, none⟩) (hst7).drew hgc hcx | exact StV.cell (a := ⟨gc, i, none⟩) (hst7.alloc rfl) hgc hcx | exact StV.cell (a := ⟨gc, i, none⟩) (hst7.alloc rfl).drew hgc hcx | exact StV.cell (a := ⟨gc, i, none⟩) ((hst7.alloc rfl).alloc rfl) hgc hcx | exact StV.cell (a := ⟨gc, i, none⟩) ((hst7.alloc rfl).alloc rfl).drew hgc hcx | exact StV.cell (a := ⟨gc, i, none⟩) hst3 hgc hcx | exact StV.cell (a := ⟨gc, i, none⟩) (hst3).drew hgc hcx | exact StV.cell (a := ⟨gc, i, none⟩) (hst3.alloc rfl) hgc hcx | exact StV.cell (a := ⟨gc, i, none⟩) (hst3.alloc rfl).drew hgc hcx | exact StV.cell (a := ⟨gc, i, none⟩) ((hst3.alloc rfl).alloc rfl) hgc hcx | exact StV.cell (a := ⟨gc, i, none⟩) ((hst3.alloc rfl).alloc rfl).drew hgc hcx | go_keep)
              (first
                | (refine step_app_stv 0 (y := .slice (some ⟨g6, 0, none⟩) n c6) rfl (.tmp 84) (.tmp 86) rfl rfl (by first | exact hst7 | exact hst7.alloc rfl | exact (hst3.alloc rfl).drew | exact ((hst3.alloc rfl).alloc rfl).drew | exact hst3.alloc rfl | exact (hst3.alloc rfl).alloc rfl) (by rfl) (by rfl) (by rfl) (by simp) (by simpa using k1) ?_; intro v7 w7 hst7)
                | (refine step_app_stv 1 (y := .slice (some ⟨g1, 0, none⟩) n c1) rfl (.tmp 88) (.tmp 93) rfl rfl (by first | exact hst7 | exact hst7.alloc rfl | exact (hst3.alloc rfl).drew | exact ((hst3.alloc rfl).alloc rfl).drew | exact hst3.alloc rfl | exact (hst3.alloc rfl).alloc rfl) (by rfl) (by rfl) (by rfl) (by simp) (by simpa using k2) ?_; intro v7 w7 hst7))
            all_goals
              have f4 := Lib.hid hst7.clear
              clear hst7
              go_wp2_with fail
              go_roundw
              case rel => exact ⟨i + 1, R ++ [(Value.slice (some ⟨g6, 0, none⟩) n c6, rowT (cs.getD i []) n (y2 : Int) n)], by omega, by go_num, by simp [hRl], f3, Lib.hid (by rw [f1.out, f2.out]; exact f4.out)⟩
              case measure => simp [intOf]; omega
        · obtain rfl : j = 0 := hja hia
          have hys := Lib.hid (show rowT (cs.getD i []) n (y2 : Int) 0 = (moreC cs n a (y2 : Int)).getD i [] by rw [more_row hin, if_neg hia, rowT_zero (hrl.out i hin)])
          have hia' : ((i : Int) == (a : Int)) = false := by simp; omega
          have hn0' : (0 : Int) < (n : Int) := by omega
          have hstx := hst.out.step hbx.out
          have hst3 := hstx.snoc (hrow.out.base (B' := B) hst.out.size)
          have hcx := hcell2.out i hin
          rw [e1'.out] at hcx
          have k1 : (R.map Prod.fst).length ≤ 1000000 := by rw [List.length_map]; omega
          have k2 : (vs.take i).length ≤ 1000000 := by rw [List.length_take]; omega
          have f1 := Lib.hid (show (R ++ [((Value.slice (some ⟨g6, 0, none⟩) n c6 : Value), rowT (cs.getD i []) n (y2 : Int) 0)]).map Prod.fst = R.map Prod.fst ++ [Value.slice (some ⟨g6, 0, none⟩) n c6] by simp)
          have f2 := Lib.hid (show vs.take (i + 1) = vs.take i ++ [Value.slice (some ⟨g1, 0, none⟩) n c1] by
            rw [List.take_succ_eq_append_getElem (by rw [hvl.out]; exact hin), ← e1'.out]
            simp [List.getD_eq_getElem?_getD, show i < vs.length by rw [hvl.out]; exact hin])
          have f3 := Lib.hid (show ∀ q, q < i + 1 → ((R ++ [((Value.slice (some ⟨g6, 0, none⟩) n c6 : Value), rowT (cs.getD i []) n (y2 : Int) 0)]).getD q (undef, [])).2 = (moreC cs n a (y2 : Int)).getD q [] from fun q hq => by
            rcases Nat.lt_succ_iff_lt_or_eq.1 hq with h | rfl
            · rw [← hRc.out q h, List.getD_eq_getElem?_getD, List.getElem?_append_left (by omega), ← List.getD_eq_getElem?_getD]
            · rw [List.getD_eq_getElem?_getD, List.getElem?_append_right (by omega), hRl, Nat.sub_self]
              exact hys.out)
          clear hstx hrow hbx
          go_wp2_with fail
          go_region_held3 (fun w' => w'.cell? ⟨gc, i, none⟩ = some (.slice (some ⟨g1, 0, none⟩) n c1)) (first | exact StV.cell (a := ⟨gc, i, none⟩) hst7 hgc hcx | exact StV.cell (a := ⟨gc, i, none⟩) (hst7).drew hgc hcx | exact StV.cell (a := ⟨gc, i, none⟩) (hst7.alloc rfl) hgc hcx | exact StV.cell (a := ⟨gc, i, none⟩) (hst7.alloc rfl).drew hgc hcx | exact StV.cell (a := ⟨gc, i, none⟩) ((hst7.alloc rfl).alloc rfl) hgc hcx | exact StV.cell (a := ⟨gc, i, none⟩) ((hst7.alloc rfl).alloc rfl).drew hgc hcx | exact StV.cell (a := ⟨gc, i, none⟩) hst3 hgc hcx | exact StV.cell (a := ⟨gc, i, none⟩) (hst3).drew hgc hcx | exact StV.cell (a := ⟨gc, i, none⟩) (hst3.alloc rfl) hgc hcx | exact StV.cell (a := ⟨gc, i, none⟩) (hst3.alloc rfl).drew hgc hcx | exact StV.cell (a := ⟨gc, i, none⟩) ((hst3.alloc rfl).alloc rfl) hgc hcx | exact StV.cell (a := ⟨gc, i, none⟩) ((hst3.alloc rfl).alloc rfl).drew hgc hcx | go_keep)
            (first
              | (refine step_app_stv 0 (y := .slice (some ⟨g6, 0, none⟩) n c6) rfl (.tmp 84) (.tmp 86) rfl rfl (by first | exact hst7 | exact hst7.alloc rfl | exact (hst3.alloc rfl).drew | exact ((hst3.alloc rfl).alloc rfl).drew | exact hst3.alloc rfl | exact (hst3.alloc rfl).alloc rfl) (by rfl) (by rfl) (by rfl) (by simp) (by simpa using k1) ?_; intro v7 w7 hst7)
              | (refine step_app_stv 1 (y := .slice (some ⟨g1, 0, none⟩) n c1) rfl (.tmp 88) (.tmp 93) rfl rfl (by first | exact hst7 | exact hst7.alloc rfl | exact (hst3.alloc rfl).drew | exact ((hst3.alloc rfl).alloc rfl).drew | exact hst3.alloc rfl | exact (hst3.alloc rfl).alloc rfl) (by rfl) (by rfl) (by rfl) (by simp) (by simpa using k2) ?_; intro v7 w7 hst7))
          all_goals
            have f4 := Lib.hid hst7.clear
            clear hst7
            go_wp2_with fail
            go_roundw
            case rel => exact ⟨i + 1, R ++ [(Value.slice (some ⟨g6, 0, none⟩) n c6, rowT (cs.getD i []) n (y2 : Int) 0)], by omega, by go_num, by simp [hRl], f3, Lib.hid (by rw [f1.out, f2.out]; exact f4.out)⟩
            case measure => simp [intOf]; omega
    · obtain rfl : n = i := by omega
      have hst9 := hst.out
      clear hst
      rw [show vs.take n = vs from List.take_of_length_le (by rw [hvl.out]; exact Nat.le_refl _)] at hst9
      obtain ⟨gs, cps, rfl, hgsB, hgsn, hsc, hsf⟩ : ∃ gs cps, u12 = .slice (some ⟨gs, 0, none⟩) n cps ∧ B ≤ gs ∧ gs < wr.heap.size ∧ (∀ j, j < n → wr.cell? ⟨gs, j, none⟩ = some (vs.getD j undef)) ∧ ∀ j, wr.frozen? ⟨gs, j, none⟩ = false := by
        have h1 := hst9.own 1 u12 vs rfl
        rw [hvl.out] at h1
        have hh := h1
        rcases h1.2 with ⟨_, h0⟩ | ⟨g, cap, cur, rfl, hB', hg, hnc, _⟩
        · omega
        · refine ⟨g, cap, rfl, hB', (Array.getElem?_eq_some_iff.1 hg).1, fun j hj => ?_, fun j => hh.frozenAt j⟩
          rw [hh.cellAt j (by omega)]
          simp [List.getD_eq_getElem?_getD, show j < vs.length by rw [hvl.out]; exact hj]
      have k1 := hsc a han
      have k2 := hsc b hbn
      have f1 := hsf a
      have f2 := hsf b
      have hE := exch_end (a := a) (b := b) (C := w0.heap.size) (cs := cs) (mc := moreC cs n a (y2 : Int)) hst9 hvl.out hRl han hbn hs2'.out (by rw [hB2.out]; exact hb10.out.size) hmg'.out.len hRc.out hrow2.out
      have hna : cs.getD a [] ≠ [] := by
        intro e
        have h9 := hrl.out a han
        rw [e] at h9
        simp at h9
        omega
      have hnb : cs.getD b [] ≠ [] := by
        intro e
        have h9 := hrl.out b hbn
        rw [e] at h9
        simp at h9
        omega
      obtain ⟨ga, ca, ea, _⟩ := ints_parts (hrow2.out a han) hna
      obtain ⟨gb, cb, eb, _⟩ := ints_parts (hrow2.out b hbn) hnb
      rw [hrl.out a han] at ea
      rw [hrl.out b hbn] at eb
      rw [ea] at k1 hE
      rw [eb] at k2 hE
      have hgg : a = b → gb = ga ∧ cb = ca := fun h => by
        subst h
        rw [ea] at eb
        cases eb
        exact ⟨rfl, rfl⟩
      have hE' := Lib.hid hE
      clear hst9 hsc hsf hna hnb ea eb hE
      by_cases hab : a = b
      · subst hab
        obtain ⟨rfl, rfl⟩ := hgg rfl
        clear hgg
        go_wp2_with fail
        go_region_law fail
        all_goals
          obtain ⟨hm3, hs3, hb3⟩ := hE'.out
          have hc3' := Lib.hid (hcst2.out.below hb3)
          have hm3' := Lib.hid (good_cst hmg'.out hm3)
          have hs3' := Lib.hid (good_cst hsg'.out hs3)
          have hb3' := Lib.hid (below_call hb2.out hb3)
          clear hm3 hs3 hb3 hE'
          go_wp2_with fail
          refine (hk1.out _ _ hc3'.out).mono ?_
          rintro e w4 ⟨⟨p1, rfl, hrow⟩, hb4⟩
          have hp4 := Lib.hid hrow.reads
          have hc4 := Lib.hid (hc3'.out.below hb4)
          have hm4 := Lib.hid (hm3'.out.below hb4)
          have hs4 := Lib.hid (hs3'.out.below hb4)
          have hb4' := Lib.hid (below_call hb3'.out hb4)
          clear hb4 hrow hc3' hm3' hs3' hb3'
          go_wp2_with fail
          refine (hk2.out _ _ hm4.out).mono ?_
          rintro e w5 ⟨⟨p2, rfl, hrow⟩, hb5⟩
          have hp5 := Lib.hid (hp4.out.below hb5)
          have hr5 := Lib.hid hrow.reads
          have hc5 := Lib.hid (hc4.out.below hb5)
          have hs5 := Lib.hid (hs4.out.below hb5)
          have hb5' := Lib.hid (below_call hb4'.out hb5)
          clear hb5 hrow hc4 hm4 hs4 hb4' hp4
          go_wp2_with fail
          refine (hk3.out _ _ hc5.out).mono ?_
          rintro e w6 ⟨m1, v1, rfl, hl1, _, hb6⟩
          have hl1' := Lib.hid hl1
          have hp6 := Lib.hid (hp5.out.below hb6)
          have hr6 := Lib.hid (hr5.out.below hb6)
          have hc6 := Lib.hid (hc5.out.below hb6)
          have hs6 := Lib.hid (hs5.out.below hb6)
          have hb6' := Lib.hid (below_call hb5'.out hb6)
          clear hb6 hc5 hs5 hb5' hp5 hr5 hl1
          go_wp2_with fail
          refine (hk4.out _ _ hs6.out).mono ?_
          rintro e w7 ⟨m2, v2, rfl, hl2, _, hb7⟩
          obtain rfl := hsw.out _ _ hl1'.out hl2
          have hp7 := Lib.hid (hp6.out.below hb7)
          have hr7 := Lib.hid (hr6.out.below hb7)
          have hc7 := Lib.hid (hc6.out.below hb7)
          have hs7 := Lib.hid (hs6.out.below hb7)
          have hb7' := Lib.hid (below_call hb6'.out hb7)
          clear hb7 hc6 hs6 hb6' hp6 hr6 hl2 hl1'
          go_wp2_with fail
          refine (hk5.out _ _ hc7.out).mono ?_
          rintro e w8 ⟨q1, ⟨o1, rfl, _, hb8⟩, hq1, hf1⟩
          have hq1' := Lib.hid hq1
          have hf1' := Lib.hid hf1
          have hp8 := Lib.hid (hp7.out.below hb8)
          have hr8 := Lib.hid (hr7.out.below hb8)
          have hs8 := Lib.hid (hs7.out.below hb8)
          have hb8' := Lib.hid (below_call hb7'.out hb8)
          clear hb8 hc7 hs7 hb7' hp7 hr7 hq1 hf1
          go_wp2_with fail
          refine (hk6.out _ _ hs8.out).mono ?_
          rintro e w9 ⟨q2, ⟨o2, rfl, _, hb9⟩, hq2, hf2⟩
          have hev := hsv.out _ _ hq1'.out hq2 hf1'.out hf2
          rw [← hev]
          obtain ⟨D, hD⟩ : ∃ D, D = evM cs q1 := ⟨_, rfl⟩
          rw [← hD]
          have hb9' := Lib.hid (below_call hb8'.out hb9)
          have hsm := Lib.hid (same25 (hp8.out.below hb9) (hr8.out.below hb9) (by rw [hxl.out]; omega))
          clear hb9 hs8 hb8' hp8 hr8 hq1' hf1' hq2 hf2 hev hD
          go_wp2_with fail
          refine (hsm.out).mono ?_
          rw [sameL_self]
          rintro e w10 ⟨rfl, hb10⟩
          have hb10' := Lib.hid (below_call hb9'.out hb10)
          clear hb10 hsm
          go_wp2_with fail
          refine (hlv.out _).mono ?_
          rintro e w11 ⟨rfl, hb11⟩
          have hb11' := Lib.hid (below_call hb10'.out hb11)
          clear hb11
          go_wp2_with fail
          go_ret
          exact ⟨rfl, hb11'.out⟩
      · skip
        clear hgg
        go_wp2_with fail
        go_region_law fail
        all_goals
          obtain ⟨hm3, hs3, hb3⟩ := hE'.out
          have hc3' := Lib.hid (hcst2.out.below hb3)
          have hm3' := Lib.hid (good_cst hmg'.out hm3)
          have hs3' := Lib.hid (good_cst hsg'.out hs3)
          have hb3' := Lib.hid (below_call hb2.out hb3)
          clear hm3 hs3 hb3 hE'
          go_wp2_with fail
          refine (hk1.out _ _ hc3'.out).mono ?_
          rintro e w4 ⟨⟨p1, rfl, hrow⟩, hb4⟩
          have hp4 := Lib.hid hrow.reads
          have hc4 := Lib.hid (hc3'.out.below hb4)
          have hm4 := Lib.hid (hm3'.out.below hb4)
          have hs4 := Lib.hid (hs3'.out.below hb4)
          have hb4' := Lib.hid (below_call hb3'.out hb4)
          clear hb4 hrow hc3' hm3' hs3' hb3'
          go_wp2_with fail
          refine (hk2.out _ _ hm4.out).mono ?_
          rintro e w5 ⟨⟨p2, rfl, hrow⟩, hb5⟩
          have hp5 := Lib.hid (hp4.out.below hb5)
          have hr5 := Lib.hid hrow.reads
          have hc5 := Lib.hid (hc4.out.below hb5)
          have hs5 := Lib.hid (hs4.out.below hb5)
          have hb5' := Lib.hid (below_call hb4'.out hb5)
          clear hb5 hrow hc4 hm4 hs4 hb4' hp4
          go_wp2_with fail
          refine (hk3.out _ _ hc5.out).mono ?_
          rintro e w6 ⟨m1, v1, rfl, hl1, _, hb6⟩
          have hl1' := Lib.hid hl1
          have hp6 := Lib.hid (hp5.out.below hb6)
          have hr6 := Lib.hid (hr5.out.below hb6)
          have hc6 := Lib.hid (hc5.out.below hb6)
          have hs6 := Lib.hid (hs5.out.below hb6)
          have hb6' := Lib.hid (below_call hb5'.out hb6)
          clear hb6 hc5 hs5 hb5' hp5 hr5 hl1
          go_wp2_with fail
          refine (hk4.out _ _ hs6.out).mono ?_
          rintro e w7 ⟨m2, v2, rfl, hl2, _, hb7⟩
          obtain rfl := hsw.out _ _ hl1'.out hl2
          have hp7 := Lib.hid (hp6.out.below hb7)
          have hr7 := Lib.hid (hr6.out.below hb7)
          have hc7 := Lib.hid (hc6.out.below hb7)
          have hs7 := Lib.hid (hs6.out.below hb7)
          have hb7' := Lib.hid (below_call hb6'.out hb7)
          clear hb7 hc6 hs6 hb6' hp6 hr6 hl2 hl1'
          go_wp2_with fail
          refine (hk5.out _ _ hc7.out).mono ?_
          rintro e w8 ⟨q1, ⟨o1, rfl, _, hb8⟩, hq1, hf1⟩
          have hq1' := Lib.hid hq1
          have hf1' := Lib.hid hf1
          have hp8 := Lib.hid (hp7.out.below hb8)
          have hr8 := Lib.hid (hr7.out.below hb8)
          have hs8 := Lib.hid (hs7.out.below hb8)
          have hb8' := Lib.hid (below_call hb7'.out hb8)
          clear hb8 hc7 hs7 hb7' hp7 hr7 hq1 hf1
          go_wp2_with fail
          refine (hk6.out _ _ hs8.out).mono ?_
          rintro e w9 ⟨q2, ⟨o2, rfl, _, hb9⟩, hq2, hf2⟩
          have hev := hsv.out _ _ hq1'.out hq2 hf1'.out hf2
          rw [← hev]
          obtain ⟨D, hD⟩ : ∃ D, D = evM cs q1 := ⟨_, rfl⟩
          rw [← hD]
          have hb9' := Lib.hid (below_call hb8'.out hb9)
          have hsm := Lib.hid (same25 (hp8.out.below hb9) (hr8.out.below hb9) (by rw [hxl.out]; omega))
          clear hb9 hs8 hb8' hp8 hr8 hq1' hf1' hq2 hf2 hev hD
          go_wp2_with fail
          refine (hsm.out).mono ?_
          rw [sameL_self]
          rintro e w10 ⟨rfl, hb10⟩
          have hb10' := Lib.hid (below_call hb9'.out hb10)
          clear hb10 hsm
          go_wp2_with fail
          refine (hlv.out _).mono ?_
          rintro e w11 ⟨rfl, hb11⟩
          have hb11' := Lib.hid (below_call hb10'.out hb11)
          clear hb11
          go_wp2_with fail
          go_ret
          exact ⟨rfl, hb11'.out⟩
end Go.Proofs.Ytfobdlllghpelaa
end

