import Derived.Test.YtfobdlllghpelaaXc
import Derived.Test.YtfobdlllghpelaaZl
import Derived.Test.YtfobdlllghpelaaZb
import Derived.StillTailTactics
namespace Go.Proofs.Ytfobdlllghpelaa
open Go.RowKit Go.Shelf Pair
attribute [local go_sem] Oper.semAt_some

theorem total_front (n : Nat) (f : Nat → Int) : total (n + 1) f = f 0 + total n (fun i => f (i + 1)) := by
  unfold total
  rw [List.range_succ_eq_map, List.map_cons, List.sum_cons, List.map_map]
  rfl
theorem sumM_total (cs : List (List Int)) : ∀ (l : List Nat) (k : Nat), sumM cs k l = total l.length (fun i => costAt cs (k + i) (l.getD i 0))
  | [], k => rfl
  | a :: l, k => by
    rw [sumM_cons, sumM_total cs l (k + 1), List.length_cons, total_front]
    have : (fun i => costAt cs (k + 1 + i) (l.getD i 0)) = fun i => costAt cs (k + (i + 1)) ((a :: l).getD (i + 1) 0) := by
      funext i
      rw [show k + 1 + i = k + (i + 1) by omega]; simp
    rw [this]
    simp
    omega
theorem getD_map_nat {f : Nat → Nat} {l : List Nat} {i : Nat} (h : i < l.length) : (l.map f).getD i 0 = f (l.getD i 0) := by
  simp [List.getD_eq_getElem?_getD, h]
theorem perm_inj {n : Nat} {p : List Nat} (h : PermL n p) {i j : Nat} (hi : i < n) (hj : j < n) (e : p.getD i 0 = p.getD j 0) : i = j := by
  have e1 : p.getD i 0 = p[i]'(by rw [h.1]; exact hi) := by simp [List.getD_eq_getElem?_getD, show i < p.length by rw [h.1]; exact hi]
  have e2 : p.getD j 0 = p[j]'(by rw [h.1]; exact hj) := by simp [List.getD_eq_getElem?_getD, show j < p.length by rw [h.1]; exact hj]
  rw [e1, e2] at e
  exact (List.getElem_inj h.2.1).1 e
theorem perm_onto {n : Nat} {p : List Nat} (h : PermL n p) {j : Nat} (hj : j < n) : ∃ r, r < n ∧ p.getD r 0 = j := by
  have hp : Perm n p := ⟨h.1, h.2.2, h.2.1⟩
  have := hp.range.mem_iff.2 (List.mem_range.2 hj)
  obtain ⟨r, hr, e⟩ := List.getElem_of_mem this
  refine ⟨r, by rw [← h.1]; exact hr, ?_⟩
  simp [List.getD_eq_getElem?_getD, hr, e]
theorem perm_comp {n : Nat} {p q : List Nat} (hp : PermL n p) (hq : PermL n q) : PermL n (q.map fun i => p.getD i 0) := by
  refine ⟨by simp [hq.1], ?_, fun a ha => ?_⟩
  · rw [List.nodup_iff_pairwise_ne, List.pairwise_map]
    refine List.Pairwise.imp_of_mem ?_ (List.nodup_iff_pairwise_ne.1 hq.2.1)
    intro a b ha hb hne he
    exact hne (perm_inj hp (hq.2.2 a ha) (hq.2.2 b hb) he)
  · obtain ⟨i, hi, rfl⟩ := List.mem_map.1 ha
    exact hp.at (hq.2.2 i hi)
/-- What each row costs with the column of each other row. -/
def cC (cs : List (List Int)) (p : List Nat) (i r : Nat) : Int := costAt cs i (p.getD r 0)
/-- The pairing is a cheapest one. -/
def Cheap (cs : List (List Int)) (n : Nat) (p : List Nat) : Prop := PermL n p ∧ ∀ q, PermL n q → sumM cs 0 p ≤ sumM cs 0 q
theorem Cheap.min {cs : List (List Int)} {n : Nat} {p : List Nat} (h : Cheap cs n p) : ∀ q : List Nat, PermL n q → total n (fun i => cC cs p i i) ≤ total n (fun i => cC cs p i (q.getD i 0)) := by
  intro q hq
  have h1 := h.2 _ (perm_comp h.1 hq)
  rw [sumM_total, sumM_total, List.length_map, h.1.1, hq.1] at h1
  simp only [Nat.zero_add] at h1
  rw [total_congr (g := fun i => cC cs p i (q.getD i 0)) (n := n) (f := fun i => costAt cs i ((q.map fun i => p.getD i 0).getD i 0)) fun i hi => by
    rw [getD_map_nat (by rw [hq.1]; exact hi)]; rfl] at h1
  exact h1
def vTo (cs : List (List Int)) (n row : Nat) (u : Int) (V : List Int) (j : Nat) : List Int := (List.range n).map fun t => if t < j then min (V.getD t 0) (costAt cs row t - u) else V.getD t 0
theorem vTo_at {cs : List (List Int)} {n row j t : Nat} {u : Int} {V : List Int} (h : t < n) : (vTo cs n row u V j).getD t 0 = if t < j then min (V.getD t 0) (costAt cs row t - u) else V.getD t 0 := by
  unfold vTo; simp [List.getD_eq_getElem?_getD, h]
theorem vTo_zero {cs : List (List Int)} {n row : Nat} {u : Int} {V : List Int} (h : V.length = n) : vTo cs n row u V 0 = V := by
  refine List.ext_getElem (by simp [vTo, h]) fun i h1 h2 => ?_
  simp [vTo, List.getD_eq_getElem?_getD, h2]
theorem vTo_next {cs : List (List Int)} {n row j : Nat} {u : Int} {V : List Int} : (vTo cs n row u V j).set j (min (V.getD j 0) (costAt cs row j - u)) = vTo cs n row u V (j + 1) := by
  refine List.ext_getElem (by simp [vTo]) fun i h1 h2 => ?_
  have g : ∀ q (h : i < (vTo cs n row u V q).length), (vTo cs n row u V q)[i] = if i < q then min (V.getD i 0) (costAt cs row i - u) else V.getD i 0 := fun q h => by simp [vTo]
  rw [List.getElem_set, g, g]
  by_cases e : j = i
  · subst e; rw [if_pos rfl, if_pos (by omega)]
  · rw [if_neg e]
    by_cases h : i < j
    · rw [if_pos h, if_pos (by omega)]
    · rw [if_neg h, if_neg (by omega)]
structure RInv (cs : List (List Int)) (n : Nat) (p : List Nat) (k r : Nat) (U V : List Int) : Prop where
  lu : U.length = n
  lv : V.length = n
  bf : BF (cC cs p) n k r (fun j => V.getD (p.getD j 0) 0)
  fin : k + 1 = n → ∀ i, i < r → U.getD i 0 = cC cs p i i - V.getD (p.getD i 0) 0
  ub : ∀ i, i < n → -10000 ≤ U.getD i 0 ∧ U.getD i 0 ≤ 10000
theorem RInv.bound {cs : List (List Int)} {n k r : Nat} {p : List Nat} {U V : List Int} (hg : Good cs n) (hc : Cheap cs n p) (h : RInv cs n p k r U V) {j : Nat} (hj : j < n) : -8000 ≤ V.getD j 0 ∧ V.getD j 0 ≤ 0 := by
  obtain ⟨i, hi, e⟩ := perm_onto hc.1 hj
  have hb := BF.bound (cC cs p) (b := 1000) hc.min (by omega) (fun i r hi hr => by
    unfold wW cC
    have := hg.bd i _ hi (hc.1.at hr)
    have := hg.bd i _ hi (hc.1.at hi)
    omega) h.bf hi
  simp only [e] at hb
  have := hg.eight
  omega
theorem RInv.next {cs : List (List Int)} {n k r : Nat} {p : List Nat} {U V : List Int} (hg : Good cs n) (hc : Cheap cs n p) (h : RInv cs n p k r U V) (hr : r < n) :
    RInv cs n p k (r + 1) (U.set r (costAt cs r (p.getD r 0) - V.getD (p.getD r 0) 0)) (vTo cs n r (costAt cs r (p.getD r 0) - V.getD (p.getD r 0) 0) V n) := by
  have hy : ∀ j, j < n → (vTo cs n r (costAt cs r (p.getD r 0) - V.getD (p.getD r 0) 0) V n).getD (p.getD j 0) 0 = min (V.getD (p.getD j 0) 0) (V.getD (p.getD r 0) 0 + wW (cC cs p) r j) := fun j hj => by
    rw [vTo_at (hc.1.at hj), if_pos (hc.1.at hj)]
    unfold wW cC
    congr 1; omega
  refine ⟨by rw [List.length_set]; exact h.lu, by simp [vTo], h.bf.step (cC cs p) hr hy, fun hk i hi => ?_, fun i hi => ?_⟩
  · have hst : (vTo cs n r (costAt cs r (p.getD r 0) - V.getD (p.getD r 0) 0) V n).getD (p.getD i 0) 0 = V.getD (p.getD i 0) 0 := by
      rw [hy i (by omega)]
      have := BF.stable (cC cs p) hc.min h.bf (by omega) hr (show i < n by omega)
      omega
    rw [hst]
    rcases Nat.lt_succ_iff_lt_or_eq.1 hi with h1 | rfl
    · rw [← h.fin hk i h1]
      simp [List.getD_eq_getElem?_getD, show r ≠ i by omega]
    · have : i < U.length := by rw [h.lu]; exact hr
      simp [List.getD_eq_getElem?_getD, this, cC]
  · by_cases e : i = r
    · subst e
      have h1 : i < U.length := by rw [h.lu]; exact hr
      rw [show (U.set i (costAt cs i (p.getD i 0) - V.getD (p.getD i 0) 0)).getD i 0 = costAt cs i (p.getD i 0) - V.getD (p.getD i 0) 0 by simp [List.getD_eq_getElem?_getD, h1]]
      have h2 := h.bound hg hc (hc.1.at hr)
      have h3 := hg.bd i _ hr (hc.1.at hr)
      omega
    · rw [show (U.set r (costAt cs r (p.getD r 0) - V.getD (p.getD r 0) 0)).getD i 0 = U.getD i 0 by simp [List.getD_eq_getElem?_getD, Ne.symm e]]
      exact h.ub i hi
def RDone (cs : List (List Int)) (n : Nat) (p : List Nat) (k : Nat) (U V : List Int) : Prop := k = n → (∀ i, i < n → U.getD i 0 = cC cs p i i - V.getD (p.getD i 0) 0) ∧ ∀ i j, i < n → j < n → V.getD (p.getD j 0) 0 ≤ V.getD (p.getD i 0) 0 + wW (cC cs p) i j
theorem RInv.round {cs : List (List Int)} {n k : Nat} {p : List Nat} {U V : List Int} (hc : Cheap cs n p) (h : RInv cs n p k n U V) : RInv cs n p (k + 1) 0 U V ∧ RDone cs n p (k + 1) U V :=
  ⟨⟨h.lu, h.lv, h.bf.next, fun _ i hi => by omega, h.ub⟩, fun hk => ⟨fun i hi => h.fin hk i hi, fun i j hi hj => BF.stable (cC cs p) hc.min h.bf (by omega) hi hj⟩⟩
theorem RInv.init {cs : List (List Int)} {n : Nat} {p : List Nat} (hn : 1 ≤ n) : RInv cs n p 0 0 (List.replicate n 0) (List.replicate n 0) ∧ RDone cs n p 0 (List.replicate n 0) (List.replicate n 0) := by
  have hz : ∀ j, (List.replicate n (0 : Int)).getD j 0 = 0 := fun j => by
    rw [List.getD_eq_getElem?_getD]
    cases h : (List.replicate n (0 : Int))[j]? with
    | none => rfl
    | some x => have := List.mem_of_getElem? h; simp at this; rw [this.2]; rfl
  refine ⟨⟨by simp, by simp, ?_, fun _ i hi => by omega, fun i _ => by rw [hz]; omega⟩, fun h => by omega⟩
  have : (fun j => (List.replicate n (0 : Int)).getD (p.getD j 0) 0) = fun _ => (0 : Int) := by funext j; exact hz _
  rw [this]
  exact BF.init (cC cs p) n
theorem prB_of {n : Nat} {l : List Int} (hl : l.length = n) (h : ∀ i, i < n → -1000000000 ≤ l.getD i 0 ∧ l.getD i 0 ≤ 1000000000) : prB n l = true := by
  unfold prB
  simp only [Bool.and_eq_true, decide_eq_true_eq]
  refine ⟨?_, by omega⟩
  unfold prAll
  rw [List.all_eq_true]
  intro x hx
  obtain ⟨i, hi, rfl⟩ := List.getElem_of_mem hx
  have := h i (by omega)
  rw [show l.getD i 0 = l[i] by simp [List.getD_eq_getElem?_getD, hi]] at this
  unfold prOk
  simp [this.1, this.2]
theorem totPr_total (R L : List Int) : ∀ k, totPr R L k = total k (fun i => R.getD i 0 + L.getD i 0)
  | 0 => rfl
  | k + 1 => by rw [totPr, total_succ, totPr_total R L k]
/-- The numbers are prices for the sum of the cheapest pairing. -/
theorem prices_ok {cs : List (List Int)} {n : Nat} {p : List Nat} {U V : List Int} (hg : Good cs n) (hc : Cheap cs n p) (h : RInv cs n p n 0 U V) (hd : RDone cs n p n U V) :
    prB n U = true ∧ prB n V = true ∧ allPr cs n U V (List.range' 0 n) = true ∧ totPr U V n = sumM cs 0 p := by
  obtain ⟨d1, d2⟩ := hd rfl
  refine ⟨prB_of h.lu fun i hi => ?_, prB_of h.lv fun i hi => ?_, ?_, ?_⟩
  · have := h.ub i hi; omega
  · have := h.bound hg hc hi; omega
  · unfold allPr rowPr
    simp only [List.all_eq_true, List.mem_range', decide_eq_true_eq]
    rintro i ⟨i', hi, rfl⟩ j ⟨j', hj, rfl⟩
    simp only [Nat.zero_add, Nat.one_mul]
    obtain ⟨r, hr, e⟩ := perm_onto hc.1 hj
    have h1 := d1 i' hi
    have h2 := d2 i' r hi hr
    rw [e] at h2
    unfold wW at h2
    unfold cC at h1 h2
    rw [e] at h2
    omega
  · rw [totPr_total, sumM_total, hc.1.1]
    simp only [Nat.zero_add]
    have hp : Perm n p := ⟨hc.1.1, hc.1.2.2, hc.1.2.1⟩
    have e1 := total_add n (fun i => U.getD i 0) (fun i => V.getD i 0)
    have e2 := hp.total (fun j => V.getD j 0)
    have e3 := total_add n (fun i => U.getD i 0) (fun i => V.getD (p.getD i 0) 0)
    have e4 : total n (fun i => U.getD i 0 + V.getD (p.getD i 0) 0) = total n (fun i => costAt cs i (p.getD i 0)) := total_congr fun i hi => by
      rw [d1 i hi]; unfold cC; omega
    omega
theorem cheap_of {cs : List (List Int)} {n : Nat} {x : List Nat} (h1 : x ∈ allP n n []) (h2 : (allP n n []).foldl (bestM (sumM cs 0)) none = some x) : Cheap cs n x := by
  refine ⟨allP_perm.1 h1, fun q hq => ?_⟩
  have hs := allP_sorted n n []
  have hq' := allP_perm.2 hq
  cases e : allP n n [] with
  | nil => rw [e] at h1; simp at h1
  | cons b ls =>
    rw [e] at hs h2 hq'
    rw [List.foldl_cons] at h2
    have h3 : ls.foldl (bestM (sumM cs 0)) (some b) = some x := h2
    rw [best_first] at h3
    injection h3 with h3
    obtain ⟨_, g2, _⟩ := firstLeast_spec (sumM cs 0) ls b hs
    rw [h3] at g2
    exact g2 q hq'
end Go.Proofs.Ytfobdlllghpelaa
