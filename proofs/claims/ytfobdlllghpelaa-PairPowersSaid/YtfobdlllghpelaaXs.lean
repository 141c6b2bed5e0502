import Derived.Test.YtfobdlllghpelaaXr
import Derived.Test.YtfobdlllghpelaaZc
import Derived.Test.YtfobdlllghpelaaZb
namespace Go.Proofs.Ytfobdlllghpelaa
open Go.RowKit Go.Shelf Pair

/-- The costs of a pairing from row `i` on, and they in falling order. -/
def cosF (cs : List (List Int)) : Nat → List Nat → List Nat
  | _, [] => []
  | i, a :: l => (costAt cs i a).toNat :: cosF cs (i + 1) l
def ffF (cs : List (List Int)) : Nat → List Nat → List Nat
  | _, [] => []
  | i, a :: l => ins (costAt cs i a).toNat (ffF cs (i + 1) l)
theorem ffF_perm (cs : List (List Int)) : ∀ (l : List Nat) (i : Nat), (ffF cs i l).Perm (cosF cs i l)
  | [], _ => List.Perm.refl _
  | _ :: l, i => (ins_perm _ _).trans ((ffF_perm cs l (i + 1)).cons _)
theorem ffF_sorted (cs : List (List Int)) : ∀ (l : List Nat) (i : Nat), (ffF cs i l).Pairwise (· ≥ ·)
  | [], _ => by simp [ffF]
  | _ :: l, i => ins_sorted _ _ (ffF_sorted cs l (i + 1))
theorem cosF_len (cs : List (List Int)) : ∀ (l : List Nat) (i : Nat), (cosF cs i l).length = l.length
  | [], _ => rfl
  | a :: l, i => by simp [cosF, cosF_len cs l]
theorem cosF_at (cs : List (List Int)) : ∀ (l : List Nat) (i : Nat), cosF cs i l = (List.range l.length).map fun t => (costAt cs (i + t) (l.getD t 0)).toNat
  | [], _ => rfl
  | a :: l, i => by
    rw [cosF, cosF_at cs l (i + 1), List.length_cons, List.range_succ_eq_map, List.map_cons, List.map_map]
    congr 1
    refine List.map_congr_left fun t _ => ?_
    simp only [Function.comp, List.getD_cons_succ]
    rw [show i + 1 + t = i + (t + 1) by omega]
theorem cosF_costs (cs : List (List Int)) (l : List Nat) : cosF cs 0 l = costsN cs l := by
  rw [cosF_at]; unfold costsN; simp
theorem ffF_falling (cs : List (List Int)) (l : List Nat) : falling (costsN cs l) = ffF cs 0 l := by
  rw [← cosF_costs]; exact falling_only (ffF_perm cs l 0) (ffF_sorted cs l 0)
theorem ffF_len (cs : List (List Int)) (l : List Nat) (i : Nat) : (ffF cs i l).length = l.length := by
  rw [(ffF_perm cs l i).length_eq, cosF_len]
theorem ms_ff (cs : List (List Int)) {n : Nat} (hc : ∀ i j, i < n → j < n → 0 ≤ costAt cs i j) : ∀ (l : List Nat) (i k : Nat), l.length + k = 8 → i + l.length ≤ n → (∀ a ∈ l, a < n) → ms insF zeroF (costAt cs) i l = natI (ffF cs i l) ++ List.replicate k 0
  | [], _, k, h, _, _ => by
    have : k = 8 := by simpa using h
    subst this; rfl
  | a :: l, i, k, h, hi, ha => by
    rw [List.length_cons] at h hi
    have ih := ms_ff cs hc l (i + 1) (k + 1) (by omega) (by omega) (fun b hb => ha b (List.mem_cons_of_mem _ hb))
    rw [ms, ih]
    have h0 := hc i a (by omega) (ha a (List.mem_cons_self ..))
    have e : ((costAt cs i a).toNat : Int) = costAt cs i a := Int.toNat_of_nonneg h0
    have := insF_pad (ffF cs (i + 1) l) k (costAt cs i a).toNat (ffF_sorted cs l (i + 1))
    rw [e] at this
    exact this
theorem smM_falling {cs : List (List Int)} {n : Nat} {l : List Nat} (hn8 : n ≤ 8) (hc : ∀ i j, i < n → j < n → 0 ≤ costAt cs i j) (hl : l.length = n) (ha : ∀ a ∈ l, a < n) : smM cs l = natI (falling (costsN cs l)) ++ List.replicate (8 - n) 0 := by
  rw [ffF_falling]
  exact ms_ff cs hc l 0 (8 - n) (by omega) (by omega) ha
theorem lexI_nat : ∀ {l m : List Nat} (z : List Int), l.length = m.length → lexI z z = false → lexI (natI l ++ z) (natI m ++ z) = lexB l m
  | [], [], z, _, hz => by simpa [natI, lexB] using hz
  | a :: l, b :: m, z, h, hz => by
    have ih := lexI_nat (l := l) (m := m) z (by simpa using h) hz
    simp only [natI, List.map_cons, List.cons_append, lexI, lexB] at ih ⊢
    rw [ih]
    congr 1
    · simp
    · congr 1; simp; omega
theorem lexI_irr (z : List Int) : lexI z z = false := by
  cases e : lexI z z with
  | false => rfl
  | true => rw [lexI_asymm z z e] at e; exact absurd e (by decide)
/-- The order of pairings that the reference asks. -/
theorem smM_less {cs : List (List Int)} {n : Nat} {l m : List Nat} (hn8 : n ≤ 8) (hc : ∀ i j, i < n → j < n → 0 ≤ costAt cs i j) (hl : l.length = n) (ha : ∀ a ∈ l, a < n) (hm : m.length = n) (hb : ∀ a ∈ m, a < n) :
    lexI (smM cs l) (smM cs m) = lexB (falling (costsN cs l)) (falling (costsN cs m)) := by
  rw [smM_falling hn8 hc hl ha, smM_falling hn8 hc hm hb]
  refine lexI_nat _ ?_ (lexI_irr _)
  rw [ffF_falling, ffF_falling, ffF_len, ffF_len, hl, hm]
theorem smM_len (cs : List (List Int)) : ∀ (l : List Nat) (i : Nat), (ms insF zeroF (costAt cs) i l).length = 8
  | [], _ => rfl
  | a :: l, i => by rw [ms, insF_len, smM_len cs l (i + 1)]
theorem weak_sm (cs : List (List Int)) : Weak fun a b => lexI (smM cs a) (smM cs b) where
  asymm a b h := lexI_asymm _ _ h
  pass a b c h1 h2 := by
    have hab : (smM cs a).length = (smM cs b).length := by rw [smM, smM, smM_len, smM_len]
    have hbc : (smM cs b).length = (smM cs c).length := by rw [smM, smM, smM_len, smM_len]
    cases e : lexI (smM cs a) (smM cs c) with
    | false => rfl
    | true =>
      rcases lexI_tri hab with h | h | h
      · rw [h] at h1; exact absurd h1 (by decide)
      · rw [h] at e; rw [e] at h2; exact absurd h2 (by decide)
      · rcases lexI_tri hbc with g | g | g
        · rw [g] at h2; exact absurd h2 (by decide)
        · rw [← g, lexI_asymm _ _ h] at e; exact absurd e (by decide)
        · have := lexI_asymm _ _ (lexI_trans _ _ _ g h)
          rw [this] at e
          exact absurd e (by decide)
/-- One step of the reference's search. -/
def bestL (lt : List Nat → List Nat → Bool) (b : Option (List Nat)) (l : List Nat) : Option (List Nat) := match b with
  | none => some l
  | some b => if lt l b then some l else some b
theorem bestL_first (lt : List Nat → List Nat → Bool) : ∀ (ls : List (List Nat)) (b : List Nat), ls.foldl (bestL lt) (some b) = some (firstOf lt ls b)
  | [], b => rfl
  | l :: ls, b => by
    rw [List.foldl_cons, firstOf]
    by_cases h : lt l b = true
    · simp only [bestL, h, if_true]; exact bestL_first lt ls l
    · simp only [bestL, h]; exact bestL_first lt ls b
theorem bestL_congr {lt lt' : List Nat → List Nat → Bool} {S : List Nat → Prop} (h : ∀ a b, S a → S b → lt a b = lt' a b) : ∀ (ls : List (List Nat)) (b : Option (List Nat)), (∀ l ∈ ls, S l) → (∀ x, b = some x → S x) → ls.foldl (bestL lt) b = ls.foldl (bestL lt') b
  | [], _, _, _ => rfl
  | l :: ls, b, hl, hb => by
    rw [List.foldl_cons, List.foldl_cons]
    have hS := hl l (List.mem_cons_self ..)
    have e : bestL lt b l = bestL lt' b l := by
      cases b with
      | none => rfl
      | some y => simp only [bestL, h l y hS (hb y rfl)]
    rw [e]
    refine bestL_congr h ls _ (fun m hm => hl m (List.mem_cons_of_mem _ hm)) (fun x hx => ?_)
    cases b with
    | none => simp only [bestL, Option.some.injEq] at hx; rw [← hx]; exact hS
    | some y =>
      simp only [bestL] at hx
      split at hx
      · simp only [Option.some.injEq] at hx; rw [← hx]; exact hS
      · simp only [Option.some.injEq] at hx; rw [← hx]; exact hb y rfl
/-- What the table's search finds is what the reference finds. -/
theorem smooth_ref {cs : List (List Int)} {n : Nat} (hn8 : n ≤ 8) (hc : ∀ i j, i < n → j < n → 0 ≤ costAt cs i j) {x : List Nat} (h2 : x ∈ allP n n []) (h3 : ∀ l ∈ allP n n [], lexI (smM cs l) (smM cs x) = false)
    (h4 : ∀ l ∈ allP n n [], lexLt l x → lexI (smM cs x) (smM cs l) = true) : (allP n n []).foldl (bestL fun a b => lexB (falling (costsN cs a)) (falling (costsN cs b))) none = some x := by
  rw [← bestL_congr (lt := fun a b => lexI (smM cs a) (smM cs b)) (S := fun l => l.length = n ∧ ∀ a ∈ l, a < n) (fun a b ha hb => smM_less hn8 hc ha.1 ha.2 hb.1 hb.2) _ none (fun l hl => ⟨(all_mem hl).1, (all_mem hl).2.2⟩) (fun x h => by simp at h)]
  have hs := allP_sorted n n []
  have hlen := (all_mem h2).1
  have hm : ∀ l ∈ allP n n [], l.length = x.length := fun l hl => by rw [(all_mem hl).1, hlen]
  cases e : allP n n [] with
  | nil => rw [e] at h2; simp at h2
  | cons b ls =>
    rw [e] at hs hm h3 h4 h2
    rw [List.foldl_cons]
    show ls.foldl (bestL fun a b => lexI (smM cs a) (smM cs b)) (some b) = some x
    rw [bestL_first, firstOf_unique (weak_sm cs) hs hm h2 h3 h4]
end Go.Proofs.Ytfobdlllghpelaa
