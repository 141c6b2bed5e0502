import Derived.Test.YtfobdlllghpelaaXq
import Derived.Test.YtfobdlllghpelaaZb
namespace Go.Proofs.Ytfobdlllghpelaa
open Go.RowKit Go.Shelf Pair

/-- A pairing's costs in falling order, and zeros. -/
def smM (cs : List (List Int)) (l : List Nat) : List Int := ms insF zeroF (costAt cs) 0 l
theorem smooth_first {cs : List (List Int)} {n : Nat} (hn8 : n ≤ 8) (hc : ∀ i j, i < n → j < n → 0 ≤ costAt cs i j) : ∃ x, srch (decO lexI insF zeroF (costAt cs) n) (nxtO lexI insF zeroF (costAt cs) n) n n (2 ^ n - 1) (2 ^ n - 1) = some x ∧ x ∈ allP n n [] ∧
    smM cs x = optF cs n n (2 ^ n - 1) ∧ (∀ l ∈ allP n n [], lexI (smM cs l) (smM cs x) = false) ∧ ∀ l ∈ allP n n [], lexLt l x → lexI (smM cs x) (smM cs l) = true := by
  have hsz : sz n (2 ^ n - 1) = n := by
    rw [← szS_sz (Nat.sub_lt (Nat.pow_pos (by decide)) (by decide)) hn8]; exact szS_full n hn8
  obtain ⟨x, h1, h2, h3, h4⟩ := srchO (measF hn8 hc) n (2 ^ n - 1) (Nat.le_refl _) hsz
  obtain ⟨_, h5, _⟩ := opt_spec (measF hn8 hc) n (2 ^ n - 1) (Nat.le_refl _) hsz
  rw [Nat.sub_self] at h3 h4 h5
  rw [← allP_all] at h2 h4 h5
  have h3' : smM cs x = optF cs n n (2 ^ n - 1) := h3
  refine ⟨x, h1, h2, h3', fun l hl => ?_, fun l hl hx => ?_⟩
  · rw [h3']; exact (h5 l hl).2
  · rw [h3']; exact h4 l hl hx

/-- A row of falling costs with zeros behind. -/
def padF (l : List Nat) : List Int := natI l ++ List.replicate (8 - l.length) 0
theorem ins_top {a : Nat} : ∀ {l : List Nat}, (a :: l).Pairwise (· ≥ ·) → ins a l = a :: l
  | [], _ => rfl
  | b :: m, h => by
    have hb : b ≤ a := (List.pairwise_cons.1 h).1 b (List.mem_cons_self ..)
    by_cases hab : a ≤ b
    · obtain rfl : a = b := by omega
      have hm := ins_top (a := a) (l := m) (List.pairwise_cons.1 h).2
      simp [ins, hm]
    · simp [ins, hab]
theorem insF_pad : ∀ (l : List Nat) (k v : Nat), l.Pairwise (· ≥ ·) → insF (natI l ++ List.replicate (k + 1) 0) (v : Int) = natI (ins v l) ++ List.replicate k 0
  | [], k, v, _ => by
    have hz : ∀ k, insF (List.replicate k (0 : Int)) 0 = List.replicate k 0 := fun k => insF_zero _ (fun i => by
      by_cases h : i < k <;> simp [List.getD_eq_getElem?_getD, h])
    have e1 : max (0 : Int) (v : Int) = (v : Int) := by omega
    have e2 : min (0 : Int) (v : Int) = 0 := by omega
    simp [natI, ins, List.replicate_succ, insF, e1, e2, hz]
  | a :: l, k, v, h => by
    have hl := (List.pairwise_cons.1 h).2
    have ih := insF_pad l k
    by_cases hv : v ≤ a
    · have e1 : max (Int.ofNat a) (v : Int) = Int.ofNat a := by show max (a : Int) (v : Int) = (a : Int); omega
      have e2 : min (Int.ofNat a) (v : Int) = (v : Int) := by show min (a : Int) (v : Int) = (v : Int); omega
      have := ih v hl
      simp only [natI, ins, if_pos hv, List.map_cons, List.cons_append, insF, e1, e2] at this ⊢
      rw [this]
    · have e1 : max (Int.ofNat a) (v : Int) = Int.ofNat v := by show max (a : Int) (v : Int) = (v : Int); omega
      have e2 : min (Int.ofNat a) (v : Int) = (a : Int) := by show min (a : Int) (v : Int) = (a : Int); omega
      have := ih a hl
      have hi := ins_top h
      rw [hi] at this
      simp only [natI, ins, if_neg hv, List.map_cons, List.cons_append, insF, e1, e2] at this ⊢
      rw [this]
end Go.Proofs.Ytfobdlllghpelaa
