import Derived.Test.YtccmabckmpelcaaEc
import Derived.Test.YtccmabckmpelcaaRc
namespace Go.Proofs.Ytccmabckmpelcaa
open Go.RowKit

/-! ## Uses by rights: what does not depend on the younger ones, and more water -/
theorem served_later {fs rs ag : List Int} (hg : agesB ag fs.length = true) {j a : Nat} (_ : j < fs.length) (ha : ag.getD j 0 = (a : Int)) : ∀ k, a + 1 ≤ k → k ≤ fs.length → (served fs rs ag k).getD j 0 = (served fs rs ag (a + 1)).getD j 0 := by
  intro k
  induction k with
  | zero => intro h; omega
  | succ k ih =>
    intro h1 h2
    by_cases e : k = a
    · subst e; rfl
    · rw [served, serve_other fs _ _ (fun e2 => ?_)]
      · exact ih (by omega) (by omega)
      · have := (place_facts hg (k := k) (by omega)).2.1
        rw [← e2, ha] at this
        omega
theorem served_same {fs rs rs' ag : List Int} {m : Nat} (h : ∀ a, a < m → rs.getD (placeOf ag a) 0 = rs'.getD (placeOf ag a) 0) : ∀ k, k ≤ m → served fs rs ag k = served fs rs' ag k := by
  intro k
  induction k with
  | zero => intro _; rfl
  | succ k ih => intro hk; rw [served, served, ih (by omega), h k (by omega)]
/-- W4: what a place gets does not depend on the younger ones' rights. -/
theorem older_same {fs rs rs' ag : List Int} (hg : agesB ag fs.length = true) {m : Nat} (hr : ∀ j, j < fs.length → ag.getD j 0 < (m : Int) → rs.getD j 0 = rs'.getD j 0) {j : Nat} (hj : j < fs.length) (h0 : 0 ≤ ag.getD j 0) (hm : ag.getD j 0 < m) (hmn : m ≤ fs.length) :
    (served fs rs ag fs.length).getD j 0 = (served fs rs' ag fs.length).getD j 0 := by
  obtain ⟨a, ha⟩ : ∃ a : Nat, ag.getD j 0 = (a : Int) := ⟨(ag.getD j 0).toNat, by omega⟩
  rw [served_later hg hj ha fs.length (by omega) (Nat.le_refl _), served_later hg hj ha fs.length (by omega) (Nat.le_refl _)]
  rw [served_same (rs := rs) (rs' := rs') (m := m) (fun a' ha' => ?_) (a + 1) (by omega)]
  obtain ⟨p1, p2, _⟩ := place_facts hg (k := a') (by omega)
  exact hr _ p1 (by rw [p2]; omega)
theorem poss_more {fs us : List Int} {q : Nat} (hl : us.length = fs.length) (hq : q < fs.length) (h : poss 0 fs us = true) : poss 0 (grow1 fs q) us = true := by
  rw [poss_L hl] at h
  rw [poss_L (by rw [grow1_len]; exact hl)]
  intro k hk
  refine Int.le_trans (h k (by rw [grow1_len] at hk; exact hk)) (S_le fun i hi => ?_)
  unfold L
  rw [grow1_at _ _ _ hq]
  split
  · rename_i e; subst e; omega
  · omega
/-- W4: one more piece of water never gives the oldest place less. -/
theorem oldest_more {fs rs ag : List Int} {q p : Nat} (hf : FlowOk fs) (hf2 : FlowOk (grow1 fs q)) (hg : agesB ag fs.length = true) (hq : q < fs.length) (hp : p < fs.length) (ha : ag.getD p 0 = 0) (h1 : 1 ≤ fs.length) :
    (served fs rs ag fs.length).getD p 0 ≤ (served (grow1 fs q) rs ag fs.length).getD p 0 := by
  have hg2 : agesB ag (grow1 fs q).length = true := by rw [grow1_len]; exact hg
  have hp0 := (place_facts hg (k := 0) (by omega)).2.2 p hp (by rw [ha]; rfl)
  rw [served_later hg hp (a := 0) (by rw [ha]; rfl) fs.length (by omega) (Nat.le_refl _)]
  have e2 := served_later (rs := rs) hg2 (by rw [grow1_len]; exact hp) (a := 0) (by rw [ha]; rfl) fs.length (by omega) (by rw [grow1_len]; exact Nat.le_refl _)
  rw [e2]
  obtain ⟨t, t1, t2, t3, t4, t5⟩ := served_next (rs := rs) hf hg (k := 0) (by omega)
  obtain ⟨s, s1, s2, s3, s4, s5⟩ := served_next (rs := rs) hf2 hg2 (k := 0) (by rw [grow1_len]; omega)
  rw [← hp0] at t1 t2 t3 t4 t5 s1 s2 s3 s4 s5
  have hz : ∀ (f : List Int), served f rs ag 0 = List.replicate f.length 0 := fun f => rfl
  rw [hz] at t2 t3 t4 t5 s2 s3 s4 s5
  rw [grow1_len] at s2 s3 s4 s5
  rw [t3, s3]
  have hget : ∀ x : Int, ((List.replicate fs.length (0 : Int)).set p x).getD p 0 = x := fun x => by rw [List.getD_eq_getElem?_getD, List.getElem?_set_self (by simpa using hp)]; rfl
  rw [hget, hget]
  rcases Int.lt_or_le (s : Int) t with h | h
  · have h2 := poss_more (by simp) hq t4
    rw [s5 t h (by omega)] at h2
    simp at h2
  · exact h
/-- A use by rights takes between nothing and the rights. -/
theorem served_rights {fs rs ag : List Int} (hf : FlowOk fs) (hg : agesB ag fs.length = true) (hr : ∀ j, j < fs.length → 0 ≤ rs.getD j 0) {j : Nat} (hj : j < fs.length) (hrange : 0 ≤ ag.getD j 0 ∧ ag.getD j 0 < fs.length) :
    0 ≤ (served fs rs ag fs.length).getD j 0 ∧ (served fs rs ag fs.length).getD j 0 ≤ rs.getD j 0 := by
  obtain ⟨a, ha⟩ : ∃ a : Nat, ag.getD j 0 = (a : Int) := ⟨(ag.getD j 0).toNat, by omega⟩
  rw [served_later hg hj ha fs.length (by omega) (Nat.le_refl _)]
  have hp := (place_facts hg (k := a) (by omega)).2.2 j hj ha
  obtain ⟨t, t1, t2, t3, _⟩ := served_next (rs := rs) hf hg (k := a) (by omega)
  rw [← hp] at t1 t3
  rw [t3, List.getD_eq_getElem?_getD, List.getElem?_set_self (by rw [served_len]; exact hj)]
  have := hr j hj
  simp only [Option.getD_some]
  omega
/-! ## The ages of the statement -/
def ageL (n z : Nat) (k : Nat) : List Int := (List.range k).map fun (i : Nat) => (((i + z) % n : Nat) : Int)
theorem ageL_snoc (n z k : Nat) : ageL n z (k + 1) = ageL n z k ++ [(((k + z) % n : Nat) : Int)] := by unfold ageL; rw [List.range_succ]; simp
theorem ageL_len (n z k : Nat) : (ageL n z k).length = k := by simp [ageL]
theorem ageL_at (n z k i : Nat) (h : i < k) : (ageL n z k).getD i 0 = (((i + z) % n : Nat) : Int) := by simp [ageL, List.getD_eq_getElem?_getD, h]
theorem mod_inj {n z i j : Nat} (hi : i < n) (hj : j < n) (h : (i + z) % n = (j + z) % n) : i = j := by
  have hz : z % n < n := Nat.mod_lt _ (by omega)
  rw [Nat.add_mod, Nat.add_mod j] at h
  rw [Nat.mod_eq_of_lt hi, Nat.mod_eq_of_lt hj] at h
  obtain ⟨c, hc⟩ : ∃ c, c = z % n := ⟨_, rfl⟩
  rw [← hc] at h hz
  by_cases h1 : i + c < n <;> by_cases h2 : j + c < n
  · rw [Nat.mod_eq_of_lt h1, Nat.mod_eq_of_lt h2] at h; omega
  · rw [Nat.mod_eq_of_lt h1, Nat.mod_eq_sub_mod (by omega), Nat.mod_eq_of_lt (by omega)] at h; omega
  · rw [Nat.mod_eq_of_lt h2, Nat.mod_eq_sub_mod (by omega), Nat.mod_eq_of_lt (by omega)] at h; omega
  · rw [Nat.mod_eq_sub_mod (by omega : n ≤ i + c), Nat.mod_eq_of_lt (by omega : i + c - n < n), Nat.mod_eq_sub_mod (by omega : n ≤ j + c), Nat.mod_eq_of_lt (by omega : j + c - n < n)] at h; omega
theorem nodup_of_inj {l : List Int} (h : ∀ i j, i < l.length → j < l.length → l.getD i 0 = l.getD j 0 → i = j) : l.Nodup := by
  rw [List.Nodup, List.pairwise_iff_getElem]
  intro i j hi hj hij e
  have := h i j hi hj (by rw [List.getD_eq_getElem?_getD, List.getD_eq_getElem?_getD, List.getElem?_eq_getElem hi, List.getElem?_eq_getElem hj, e])
  omega
theorem ages_turn {n z : Nat} (_ : 1 ≤ n) : agesB (ageL n z n) n = true :=
  ages_of (ageL_len _ _ _) (fun j hj => by rw [ageL_at _ _ _ _ hj]; have := Nat.mod_lt (j + z) (show 0 < n by omega); omega)
    (nodup_of_inj fun i j hi hj e => by
      rw [ageL_len] at hi hj
      rw [ageL_at _ _ _ _ hi, ageL_at _ _ _ _ hj] at e
      exact mod_inj (z := z) hi hj (by omega))
/-- The ages the other way round, up to a place. -/
def flipL (n z k : Nat) : List Int := (List.range n).map fun (i : Nat) => if i < k then (n : Int) - 1 - (((i + z) % n : Nat) : Int) else (((i + z) % n : Nat) : Int)
theorem flipL_len (n z k : Nat) : (flipL n z k).length = n := by simp [flipL]
theorem flipL_at (n z k i : Nat) (h : i < n) : (flipL n z k).getD i 0 = if i < k then (n : Int) - 1 - (((i + z) % n : Nat) : Int) else (((i + z) % n : Nat) : Int) := by simp [flipL, List.getD_eq_getElem?_getD, h]
theorem flipL_zero (n z : Nat) : flipL n z 0 = ageL n z n := by simp [flipL, ageL]
theorem flipL_set (n z k : Nat) (_ : k < n) : (flipL n z k).set k ((n : Int) - 1 - (((k + z) % n : Nat) : Int)) = flipL n z (k + 1) := by
  refine List.ext_getElem (by simp [flipL]) fun i h1 h2 => ?_
  rw [List.getElem_set]
  simp only [flipL, List.getElem_map, List.getElem_range]
  split
  · rename_i e; subst e; rw [if_pos (by omega)]
  · rename_i e
    by_cases hik : i < k
    · rw [if_pos hik, if_pos (by omega)]
    · rw [if_neg hik, if_neg (by omega)]
theorem ages_flip {n z : Nat} (_ : 1 ≤ n) : agesB (flipL n z n) n = true :=
  ages_of (flipL_len _ _ _) (fun j hj => by rw [flipL_at _ _ _ _ hj, if_pos hj]; have := Nat.mod_lt (j + z) (show 0 < n by omega); omega)
    (nodup_of_inj fun i j hi hj e => by
      rw [flipL_len] at hi hj
      rw [flipL_at _ _ _ _ hi, flipL_at _ _ _ _ hj, if_pos hi, if_pos hj] at e
      exact mod_inj (z := z) hi hj (by omega))
end Go.Proofs.Ytccmabckmpelcaa
