import Derived.Test.YtbcoaiaocfommaaTa
import Derived.Test.YtbcoaiaocfommaaQ
namespace Go.Proofs.Ytbcoaiaocfommaa
open Go.RowKit

/-! ## even rhythms -/
def hN (l : List UInt8) (i : Nat) : Nat := bN (l.take i)
theorem bN_append (a b : List UInt8) : bN (a ++ b) = bN a + bN b := by unfold bN; rw [List.countP_append]
theorem hN_cnt (l : List UInt8) (i m : Nat) : hN l (i + m) = hN l i + cnt l m i := by
  unfold hN cnt
  rw [List.take_add, bN_append]
theorem div_step (n q t : Nat) (hq : q < n) : (t + q) / n = t / n + if t % n + q < n then 0 else 1 := by
  have h1 := Nat.div_add_mod t n
  have h2 := Nat.mod_lt t (show n > 0 by omega)
  have e : t + q = n * (t / n) + (t % n + q) := by omega
  have e2 : (t + q) / n = t / n + (t % n + q) / n := by
    rw [e, Nat.mul_add_div (by omega)]
  rw [e2]
  congr 1
  split
  · exact Nat.div_eq_of_lt (by assumption)
  · exact Nat.div_eq_of_lt_le (by omega) (by omega)
theorem bN_even (p q : Nat) (hp : 1 ≤ p) : ∀ i, bN (evenL p q i) = i * q / (p + q) := by
  intro i
  induction i with
  | zero => simp [evenL, bN]
  | succ i ih =>
    rw [evenL_snoc, bN_snoc, ih, Nat.succ_mul, div_step (p + q) q (i * q) (by omega)]
    congr 1
    unfold evc
    by_cases h : i * q % (p + q) + q < p + q
    · rw [if_pos h, if_pos h, if_neg (by decide)]
    · rw [if_neg h, if_neg h, if_pos rfl]
theorem evenL_take (p q n i : Nat) (h : i ≤ n) : (evenL p q n).take i = evenL p q i := by
  unfold evenL
  rw [← List.map_take, List.take_range, Nat.min_eq_left h]
theorem hN_even (p q n i : Nat) (hp : 1 ≤ p) (h : i ≤ n) : hN (evenL p q n) i = i * q / (p + q) := by
  unfold hN; rw [evenL_take p q n i h, bN_even p q hp]
theorem div_two (n x A : Nat) (hn : 0 < n) : x / n + A / n ≤ (x + A) / n ∧ (x + A) / n ≤ x / n + A / n + 1 := by
  rw [Nat.add_div hn]
  split <;> omega
theorem even_bal (p q : Nat) (hp : 1 ≤ p) : balB (evenL p q (p + q)) = true := by
  unfold balB
  rw [Bool.and_eq_true]
  constructor
  · unfold abB evenL
    rw [List.all_map, List.all_eq_true]
    intro i _
    show decide ((evc p q i).toNat ≤ 98) = true
    unfold evc
    split <;> decide
  · have key : ∀ m, evenB (evenL p q (p + q)) m = true := by
      intro m
      rw [even_iff]
      intro i j hi hj
      rw [evenL_len] at hi hj
      have e1 := hN_cnt (evenL p q (p + q)) i m
      have e2 := hN_cnt (evenL p q (p + q)) j m
      rw [hN_even p q _ _ hp (by omega), hN_even p q _ _ hp (by omega), Nat.add_mul] at e1 e2
      have d1 := div_two (p + q) (i * q) (m * q) (by omega)
      have d2 := div_two (p + q) (j * q) (m * q) (by omega)
      omega
    have : ∀ k, evensB (evenL p q (p + q)) k = true := by
      intro k
      induction k with
      | zero => rfl
      | succ k ih => unfold evensB; rw [ih, key]; rfl
    exact this _
theorem even_good (p q n : Nat) : goodL (evenL p q n) = true := by
  unfold goodL evenL
  rw [List.all_map, List.all_eq_true]
  intro i _
  show okc (evc p q i) = true
  unfold evc
  split <;> decide
theorem evenL_get (p q n i : Nat) (h : i < n) : (evenL p q n)[i]? = some (evc p q i) := by
  unfold evenL
  rw [List.getElem?_map, List.getElem?_range h]; rfl
/-- The remainder of which the letter at i depends. -/
def rm (p q i : Nat) : Nat := i * q % (p + q)
theorem rm_succ (p q i : Nat) (hp : 1 ≤ p) : rm p q (i + 1) = if rm p q i < p then rm p q i + q else rm p q i - p := by
  unfold rm
  have h2 := Nat.mod_lt (i * q) (show p + q > 0 by omega)
  rw [Nat.succ_mul, ← Nat.mod_add_mod]
  split
  · exact Nat.mod_eq_of_lt (by omega)
  · rw [Nat.mod_eq_sub_mod (by omega), Nat.mod_eq_of_lt (by omega)]; omega
theorem evc_rm (p q i : Nat) : evc p q i = if rm p q i < p then 97 else 98 := by
  unfold evc rm
  by_cases h : i * q % (p + q) < p
  · rw [if_pos h, if_pos (by omega)]
  · rw [if_neg h, if_neg (by omega)]
theorem rm_pos {p q i : Nat} (hg : Nat.gcd p q = 1) (h1 : 1 ≤ i) (h2 : i < p + q) : 0 < rm p q i := by
  rcases Nat.eq_zero_or_pos (rm p q i) with h | h
  · exfalso
    have hd : p + q ∣ i * q := Nat.dvd_of_mod_eq_zero h
    have hc : Nat.Coprime (p + q) q := by
      show Nat.gcd (p + q) q = 1
      rw [Nat.gcd_comm, Nat.gcd_add_self_right, Nat.gcd_comm]; exact hg
    have := hc.dvd_of_dvd_mul_right hd
    have := Nat.le_of_dvd (by omega) this
    omega
  · exact h
theorem even_lyn {p q : Nat} (hp : 1 ≤ p) (hg : Nat.gcd p q = 1) : lynB (evenL p q (p + q)) = true := by
  rw [lynB_iff]
  refine ⟨fun e => by have := evenL_len p q (p + q); rw [e] at this; simp at this; omega, fun i h1 h2 => ?_⟩
  rw [evenL_len] at h2
  rw [lessL_iff]
  have hri := rm_pos hg h1 h2
  have hr0 : rm p q 0 = 0 := by unfold rm; simp
  -- as long as the letters are the same, so is the difference
  have key : ∀ k, (∀ j, j < k → evc p q j = evc p q (i + j)) → rm p q (i + k) = rm p q k + rm p q i := by
    intro k
    induction k with
    | zero => intro _; rw [hr0]; simp
    | succ k ih =>
      intro h
      have e := ih (fun j hj => h j (by omega))
      have hk := h k (by omega)
      rw [evc_rm, evc_rm] at hk
      have s1 := rm_succ p q k hp
      have s2 := rm_succ p q (i + k) hp
      rw [show i + (k + 1) = i + k + 1 by omega, s1, s2]
      by_cases a1 : rm p q k < p
      · by_cases a2 : rm p q (i + k) < p
        · rw [if_pos a1, if_pos a2]; omega
        · rw [if_pos a1, if_neg a2] at hk; exact absurd hk (by decide)
      · by_cases a2 : rm p q (i + k) < p
        · rw [if_neg a1, if_pos a2] at hk; exact absurd hk (by decide)
        · rw [if_neg a1, if_neg a2]; omega
  have hex : ∃ k, k < p + q - i ∧ evc p q k ≠ evc p q (i + k) := by
    apply Classical.byContradiction
    intro hno
    have := key (p + q - i) (fun j hj => Classical.byContradiction fun e => hno ⟨j, hj, e⟩)
    rw [show i + (p + q - i) = p + q by omega] at this
    have h0 : rm p q (p + q) = 0 := by unfold rm; simp
    omega
  obtain ⟨k, hk, hne, hmin⟩ : ∃ k, k < p + q - i ∧ evc p q k ≠ evc p q (i + k) ∧ ∀ j, j < k → evc p q j = evc p q (i + j) := by
    obtain ⟨k, hk, hne⟩ := hex
    induction k using Nat.strongRecOn with
    | _ k ih =>
      by_cases h : ∃ j, j < k ∧ evc p q j ≠ evc p q (i + j)
      · obtain ⟨j, hj, hj2⟩ := h
        exact ih j hj (by omega) hj2
      · exact ⟨k, hk, hne, fun j hj => Classical.byContradiction fun e => h ⟨j, hj, e⟩⟩
  have hrk := key k hmin
  refine ⟨k, fun j hj => ?_, .inl ⟨evc p q k, evc p q (i + k), ?_, ?_, ?_⟩⟩
  · rw [List.getElem?_drop, evenL_get _ _ _ _ (by omega), evenL_get _ _ _ _ (by omega), hmin j hj]
  · exact evenL_get _ _ _ _ (by omega)
  · rw [List.getElem?_drop]; exact evenL_get _ _ _ _ (by omega)
  · rw [evc_rm, evc_rm] at hne ⊢
    by_cases a1 : rm p q k < p
    · by_cases a2 : rm p q (i + k) < p
      · rw [if_pos a1, if_pos a2] at hne; exact absurd rfl hne
      · rw [if_pos a1, if_neg a2]; decide
    · exfalso
      rw [if_neg a1, if_neg (by omega)] at hne
      exact hne rfl
theorem even_pal {p q i : Nat} (hp : 1 ≤ p) (hg : Nat.gcd p q = 1) (h1 : 1 ≤ i) (h2 : i + 1 < p + q) : evc p q i = evc p q (p + q - 1 - i) := by
  have hri := rm_pos hg h1 (by omega)
  have hrs := rm_succ p q i hp
  have hrp := rm_pos hg (show 1 ≤ i + 1 by omega) (by omega)
  have hlt : rm p q (i + 1) < p + q := Nat.mod_lt _ (by omega)
  have hlt0 : rm p q i < p + q := Nat.mod_lt _ (by omega)
  have hc : rm p q (p + q - 1 - i) = p + q - rm p q (i + 1) := by
    have hsum : (rm p q (p + q - 1 - i) + rm p q (i + 1)) % (p + q) = 0 := by
      unfold rm
      rw [← Nat.add_mod, ← Nat.add_mul, show p + q - 1 - i + (i + 1) = p + q by omega]
      simp
    have hl2 : rm p q (p + q - 1 - i) < p + q := Nat.mod_lt _ (by omega)
    have hd := Nat.dvd_of_mod_eq_zero hsum
    obtain ⟨c, hc⟩ := hd
    have : c = 1 := by
      rcases c with _ | _ | c
      · omega
      · rfl
      · exfalso
        have : (p + q) * (c + 1 + 1) = (p + q) * c + (p + q) + (p + q) := by rw [Nat.mul_add, Nat.mul_add, Nat.mul_one]
        omega
    subst this
    omega
  rw [evc_rm, evc_rm, hc]
  by_cases a : rm p q i < p
  · rw [if_pos a] at hrs
    rw [if_pos a, if_pos (by omega)]
  · rw [if_neg a] at hrs
    rw [if_neg a, if_neg (by omega)]
end Go.Proofs.Ytbcoaiaocfommaa
