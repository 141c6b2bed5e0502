import Derived.Test.YtbcoaiaocfommaaUa
import Derived.Test.YtbcoaiaocfommaaBf
namespace Go.Proofs.Ytbcoaiaocfommaa
open Go.RowKit

/-! ## a balanced Lyndon word of both letters is an even rhythm -/
theorem cnt_h {l : List UInt8} {i m : Nat} : cnt l m i = hN l (i + m) - hN l i := by rw [hN_cnt]; omega
theorem hN_mono (l : List UInt8) (i m : Nat) : hN l i ≤ hN l (i + m) := by rw [hN_cnt]; omega
theorem hN_zero (l : List UInt8) : hN l 0 = 0 := by simp [hN, bN]
theorem hN_all (l : List UInt8) : hN l l.length = bN l := by unfold hN; rw [List.take_length]
theorem bal_cnt {l : List UInt8} (h : balB l = true) (m i j : Nat) (hi : i + m ≤ l.length) (hj : j + m ≤ l.length) : cnt l m i ≤ cnt l m j + 1 := by
  unfold balB at h
  rw [Bool.and_eq_true] at h
  by_cases hm : 1 ≤ m
  · have he : evenB l m = true := by
      cases e : evenB l m with
      | true => rfl
      | false => have := evens_no (l := l) (k := m) (n := l.length) hm (by omega) e; rw [this] at h; exact absurd h.2 (by simp)
    exact (even_iff l m).1 he i j (by omega) (by omega)
  · have h0 : m = 0 := by omega
    subst h0
    have := cnt_le l 0 i
    omega
theorem bal_ab {l : List UInt8} (h : balB l = true) (hg : goodL l = true) (c : UInt8) (hc : c ∈ l) : c = 97 ∨ c = 98 := by
  unfold balB at h
  rw [Bool.and_eq_true] at h
  have h1 := List.all_eq_true.1 h.1 c hc
  have h2 := (okc_iff c).1 (good_mem hg hc)
  have h3 : c.toNat ≤ 98 := by simpa using h1
  have : c.toNat = 97 ∨ c.toNat = 98 := by omega
  rcases this with e | e
  · exact .inl (UInt8.toNat_inj.1 e)
  · exact .inr (UInt8.toNat_inj.1 e)
/-- One more letter. -/
theorem hN_succ {l : List UInt8} {i : Nat} {c : UInt8} (h : l[i]? = some c) : hN l (i + 1) = hN l i + (if c = 98 then 1 else 0) := by
  have hi : i < l.length := (List.getElem?_eq_some_iff.1 h).1
  have e : l[i] = c := by
    have := List.getElem?_eq_getElem hi
    rw [h] at this; injection this with this; exact this.symm
  unfold hN
  rw [List.take_succ_eq_append_getElem hi, bN_snoc, e]
theorem h_same {l : List UInt8} {i j k : Nat} (h : ∀ t, t < k → l[i + t]? = l[j + t]?) (hi : i + k ≤ l.length) (hj : j + k ≤ l.length) : hN l (i + k) + hN l j = hN l (j + k) + hN l i := by
  induction k with
  | zero => simp; omega
  | succ k ih =>
    have := ih (fun t ht => h t (by omega)) (by omega) (by omega)
    have e1 := List.getElem?_eq_getElem (l := l) (i := i + k) (by omega)
    have e2 := List.getElem?_eq_getElem (l := l) (i := j + k) (by omega)
    have e3 := h k (by omega)
    rw [show i + (k + 1) = i + k + 1 by omega, show j + (k + 1) = j + k + 1 by omega, hN_succ e1, hN_succ e2]
    rw [e1, e2] at e3
    injection e3 with e3
    rw [e3]; omega

structure BL (l : List UInt8) : Prop where
  bal : balB l = true
  good : goodL l = true
  lyn : Lyn l

/-- Where a suffix first differs from the word, the word has a, and the suffix b. -/
theorem BL.first {l : List UInt8} (h : BL l) {i : Nat} (h1 : 1 ≤ i) (h2 : i < l.length) : ∃ t, i + t < l.length ∧ (∀ j, j < t → l[j]? = l[i + j]?) ∧ l[t]? = some 97 ∧ l[i + t]? = some 98 := by
  obtain ⟨t, ht, hx⟩ := (lessL_iff _ _).1 (h.lyn.2 i h1 h2)
  have hj : ∀ j, j < t → l[j]? = l[i + j]? := fun j hj => by have := ht j hj; rwa [List.getElem?_drop] at this
  rcases hx with ⟨x, y, e1, e2, hxy⟩ | ⟨e1, y, e2⟩
  · rw [List.getElem?_drop] at e2
    have hlt := (List.getElem?_eq_some_iff.1 e2).1
    have m1 := bal_ab h.bal h.good x (List.mem_of_getElem? e1)
    have m2 := bal_ab h.bal h.good y (List.mem_of_getElem? e2)
    rcases m1 with rfl | rfl <;> rcases m2 with rfl | rfl
    · exact absurd hxy (by decide)
    · exact ⟨t, hlt, hj, e1, e2⟩
    · exact absurd hxy (by decide)
    · exact absurd hxy (by decide)
  · rw [List.getElem?_drop] at e2
    have := (List.getElem?_eq_some_iff.1 e2).1
    rw [List.getElem?_eq_none_iff] at e1
    omega
/-- A beginning has the fewest letters b of all parts of its length. -/
theorem BL.pre {l : List UInt8} (h : BL l) {i m : Nat} (hm : i + m ≤ l.length) : hN l i + hN l m ≤ hN l (i + m) := by
  by_cases hi : i = 0
  · subst hi; rw [hN_zero]; simp
  · by_cases hil : i < l.length
    · obtain ⟨t, ht, hs, ha, hb⟩ := h.first (by omega) hil
      by_cases htm : t < m
      · have e1 := h_same (l := l) (i := 0) (j := i) (k := t) (fun j hj => by rw [Nat.zero_add]; exact hs j hj) (by omega) (by omega)
        rw [Nat.zero_add, hN_zero] at e1
        have e2 := hN_succ ha
        have e3 := hN_succ hb
        rw [if_neg (by decide)] at e2
        rw [if_pos rfl] at e3
        -- the rest of both
        have c1 := hN_cnt l (t + 1) (m - (t + 1))
        have c2 := hN_cnt l (i + t + 1) (m - (t + 1))
        have hb2 := bal_cnt h.bal (m - (t + 1)) (t + 1) (i + t + 1) (by omega) (by omega)
        rw [show t + 1 + (m - (t + 1)) = m by omega] at c1
        rw [show i + t + 1 + (m - (t + 1)) = i + m by omega] at c2
        omega
      · have e1 := h_same (l := l) (i := 0) (j := i) (k := m) (fun j hj => by rw [Nat.zero_add]; exact hs j (by omega)) (by omega) (by omega)
        rw [Nat.zero_add, hN_zero] at e1
        omega
    · have : m = 0 := by omega
      subst this
      rw [hN_zero]; simp
/-- An end has the most. -/
theorem BL.suf {l : List UInt8} (h : BL l) : ∀ (m i : Nat), i + m ≤ l.length → hN l (i + m) + hN l (l.length - m) ≤ hN l i + bN l := by
  intro m
  induction m using Nat.strongRecOn with
  | _ m ih =>
    intro i him
    apply Classical.byContradiction
    intro hno
    have hm1 : 1 ≤ m := by
      rcases Nat.eq_zero_or_pos m with e | e
      · subst e; rw [Nat.add_zero, Nat.sub_zero, hN_all] at hno; omega
      · exact e
    have hml : m < l.length := by
      rcases Nat.lt_or_ge m l.length with e | e
      · exact e
      · have : m = l.length := by omega
        subst this
        have : i = 0 := by omega
        subst this
        rw [Nat.zero_add, Nat.sub_self, hN_zero, hN_all] at hno; omega
    -- the end of length m has as few as the beginning
    have p1 := h.pre (i := l.length - m) (m := m) (by omega)
    rw [show l.length - m + m = l.length by omega, hN_all] at p1
    have b1 := bal_cnt h.bal m i 0 (by omega) (by omega)
    rw [cnt_h, cnt_h, Nat.zero_add, hN_zero] at b1
    have mono1 := hN_mono l i m
    obtain ⟨t, ht, hs, ha, hb⟩ := h.first (i := l.length - m) (by omega) (by omega)
    have e1 := h_same (l := l) (i := 0) (j := l.length - m) (k := t) (fun j hj => by rw [Nat.zero_add]; exact hs j hj) (by omega) (by omega)
    rw [Nat.zero_add, hN_zero] at e1
    have e2 := hN_succ ha
    have e3 := hN_succ hb
    rw [if_neg (by decide)] at e2
    rw [if_pos rfl] at e3
    -- what is left of both: the end of length m - (t + 1) has fewer than a part of that length
    have := ih (m - (t + 1)) (by omega) (t + 1) (by omega)
    rw [show t + 1 + (m - (t + 1)) = m by omega, show l.length - (m - (t + 1)) = l.length - m + t + 1 by omega] at this
    omega

/-- The letters b among the first i letters of the word again and again. -/
def HH (l : List UInt8) (i : Nat) : Nat := i / l.length * bN l + hN l (i % l.length)
theorem HH_add {l : List UInt8} (h : BL l) (x y : Nat) : HH l x + HH l y ≤ HH l (x + y) ∧ HH l (x + y) ≤ HH l x + HH l y + 1 := by
  have hn : 0 < l.length := by
    have := h.lyn.1
    exact List.length_pos_iff.2 this
  unfold HH
  have mx := Nat.mod_lt x hn
  have my := Nat.mod_lt y hn
  obtain ⟨n, hnn⟩ : ∃ n, n = l.length := ⟨_, rfl⟩
  rw [← hnn] at hn mx my ⊢
  rw [Nat.add_div hn, Nat.add_mod]
  by_cases hc : n ≤ x % n + y % n
  · rw [if_pos hc, Nat.mod_eq_sub_mod hc, Nat.mod_eq_of_lt (show x % n + y % n - n < n by omega)]
    obtain ⟨a, ha⟩ : ∃ a, a = x % n := ⟨_, rfl⟩
    obtain ⟨b, hb⟩ : ∃ b, b = y % n := ⟨_, rfl⟩
    rw [← ha] at mx hc ⊢
    rw [← hb] at my hc ⊢
    -- from a + b - n to a there are n - b letters
    have s1 := h.suf (n - b) (a + b - n) (by omega)
    rw [show a + b - n + (n - b) = a by omega, ← hnn, show n - (n - b) = b by omega] at s1
    have b1 := bal_cnt h.bal (n - b) b (a + b - n) (by omega) (by omega)
    rw [cnt_h, cnt_h, show b + (n - b) = n by omega, show a + b - n + (n - b) = a by omega] at b1
    have hall := hN_all l
    rw [← hnn] at hall
    rw [hall] at b1
    have m1 := hN_mono l b (n - b)
    rw [show b + (n - b) = n by omega, hall] at m1
    have m2 := hN_mono l (a + b - n) (n - b)
    rw [show a + b - n + (n - b) = a by omega] at m2
    rw [Nat.add_mul, Nat.add_mul, Nat.one_mul]
    omega
  · rw [if_neg hc, Nat.mod_eq_of_lt (show x % n + y % n < n by omega)]
    obtain ⟨a, ha⟩ : ∃ a, a = x % n := ⟨_, rfl⟩
    obtain ⟨b, hb⟩ : ∃ b, b = y % n := ⟨_, rfl⟩
    rw [← ha, ← hb] at hc ⊢
    have p1 := h.pre (i := a) (m := b) (by omega)
    have b1 := bal_cnt h.bal b a 0 (by omega) (by omega)
    rw [cnt_h, cnt_h, Nat.zero_add, hN_zero] at b1
    rw [Nat.add_zero, Nat.add_mul]
    omega
theorem HH_mul {l : List UInt8} (h : BL l) (m : Nat) : ∀ k, (k + 1) * HH l m ≤ HH l ((k + 1) * m) ∧ HH l ((k + 1) * m) ≤ (k + 1) * HH l m + k := by
  intro k
  induction k with
  | zero => simp
  | succ k ih =>
    have := HH_add h ((k + 1) * m) m
    rw [show (k + 1 + 1) * m = (k + 1) * m + m by rw [Nat.succ_mul], show (k + 1 + 1) * HH l m = (k + 1) * HH l m + HH l m by rw [Nat.succ_mul]]
    omega
/-- So the letters b are spread evenly. -/
theorem h_even {l : List UInt8} (h : BL l) {m : Nat} (hm : m < l.length) : hN l m = m * bN l / l.length := by
  have hn : 0 < l.length := by omega
  obtain ⟨n, hnn⟩ : ∃ n, n = l.length := ⟨_, rfl⟩
  have e0 : HH l m = hN l m := by unfold HH; rw [Nat.div_eq_of_lt hm, Nat.mod_eq_of_lt hm]; simp
  have e1 : HH l (l.length * m) = m * bN l := by
    unfold HH
    rw [Nat.mul_div_cancel_left _ hn, Nat.mul_mod_right, hN_zero]; simp
  have := HH_mul h m (l.length - 1)
  rw [show l.length - 1 + 1 = l.length by omega, e0, e1] at this
  refine (Nat.div_eq_of_lt_le ?_ ?_).symm
  · rw [Nat.mul_comm]; exact this.1
  · have e : (hN l m + 1) * l.length = l.length * hN l m + l.length := by rw [Nat.succ_mul, Nat.mul_comm]
    rw [e]; omega
theorem div_inc {n q t : Nat} (hq : q < n) : ((t + q) / n = t / n + 1) ↔ n ≤ t % n + q := by
  rw [div_step n q t hq]
  split <;> omega
theorem even_of_bl {l : List UInt8} (h : BL l) {q : Nat} (hq : bN l = q) (hqn : q < l.length) : l = evenL (l.length - q) q l.length := by
  apply List.ext_getElem?
  intro i
  by_cases hi : i < l.length
  · rw [evenL_get _ _ _ _ hi, List.getElem?_eq_getElem hi]
    congr 1
    have e1 := List.getElem?_eq_getElem hi
    have hs := hN_succ e1
    have h1 := h_even h hi
    have h2 : hN l (i + 1) = (i + 1) * bN l / l.length := by
      by_cases e : i + 1 < l.length
      · exact h_even h e
      · have : i + 1 = l.length := by omega
        rw [this, hN_all, Nat.mul_div_cancel_left _ (by omega)]
    rw [h1, h2, hq, Nat.succ_mul] at hs
    unfold evc
    rw [show l.length - q + q = l.length by omega]
    have hstep := div_step l.length q (i * q) hqn
    rcases bal_ab h.bal h.good l[i] (List.getElem_mem hi) with e | e
    · rw [e]
      rw [e, if_neg (by decide)] at hs
      by_cases hc : i * q % l.length + q < l.length
      · rw [if_pos hc]
      · rw [if_neg hc] at hstep; omega
    · rw [e]
      rw [e, if_pos rfl] at hs
      by_cases hc : i * q % l.length + q < l.length
      · rw [if_pos hc] at hstep; omega
      · rw [if_neg hc]
  · rw [List.getElem?_eq_none (by omega), List.getElem?_eq_none (by rw [evenL_len]; omega)]
/-- The numbers have no common divisor: otherwise the word would be one again and again. -/
theorem gcd_of_bl {l : List UInt8} (h : BL l) {q : Nat} (hq : bN l = q) (hq1 : 1 ≤ q) (hqn : q < l.length) : Nat.gcd (l.length - q) q = 1 := by
  obtain ⟨n, hnn⟩ : ∃ n, n = l.length := ⟨_, rfl⟩
  obtain ⟨g, hg⟩ : ∃ g, g = Nat.gcd (n - q) q := ⟨_, rfl⟩
  rw [← hnn] at hqn ⊢
  rw [← hg]
  have hgp : 1 ≤ g := by rw [hg]; exact Nat.gcd_pos_of_pos_right _ (by omega)
  apply Classical.byContradiction
  intro hne
  have d1 : g ∣ n - q := by rw [hg]; exact Nat.gcd_dvd_left _ _
  have d2 : g ∣ q := by rw [hg]; exact Nat.gcd_dvd_right _ _
  have d3 : g ∣ n := by have := Nat.dvd_add d1 d2; rwa [show n - q + q = n by omega] at this
  obtain ⟨r, hr⟩ := d3
  obtain ⟨s, hs⟩ := d2
  have hr1 : 1 ≤ r := by
    rcases Nat.eq_zero_or_pos r with e | e
    · rw [e, Nat.mul_zero] at hr; omega
    · exact e
  have hrn : r < n := by
    have : 2 * r ≤ g * r := Nat.mul_le_mul_right r (by omega)
    omega
  have hrq : r * q = s * n := by rw [hr, hs, ← Nat.mul_assoc, Nat.mul_comm r g, ← Nat.mul_assoc, Nat.mul_comm s g, Nat.mul_assoc, Nat.mul_assoc, Nat.mul_comm r s]
  -- the word has the period r
  have hev := even_of_bl h hq (by omega)
  rw [← hnn] at hev
  have hper : ∀ i, r + i < n → l[i]? = l[r + i]? := by
    intro i hi
    rw [hev, evenL_get _ _ _ _ (by omega), evenL_get _ _ _ _ (by omega)]
    unfold evc
    rw [show n - q + q = n by omega, Nat.add_mul, hrq, Nat.add_comm (s * n), Nat.add_mul_mod_self_right]
  obtain ⟨t, ht, _, ha, hb⟩ := h.first hr1 (by omega)
  have := hper t (by omega)
  rw [ha, hb] at this
  exact absurd this (by decide)
end Go.Proofs.Ytbcoaiaocfommaa
