/-! Mathematics of pairings that knows no program: sets are functions to Bool, counted below a number. -/
namespace Go.Proofs.Ytfobdlllghpelaa.Pair

/-- How many numbers below `n` are in the set. -/
def cnt (S : Nat → Bool) : Nat → Nat
  | 0 => 0
  | n + 1 => cnt S n + (if S n then 1 else 0)

theorem cnt_le (S : Nat → Bool) (n : Nat) : cnt S n ≤ n := by
  induction n with
  | zero => simp [cnt]
  | succ n ih => simp only [cnt]; split <;> omega

theorem cnt_mono {S T : Nat → Bool} {n : Nat} (h : ∀ i, i < n → S i = true → T i = true) : cnt S n ≤ cnt T n := by
  induction n with
  | zero => simp [cnt]
  | succ n ih =>
    have h1 := ih (fun i hi => h i (by omega))
    have h2 := h n (by omega)
    simp only [cnt]
    split <;> split <;> first | omega | (exfalso; simp_all)

theorem cnt_congr {S T : Nat → Bool} {n : Nat} (h : ∀ i, i < n → S i = T i) : cnt S n = cnt T n := by
  induction n with
  | zero => simp [cnt]
  | succ n ih => simp only [cnt]; rw [ih (fun i hi => h i (by omega)), h n (by omega)]

theorem cnt_zero {S : Nat → Bool} {n : Nat} : cnt S n = 0 ↔ ∀ i, i < n → S i = false := by
  induction n with
  | zero => simp [cnt]
  | succ n ih =>
    simp only [cnt]
    constructor
    · intro h i hi
      have h1 : cnt S n = 0 := by omega
      by_cases e : i = n
      · subst e; cases hs : S i with
        | false => rfl
        | true => rw [hs] at h; simp at h
      · exact ih.1 h1 i (by omega)
    · intro h
      rw [ih.2 (fun i hi => h i (by omega)), h n (by omega)]; simp

/-- What is in `S` is in the part `A` or outside it. -/
theorem cnt_split (S A : Nat → Bool) (n : Nat) : cnt S n = cnt (fun i => S i && A i) n + cnt (fun i => S i && !A i) n := by
  induction n with
  | zero => simp [cnt]
  | succ n ih =>
    simp only [cnt]; rw [ih]
    by_cases hS : S n = true <;> by_cases hA : A n = true <;> simp [hS, hA] <;> omega

theorem cnt_one {k n : Nat} (hk : k < n) : cnt (fun i => decide (i = k)) n = 1 := by
  induction n with
  | zero => omega
  | succ n ih =>
    simp only [cnt]
    by_cases e : k = n
    · subst e
      have : cnt (fun i => decide (i = k)) k = 0 := cnt_zero.2 (fun i hi => by simp; omega)
      simp [this]
    · rw [ih (by omega)]; simp; omega

/-- Without one of its numbers. -/
theorem cnt_drop {S : Nat → Bool} {k n : Nat} (hk : k < n) (h : S k = true) : cnt S n = cnt (fun i => S i && !decide (i = k)) n + 1 := by
  rw [cnt_split S (fun i => decide (i = k)) n]
  have : cnt (fun i => S i && decide (i = k)) n = 1 := by
    rw [← cnt_one hk]
    refine cnt_congr fun i _ => ?_
    by_cases e : i = k
    · subst e; simp [h]
    · simp [e]
  omega

theorem cnt_pos {S : Nat → Bool} {n : Nat} (h : 0 < cnt S n) : ∃ i, i < n ∧ S i = true := by
  apply Classical.byContradiction
  intro hn
  have : cnt S n = 0 := cnt_zero.2 (fun i hi => by
    cases e : S i with
    | false => rfl
    | true => exact absurd ⟨i, hi, e⟩ hn)
  omega

/-- Equal counts of a part and the whole: the same set. -/
theorem cnt_eq_of_le {S T : Nat → Bool} {n : Nat} (h : ∀ i, i < n → S i = true → T i = true) (hc : cnt T n ≤ cnt S n) : ∀ i, i < n → S i = T i := by
  intro i hi
  cases e : T i with
  | false =>
    cases e' : S i with
    | false => rfl
    | true => rw [h i hi e'] at e; simp at e
  | true =>
    cases e' : S i with
    | true => rfl
    | false =>
      exfalso
      have h1 := cnt_drop hi e
      have h2 : cnt S n ≤ cnt (fun j => T j && !decide (j = i)) n := cnt_mono fun j hj hs => by
        by_cases e2 : j = i
        · subst e2; rw [hs] at e'; simp at e'
        · simp [h j hj hs, e2]
      omega

/-- The allowed columns of a set of rows. -/
def nb (ok : Nat → Nat → Bool) (n : Nat) (S : Nat → Bool) (j : Nat) : Bool := (List.range n).any fun i => S i && ok i j

theorem nb_iff {ok : Nat → Nat → Bool} {n : Nat} {S : Nat → Bool} {j : Nat} : nb ok n S j = true ↔ ∃ i, i < n ∧ S i = true ∧ ok i j = true := by
  simp [nb, List.any_eq_true]

/-- Hall: if no part of the rows `A` has too few columns in `C`, then the rows of `A` are paired. -/
theorem hall (ok : Nat → Nat → Bool) (n m : Nat) : ∀ (k : Nat) (A C : Nat → Bool), cnt A n = k →
    (∀ S : Nat → Bool, (∀ i, i < n → S i = true → A i = true) → cnt S n ≤ cnt (fun j => C j && nb ok n S j) m) →
    ∃ f : Nat → Nat, (∀ i, i < n → A i = true → f i < m ∧ C (f i) = true ∧ ok i (f i) = true) ∧ ∀ i i', i < n → i' < n → A i = true → A i' = true → f i = f i' → i = i' := by
  intro k
  induction k using Nat.strongRecOn with
  | _ k ih =>
    intro A C hA h
    by_cases hk : k = 0
    · refine ⟨id, fun i hi ha => ?_, fun i i' hi _ ha => ?_⟩ <;>
      · have := cnt_zero.1 (hA.trans hk) i hi
        rw [ha] at this; simp at this
    by_cases ht : ∃ S : Nat → Bool, (∀ i, i < n → S i = true → A i = true) ∧ 0 < cnt S n ∧ cnt S n < k ∧ cnt (fun j => C j && nb ok n S j) m ≤ cnt S n
    · -- a tight part: it is paired within its columns, the rest within the others
      obtain ⟨S, hS, hS0, hSk, hSt⟩ := ht
      obtain ⟨f, hf, hfi⟩ := ih (cnt S n) hSk S (fun j => C j && nb ok n S j) rfl (fun T hT => by
        refine Nat.le_trans (h T fun i hi ht => hS i hi (hT i hi ht)) (cnt_mono fun j _ hj => ?_)
        simp only [Bool.and_eq_true] at hj ⊢
        refine ⟨⟨hj.1, nb_iff.2 ?_⟩, hj.2⟩
        obtain ⟨i, hi, hi1, hi2⟩ := nb_iff.1 hj.2
        exact ⟨i, hi, hT i hi hi1, hi2⟩)
      have hr : cnt (fun i => A i && !S i) n + cnt S n = k := by
        have h1 := cnt_split A S n
        have h2 : cnt (fun i => A i && S i) n = cnt S n := cnt_congr fun i hi => by
          cases e : S i with
          | false => simp
          | true => simp [hS i hi e]
        omega
      obtain ⟨g, hg, hgi⟩ := ih (cnt (fun i => A i && !S i) n) (by omega) (fun i => A i && !S i) (fun j => C j && !nb ok n S j) rfl (fun T hT => by
        have h1 := h (fun i => T i || S i) (fun i hi ht => by
          simp only [Bool.or_eq_true] at ht
          rcases ht with ht | ht
          · have := hT i hi ht; simp only [Bool.and_eq_true] at this; exact this.1
          · exact hS i hi ht)
        have h2 : cnt (fun i => T i || S i) n = cnt T n + cnt S n := by
          rw [cnt_split (fun i => T i || S i) S n, Nat.add_comm]
          congr 1
          · refine cnt_congr fun i hi => ?_
            cases e : T i with
            | false => cases S i <;> rfl
            | true => have := hT i hi e; simp only [Bool.and_eq_true, Bool.not_eq_true'] at this; simp [this.2]
          · refine cnt_congr fun i hi => ?_
            cases T i <;> cases S i <;> rfl
        have h3 := cnt_split (fun j => C j && nb ok n (fun i => T i || S i) j) (nb ok n S) m
        have h4 : cnt (fun j => C j && nb ok n (fun i => T i || S i) j && nb ok n S j) m ≤ cnt (fun j => C j && nb ok n S j) m := cnt_mono fun j _ hj => by
          simp only [Bool.and_eq_true] at hj ⊢
          exact ⟨hj.1.1, hj.2⟩
        have h5 : cnt (fun j => C j && nb ok n (fun i => T i || S i) j && !nb ok n S j) m ≤ cnt (fun j => (C j && !nb ok n S j) && nb ok n T j) m := cnt_mono fun j _ hj => by
          simp only [Bool.and_eq_true, Bool.not_eq_true'] at hj ⊢
          refine ⟨⟨hj.1.1, hj.2⟩, ?_⟩
          obtain ⟨i, hi, hi1, hi2⟩ := nb_iff.1 hj.1.2
          simp only [Bool.or_eq_true] at hi1
          rcases hi1 with hi1 | hi1
          · exact nb_iff.2 ⟨i, hi, hi1, hi2⟩
          · have := nb_iff.2 ⟨i, hi, hi1, hi2⟩; rw [this] at hj; simp at hj
        omega)
      refine ⟨fun i => if S i then f i else g i, fun i hi ha => ?_, fun i i' hi hi' ha ha' he => ?_⟩
      · cases e : S i with
        | true => have := hf i hi e; simp only [Bool.and_eq_true] at this; simp [e, this]
        | false =>
          have := hg i hi (by simp [ha, e]); simp only [Bool.and_eq_true, Bool.not_eq_true'] at this; simp [e, this]
      · cases e : S i with
        | true => cases e' : S i' with
          | true => simp only [e, e', if_true] at he; exact hfi i i' hi hi' e e' he
          | false =>
            exfalso
            have h1 := hf i hi e
            have h2 := hg i' hi' (by simp [ha', e'])
            simp only [e, e', if_true] at he
            simp only [Bool.and_eq_true, Bool.not_eq_true'] at h1 h2
            rw [he] at h1
            simp_all
        | false => cases e' : S i' with
          | true =>
            exfalso
            have h1 := hg i hi (by simp [ha, e])
            have h2 := hf i' hi' e'
            simp only [e, e', if_true] at he
            simp only [Bool.and_eq_true, Bool.not_eq_true'] at h1 h2
            rw [← he] at h2
            simp_all
          | false =>
            simp only [e, e'] at he
            exact hgi i i' hi hi' (by simp [ha, e]) (by simp [ha', e']) he
    · -- every part has one column more: pair one row with one of its columns
      obtain ⟨a, ha, haA⟩ := cnt_pos (by omega : 0 < cnt A n)
      have h1 := h (fun i => decide (i = a)) (fun i hi hs => by simp at hs; subst hs; exact haA)
      rw [cnt_one ha] at h1
      obtain ⟨b, hb, hbC⟩ := cnt_pos (show 0 < _ from h1)
      simp only [Bool.and_eq_true] at hbC
      obtain ⟨hbC, hbn⟩ := hbC
      have hab : ok a b = true := by
        obtain ⟨i, _, hi1, hi2⟩ := nb_iff.1 hbn
        simp at hi1; subst hi1; exact hi2
      have hd := cnt_drop ha haA
      obtain ⟨f, hf, hfi⟩ := ih (cnt (fun i => A i && !decide (i = a)) n) (by omega) (fun i => A i && !decide (i = a)) (fun j => C j && !decide (j = b)) rfl (fun T hT => by
        have hTA : ∀ i, i < n → T i = true → A i = true := fun i hi ht => by
          have := hT i hi ht; simp only [Bool.and_eq_true] at this; exact this.1
        by_cases hT0 : cnt T n = 0
        · omega
        have hTk : cnt T n < k := by have := cnt_mono hT; omega
        have h2 : cnt T n < cnt (fun j => C j && nb ok n T j) m := by
          apply Classical.byContradiction
          intro hn
          exact ht ⟨T, hTA, by omega, hTk, by omega⟩
        have h3 := cnt_split (fun j => C j && nb ok n T j) (fun j => decide (j = b)) m
        have h4 : cnt (fun j => C j && nb ok n T j && decide (j = b)) m ≤ 1 := by
          rw [← cnt_one hb]
          exact cnt_mono fun j _ hj => by simp only [Bool.and_eq_true] at hj; exact hj.2
        have h5 : cnt (fun j => C j && nb ok n T j && !decide (j = b)) m = cnt (fun j => C j && !decide (j = b) && nb ok n T j) m := cnt_congr fun j _ => by
          cases C j <;> cases nb ok n T j <;> simp
        omega)
      refine ⟨fun i => if i = a then b else f i, fun i hi hia => ?_, fun i i' hi hi' hia hia' he => ?_⟩
      · by_cases e : i = a
        · subst e; simp [hb, hbC, hab]
        · have := hf i hi (by simp [hia, e]); simp only [Bool.and_eq_true] at this; simp [e, this]
      · by_cases e : i = a <;> by_cases e' : i' = a
        · omega
        · exfalso
          have := hf i' hi' (by simp [hia', e'])
          simp only [e, e', if_true, if_false] at he
          rw [← he] at this; simp at this
        · exfalso
          have := hf i hi (by simp [hia, e])
          simp only [e, e', if_true, if_false] at he
          rw [he] at this; simp at this
        · simp only [e, e', if_false] at he
          exact hfi i i' hi hi' (by simp [hia, e]) (by simp [hia', e']) he

/-- What is sent into `T`, no two to the same place, is no more than `T`. -/
theorem cnt_inj {m : Nat} (f : Nat → Nat) : ∀ (n : Nat) (S T : Nat → Bool), (∀ i, i < n → S i = true → f i < m ∧ T (f i) = true) →
    (∀ i i', i < n → i' < n → S i = true → S i' = true → f i = f i' → i = i') → cnt S n ≤ cnt T m := by
  intro n
  induction n with
  | zero => intro S T _ _; simp [cnt]
  | succ n ih =>
    intro S T h hi
    simp only [cnt]
    by_cases e : S n = true
    · obtain ⟨h1, h2⟩ := h n (by omega) e
      have h3 := ih S (fun j => T j && !decide (j = f n)) (fun i hin hs => ⟨(h i (by omega) hs).1, by
        simp only [Bool.and_eq_true, Bool.not_eq_true', decide_eq_false_iff_not]
        refine ⟨(h i (by omega) hs).2, fun he => ?_⟩
        have := hi i n (by omega) (by omega) hs e he
        omega⟩) (fun i i' a b => hi i i' (by omega) (by omega))
      have h4 := cnt_drop h1 h2
      simp only [e, if_true]
      omega
    · have := ih S T (fun i hin => h i (by omega)) (fun i i' a b => hi i i' (by omega) (by omega))
      simp [e, this]

/-- Rows that are paired have no part with too few columns. -/
theorem hall_easy {ok : Nat → Nat → Bool} {n m : Nat} {A C : Nat → Bool} {f : Nat → Nat} (hf : ∀ i, i < n → A i = true → f i < m ∧ C (f i) = true ∧ ok i (f i) = true)
    (hi : ∀ i i', i < n → i' < n → A i = true → A i' = true → f i = f i' → i = i') (S : Nat → Bool) (hS : ∀ i, i < n → S i = true → A i = true) :
    cnt S n ≤ cnt (fun j => C j && nb ok n S j) m :=
  cnt_inj f n S _ (fun i hin hs => ⟨(hf i hin (hS i hin hs)).1, by
    simp only [Bool.and_eq_true]
    exact ⟨(hf i hin (hS i hin hs)).2.1, nb_iff.2 ⟨i, hin, hs, (hf i hin (hS i hin hs)).2.2⟩⟩⟩) (fun i i' h1 h2 h3 h4 => hi i i' h1 h2 (hS i h1 h3) (hS i' h2 h4))

/-- A part with too few columns of which no smaller part has too few lacks just one. -/
theorem lacks_one {ok : Nat → Nat → Bool} {n m : Nat} {S : Nat → Bool} (h : cnt (nb ok n S) m < cnt S n)
    (hm : ∀ T : Nat → Bool, cnt T n < cnt S n → cnt T n ≤ cnt (nb ok n T) m) : cnt (nb ok n S) m + 1 = cnt S n := by
  obtain ⟨a, ha, hs⟩ := cnt_pos (by omega : 0 < cnt S n)
  have h1 := cnt_drop ha hs
  have h2 := hm (fun i => S i && !decide (i = a)) (by omega)
  have h3 : cnt (nb ok n fun i => S i && !decide (i = a)) m ≤ cnt (nb ok n S) m := cnt_mono fun j _ hj => by
    obtain ⟨i, hi, hi1, hi2⟩ := nb_iff.1 hj
    simp only [Bool.and_eq_true] at hi1
    exact nb_iff.2 ⟨i, hi, hi1.1, hi2⟩
  omega

/-- Pairs without a common row or column are no more than the rows and columns of a covering. -/
theorem konig_weak {ok : Nat → Nat → Bool} {n m : Nat} {A R L : Nat → Bool} {f : Nat → Nat} (hf : ∀ i, i < n → A i = true → f i < m ∧ ok i (f i) = true)
    (hi : ∀ i i', i < n → i' < n → A i = true → A i' = true → f i = f i' → i = i') (hc : ∀ i j, i < n → j < m → ok i j = true → R i = true ∨ L j = true) :
    cnt A n ≤ cnt R n + cnt L m := by
  rw [cnt_split A R n]
  have h1 : cnt (fun i => A i && R i) n ≤ cnt R n := cnt_mono fun i _ h => by simp only [Bool.and_eq_true] at h; exact h.2
  have h2 : cnt (fun i => A i && !R i) n ≤ cnt L m := cnt_inj f n _ _ (fun i hin h => by
    simp only [Bool.and_eq_true, Bool.not_eq_true'] at h
    obtain ⟨a, b⟩ := hf i hin h.1
    refine ⟨a, ?_⟩
    rcases hc i (f i) hin a b with e | e
    · rw [h.2] at e; simp at e
    · exact e) (fun i i' h1 h2 h3 h4 => hi i i' h1 h2 (by simp only [Bool.and_eq_true] at h3; exact h3.1) (by simp only [Bool.and_eq_true] at h4; exact h4.1))
  omega

/-! ## Pairings as lists -/
/-- A permutation of the numbers below `n`. -/
def Perm (n : Nat) (p : List Nat) : Prop := p.length = n ∧ (∀ a ∈ p, a < n) ∧ p.Nodup

theorem nodup_length {n : Nat} : ∀ {p : List Nat}, p.Nodup → (∀ a ∈ p, a < n) → p.length ≤ n := by
  induction n with
  | zero => intro p _ h; cases p with
    | nil => simp
    | cons a p => exact absurd (h a (by simp)) (by omega)
  | succ n ih =>
    intro p hp h
    by_cases e : n ∈ p
    · have h1 := ih (hp.erase n) (fun a ha => by
        have h2 := (hp.mem_erase_iff).1 ha
        have := h a h2.2
        have := h2.1
        omega)
      rw [List.length_erase_of_mem e] at h1
      omega
    · have := ih hp (fun a ha => by
        have := h a ha
        have : a ≠ n := fun e' => e (e' ▸ ha)
        omega)
      omega

theorem Perm.range {n : Nat} : ∀ {p : List Nat}, Perm n p → p.Perm (List.range n) := by
  induction n with
  | zero => intro p h; have := List.length_eq_zero_iff.1 h.1; subst this; simp
  | succ n ih =>
    intro p ⟨hl, h, hp⟩
    have e : n ∈ p := by
      apply Classical.byContradiction
      intro e
      have := nodup_length hp (n := n) (fun a ha => by
        have := h a ha
        have : a ≠ n := fun e' => e (e' ▸ ha)
        omega)
      omega
    have h1 : Perm n (p.erase n) := ⟨by rw [List.length_erase_of_mem e]; omega, fun a ha => by
      have h2 := (hp.mem_erase_iff).1 ha
      have := h a h2.2
      have := h2.1
      omega, hp.erase n⟩
    rw [List.range_succ]
    exact (List.perm_cons_erase e).trans (((ih h1).cons n).trans (List.perm_append_singleton n (List.range n)).symm)

/-- The sum of what a function says of the numbers below `n`. -/
def total (n : Nat) (f : Nat → Int) : Int := ((List.range n).map f).sum

theorem sum_perm {l m : List Int} (h : l.Perm m) : l.sum = m.sum := by
  induction h with
  | nil => rfl
  | cons a _ ih => simp [ih]
  | swap a b l => simp; omega
  | trans _ _ ih1 ih2 => exact ih1.trans ih2

theorem total_succ (n : Nat) (f : Nat → Int) : total (n + 1) f = total n f + f n := by simp [total, List.range_succ]
theorem total_add (n : Nat) (f g : Nat → Int) : total n (fun i => f i + g i) = total n f + total n g := by
  induction n with
  | zero => simp [total]
  | succ n ih => rw [total_succ, total_succ, total_succ, ih]; omega
theorem total_le {n : Nat} {f g : Nat → Int} (h : ∀ i, i < n → f i ≤ g i) : total n f ≤ total n g := by
  induction n with
  | zero => simp [total]
  | succ n ih => rw [total_succ, total_succ]; have := ih (fun i hi => h i (by omega)); have := h n (by omega); omega
theorem total_congr {n : Nat} {f g : Nat → Int} (h : ∀ i, i < n → f i = g i) : total n f = total n g := by
  induction n with
  | zero => simp [total]
  | succ n ih => rw [total_succ, total_succ, ih (fun i hi => h i (by omega)), h n (by omega)]
theorem total_one {n a : Nat} (v : Int) (ha : a < n) : total n (fun i => if i = a then v else 0) = v := by
  induction n with
  | zero => omega
  | succ n ih =>
    rw [total_succ]
    by_cases e : a = n
    · subst e
      have : total a (fun i => if i = a then v else 0) = total a (fun _ => 0) := total_congr fun i hi => by simp; omega
      rw [this]
      have h0 : ∀ k, total k (fun _ => 0) = 0 := fun k => by induction k with
        | zero => simp [total]
        | succ k ih => rw [total_succ, ih]; rfl
      simp [h0]
    · rw [ih (by omega), if_neg (fun h => e h.symm)]; omega

theorem map_range_get (p : List Nat) (f : Nat → Int) : (List.range p.length).map (fun i => f (p.getD i 0)) = p.map f := by
  refine List.ext_getElem (by simp) fun i h1 h2 => ?_
  simp only [List.length_map] at h2
  simp [List.getD_eq_getElem?_getD, h2]

/-- Over the handles of a pairing as over all handles. -/
theorem Perm.total {n : Nat} {p : List Nat} (h : Perm n p) (f : Nat → Int) : total n (fun i => f (p.getD i 0)) = Pair.total n f := by
  have := sum_perm (h.range.map f)
  rw [← map_range_get, h.1] at this
  exact this

/-- Egerváry, the half that proves: prices are a bound for the cost of each pairing. -/
theorem prices_bound {n : Nat} {p : List Nat} (h : Perm n p) {u v : Nat → Int} {c : Nat → Nat → Int} (hc : ∀ i j, i < n → j < n → u i + v j ≤ c i j) :
    total n u + total n v ≤ total n (fun i => c i (p.getD i 0)) := by
  rw [← h.total v, ← total_add]
  refine total_le fun i hi => hc i _ hi (h.2.1 _ ?_)
  rw [List.getD_eq_getElem?_getD, List.getElem?_eq_getElem (by rw [h.1]; exact hi)]
  simp

/-- More for each pair of one row. -/
theorem row_more {n a : Nat} (ha : a < n) (p : List Nat) (c : Nat → Nat → Int) (v : Int) :
    total n (fun i => (if i = a then c i (p.getD i 0) + v else c i (p.getD i 0))) = total n (fun i => c i (p.getD i 0)) + v := by
  have e := total_add n (fun i => c i (p.getD i 0)) (fun i => if i = a then v else 0)
  rw [total_one v ha] at e
  rw [← e]
  exact total_congr fun i _ => by split <;> omega

end Go.Proofs.Ytfobdlllghpelaa.Pair

namespace Go.Proofs.Ytfobdlllghpelaa.Pair
/-- The same pairs when the rows are renamed. -/
theorem Perm.moved {n : Nat} {p : List Nat} {s : Nat → Nat} (h : Perm n p) (hs : ∀ i, i < n → s i < n) (hi : ∀ i i', i < n → i' < n → s i = s i' → i = i') :
    Perm n ((List.range n).map fun i => p.getD (s i) 0) := by
  have hg : ∀ i, i < n → p.getD i 0 ∈ p := fun i hin => by
    have hl : i < p.length := by rw [h.1]; exact hin
    rw [List.getD_eq_getElem?_getD, List.getElem?_eq_getElem hl]; simp
  refine ⟨by simp, fun a ha => ?_, ?_⟩
  · obtain ⟨i, hi', rfl⟩ := List.mem_map.1 ha
    exact h.2.1 _ (hg _ (hs i (List.mem_range.1 hi')))
  · rw [List.nodup_iff_pairwise_ne, List.pairwise_map]
    refine List.Pairwise.imp_of_mem ?_ (List.nodup_iff_pairwise_ne.1 (List.nodup_range (n := n)))
    intro a b ha hb hne he
    have ha := List.mem_range.1 ha
    have hb := List.mem_range.1 hb
    have h1 : s a < p.length := by rw [h.1]; exact hs a ha
    have h2 : s b < p.length := by rw [h.1]; exact hs b hb
    rw [List.getD_eq_getElem?_getD, List.getD_eq_getElem?_getD, List.getElem?_eq_getElem h1, List.getElem?_eq_getElem h2] at he
    exact hne (hi a b ha hb ((List.getElem_inj h.2.2).1 (by simpa using he)))

theorem renamed {n : Nat} {s : Nat → Nat} (hs : ∀ i, i < n → s i < n) (hi : ∀ i i', i < n → i' < n → s i = s i' → i = i') : Perm n ((List.range n).map s) := by
  refine ⟨by simp, fun a ha => ?_, ?_⟩
  · obtain ⟨i, hi', rfl⟩ := List.mem_map.1 ha
    exact hs i (List.mem_range.1 hi')
  · rw [List.nodup_iff_pairwise_ne, List.pairwise_map]
    refine List.Pairwise.imp_of_mem ?_ (List.nodup_iff_pairwise_ne.1 (List.nodup_range (n := n)))
    intro a b ha hb hne he
    exact hne (hi a b (List.mem_range.1 ha) (List.mem_range.1 hb) he)

/-- The costs of the renamed rows are the costs, in another order. -/
theorem costs_moved {n : Nat} {s : Nat → Nat} (hs : ∀ i, i < n → s i < n) (hi : ∀ i i', i < n → i' < n → s i = s i' → i = i') (g : Nat → Int) :
    ((List.range n).map fun i => g (s i)).Perm ((List.range n).map g) := by
  have := (renamed hs hi).range.map g
  rwa [List.map_map] at this
end Go.Proofs.Ytfobdlllghpelaa.Pair

/-! The reference of the greatest number of pairs: all choices are tried. It knows no program. -/
namespace Go.Proofs.Ytfobdlllghpelaa.Pair

/-- How many of the rows from `i` on, `k` of them, are in the set. -/
def cntF (S : Nat → Bool) : Nat → Nat → Nat
  | _, 0 => 0
  | i, k + 1 => (if S i then 1 else 0) + cntF S (i + 1) k

theorem cntF_snoc (S : Nat → Bool) : ∀ (k i : Nat), cntF S i (k + 1) = cntF S i k + (if S (i + k) then 1 else 0)
  | 0, i => by simp [cntF]
  | k + 1, i => by
    have := cntF_snoc S k (i + 1)
    rw [cntF, this, cntF, show i + 1 + k = i + (k + 1) by omega]
    omega

/-- The best of what is offered, beginning with `b`. -/
def best (g : Nat → Option Nat) : List Nat → Nat → Nat
  | [], b => b
  | j :: js, b => best g js (match g j with | some v => max b v | none => b)

theorem best_ge (g : Nat → Option Nat) : ∀ (js : List Nat) (b : Nat), b ≤ best g js b
  | [], b => Nat.le_refl b
  | j :: js, b => by
    refine Nat.le_trans ?_ (best_ge g js _)
    cases g j with
    | none => exact Nat.le_refl b
    | some v => exact Nat.le_max_left b v

theorem best_of (g : Nat → Option Nat) : ∀ (js : List Nat) (b j v : Nat), j ∈ js → g j = some v → v ≤ best g js b
  | j' :: js, b, j, v, h, e => by
    rcases List.mem_cons.1 h with rfl | h
    · refine Nat.le_trans ?_ (best_ge g js _)
      rw [e]; exact Nat.le_max_right b v
    · exact best_of g js _ j v h e

theorem best_is (g : Nat → Option Nat) : ∀ (js : List Nat) (b : Nat), best g js b = b ∨ ∃ j ∈ js, g j = some (best g js b)
  | [], b => Or.inl rfl
  | j :: js, b => by
    rcases best_is g js (match g j with | some v => max b v | none => b) with h | ⟨j', hj, h⟩
    · cases e : g j with
      | none => rw [e] at h; exact Or.inl (by simp only [best, e]; exact h)
      | some v =>
        rw [e] at h
        by_cases hv : v ≤ b
        · exact Or.inl (by simp only [best, e]; rw [h]; exact Nat.max_eq_left hv)
        · refine Or.inr ⟨j, by simp, ?_⟩
          simp only [best, e]; simp only at h; rw [h, Nat.max_eq_right (by omega)]
    · exact Or.inr ⟨j', by simp [hj], by simpa only [best] using h⟩

/-- The greatest number of pairs of the rows from `i` on, `k` of them, with columns below `m` that are not used. -/
def mostP (ok : Nat → Nat → Bool) (m : Nat) : Nat → Nat → (Nat → Bool) → Nat
  | 0, _, _ => 0
  | k + 1, i, used => best (fun j => if !used j && ok i j then some (1 + mostP ok m k (i + 1) fun x => used x || decide (x = j)) else none) (List.range m) (mostP ok m k (i + 1) used)

/-- Rows that are paired with columns of their own. -/
structure Match (ok : Nat → Nat → Bool) (m : Nat) (A : Nat → Bool) (f : Nat → Nat) (used : Nat → Bool) (i k : Nat) : Prop where
  at_ : ∀ x, i ≤ x → x < i + k → A x = true → f x < m ∧ used (f x) = false ∧ ok x (f x) = true
  inj : ∀ x y, i ≤ x → x < i + k → i ≤ y → y < i + k → A x = true → A y = true → f x = f y → x = y

theorem mostP_ge (ok : Nat → Nat → Bool) (m : Nat) : ∀ (k i : Nat) (used A : Nat → Bool) (f : Nat → Nat), Match ok m A f used i k → cntF A i k ≤ mostP ok m k i used
  | 0, _, _, _, _, _ => Nat.le_refl 0
  | k + 1, i, used, A, f, h => by
    simp only [cntF, mostP]
    by_cases e : A i = true
    · obtain ⟨h1, h2, h3⟩ := h.at_ i (by omega) (by omega) e
      have h4 := mostP_ge ok m k (i + 1) (fun x => used x || decide (x = f i)) A f ⟨fun x hx hk ha => by
        obtain ⟨g1, g2, g3⟩ := h.at_ x (by omega) (by omega) ha
        refine ⟨g1, ?_, g3⟩
        simp only [g2, Bool.false_or, decide_eq_false_iff_not]
        intro e'
        have := h.inj x i (by omega) (by omega) (by omega) (by omega) ha e e'
        omega, fun x y a b c d => h.inj x y (by omega) (by omega) (by omega) (by omega)⟩
      refine Nat.le_trans ?_ (best_of _ (List.range m) _ (f i) _ (List.mem_range.2 h1) (if_pos (by simp [h2, h3])))
      simp only [e, if_true]
      omega
    · refine Nat.le_trans ?_ (best_ge _ _ _)
      have := mostP_ge ok m k (i + 1) used A f ⟨fun x hx hk => h.at_ x (by omega) (by omega), fun x y a b c d => h.inj x y (by omega) (by omega) (by omega) (by omega)⟩
      simpa [e] using this

theorem cntF_congr {S T : Nat → Bool} : ∀ (k i : Nat), (∀ x, i ≤ x → x < i + k → S x = T x) → cntF S i k = cntF T i k
  | 0, _, _ => rfl
  | k + 1, i, h => by rw [cntF, cntF, h i (by omega) (by omega), cntF_congr k (i + 1) fun x a b => h x (by omega) (by omega)]

theorem mostP_is (ok : Nat → Nat → Bool) (m : Nat) : ∀ (k i : Nat) (used : Nat → Bool), ∃ A f, Match ok m A f used i k ∧ cntF A i k = mostP ok m k i used
  | 0, i, used => ⟨fun _ => false, id, ⟨fun _ _ _ h => by simp at h, fun _ _ _ _ _ _ h => by simp at h⟩, rfl⟩
  | k + 1, i, used => by
    simp only [mostP]
    rcases best_is (fun j => if !used j && ok i j then some (1 + mostP ok m k (i + 1) fun x => used x || decide (x = j)) else none) (List.range m) (mostP ok m k (i + 1) used) with h | ⟨j, hj, h⟩
    · rw [h]
      obtain ⟨A, f, h1, h2⟩ := mostP_is ok m k (i + 1) used
      refine ⟨fun x => A x && !decide (x = i), f, ⟨fun x hx hk ha => ?_, fun x y a b c d ha hb => ?_⟩, ?_⟩
      · simp only [Bool.and_eq_true, Bool.not_eq_true', decide_eq_false_iff_not] at ha
        exact h1.at_ x (by omega) (by omega) ha.1
      · simp only [Bool.and_eq_true, Bool.not_eq_true', decide_eq_false_iff_not] at ha hb
        exact h1.inj x y (by omega) (by omega) (by omega) (by omega) ha.1 hb.1
      · rw [cntF, ← h2, cntF_congr (T := A) k (i + 1) fun x a b => by simp; omega]
        simp
    · split at h
      case isFalse => simp at h
      case isTrue hc =>
      simp only [Bool.and_eq_true, Bool.not_eq_true'] at hc
      rw [Option.some.injEq] at h
      rw [← h]
      obtain ⟨A, f, h1, h2⟩ := mostP_is ok m k (i + 1) fun x => used x || decide (x = j)
      have hne : ∀ x, i + 1 ≤ x → x < i + 1 + k → A x = true → f x ≠ j := fun x a b c e => by
        have := (h1.at_ x a b c).2.1
        simp [e] at this
      refine ⟨fun x => A x || decide (x = i), fun x => if x = i then j else f x, ⟨fun x hx hk ha => ?_, fun x y a b c d ha hb he => ?_⟩, ?_⟩
      · by_cases e : x = i
        · subst e; simp only [if_true]; exact ⟨List.mem_range.1 hj, hc.1, hc.2⟩
        · simp only [e, decide_false, Bool.or_false] at ha
          obtain ⟨g1, g2, g3⟩ := h1.at_ x (by omega) (by omega) ha
          simp only [Bool.or_eq_false_iff] at g2
          simp only [e, if_false]; exact ⟨g1, g2.1, g3⟩
      · by_cases e : x = i <;> by_cases e' : y = i
        · omega
        · simp only [e', decide_false, Bool.or_false] at hb
          simp only [e, e', if_true, if_false] at he
          exact absurd he.symm (hne y (by omega) (by omega) hb)
        · simp only [e, decide_false, Bool.or_false] at ha
          simp only [e, e', if_true, if_false] at he
          exact absurd he (hne x (by omega) (by omega) ha)
        · simp only [e, decide_false, Bool.or_false] at ha
          simp only [e', decide_false, Bool.or_false] at hb
          simp only [e, e', if_false] at he
          exact h1.inj x y (by omega) (by omega) (by omega) (by omega) ha hb he
      · rw [cntF, ← h2, cntF_congr (T := A) k (i + 1) fun x a b => by
          have : x ≠ i := by omega
          simp [this]]
        simp

end Go.Proofs.Ytfobdlllghpelaa.Pair

/-! The reference of pairings: all pairings that begin with some handles, in order; the first of the least. It knows no program. -/
namespace Go.Proofs.Ytfobdlllghpelaa.Pair

/-- All lists of `k` more numbers below `n`, none of them twice, that begin with `f`. -/
def allP (n : Nat) : Nat → List Nat → List (List Nat)
  | 0, f => [f]
  | k + 1, f => (List.range n).flatMap fun j => if j ∈ f then [] else allP n k (f ++ [j])

theorem mem_allP (n : Nat) : ∀ (k : Nat) (f l : List Nat), f.Nodup → (∀ a ∈ f, a < n) →
    (l ∈ allP n k f ↔ f <+: l ∧ l.length = f.length + k ∧ l.Nodup ∧ ∀ a ∈ l, a < n) := by
  intro k
  induction k with
  | zero =>
    intro f l hf hb
    simp only [allP, List.mem_singleton, Nat.add_zero]
    constructor
    · rintro rfl; exact ⟨List.prefix_refl _, rfl, hf, hb⟩
    · rintro ⟨h1, h2, _⟩; exact (h1.eq_of_length h2.symm).symm
  | succ k ih =>
    intro f l hf hb
    simp only [allP, List.mem_flatMap, List.mem_range]
    constructor
    · rintro ⟨j, hj, hl⟩
      by_cases e : j ∈ f
      · simp [e] at hl
      · rw [if_neg e] at hl
        have hf' : (f ++ [j]).Nodup := List.nodup_append.2 ⟨hf, by simp, by simp; intro a ha e'; exact e (e' ▸ ha)⟩
        obtain ⟨h1, h2, h3, h4⟩ := (ih (f ++ [j]) l hf' (by simp; intro a ha; rcases ha with ha | ha; exact hb a ha; omega)).1 hl
        refine ⟨(List.prefix_append f [j]).trans h1, ?_, h3, h4⟩
        simp at h2; omega
    · rintro ⟨⟨r, rfl⟩, h2, h3, h4⟩
      cases r with
      | nil => simp at h2
      | cons j r =>
        have e : j ∉ f := fun e => by
          have := (List.nodup_append.1 h3).2.2 j e j (by simp)
          exact this rfl
        have hj : j < n := h4 j (by simp)
        have hf' : (f ++ [j]).Nodup := List.nodup_append.2 ⟨hf, by simp, by simp; intro a ha e'; exact e (e' ▸ ha)⟩
        refine ⟨j, hj, ?_⟩
        rw [if_neg e]
        refine (ih (f ++ [j]) _ hf' (by simp; intro a ha; rcases ha with ha | ha; exact hb a ha; omega)).2 ⟨⟨r, by simp⟩, ?_, h3, h4⟩
        simp at h2 ⊢; omega

/-- The lexicographic order of lists of one length. -/
def lexLt : List Nat → List Nat → Prop
  | a :: l, b :: m => a < b ∨ (a = b ∧ lexLt l m)
  | _, _ => False

theorem lexLt_append : ∀ (f l m : List Nat), lexLt l m → lexLt (f ++ l) (f ++ m)
  | [], _, _, h => h
  | _ :: f, l, m, h => Or.inr ⟨rfl, lexLt_append f l m h⟩

theorem lexLt_irrefl : ∀ l : List Nat, ¬ lexLt l l
  | [], h => h
  | a :: l, h => by
    rcases h with h | ⟨_, h⟩
    · omega
    · exact lexLt_irrefl l h

theorem lexLt_trans : ∀ {a b c : List Nat}, lexLt a b → lexLt b c → lexLt a c
  | _ :: a, _ :: b, _ :: c, h, g => by
    rcases h with h | ⟨e, h⟩ <;> rcases g with g | ⟨e', g⟩
    · exact Or.inl (by omega)
    · exact Or.inl (by omega)
    · exact Or.inl (by omega)
    · exact Or.inr ⟨e.trans e', lexLt_trans h g⟩

theorem lexLt_total : ∀ {a b : List Nat}, a.length = b.length → lexLt a b ∨ a = b ∨ lexLt b a
  | [], [], _ => Or.inr (Or.inl rfl)
  | x :: a, y :: b, h => by
    rcases Nat.lt_trichotomy x y with e | e | e
    · exact Or.inl (Or.inl e)
    · subst e
      rcases lexLt_total (a := a) (b := b) (by simpa using h) with h | h | h
      · exact Or.inl (Or.inr ⟨rfl, h⟩)
      · exact Or.inr (Or.inl (by rw [h]))
      · exact Or.inr (Or.inr (Or.inr ⟨rfl, h⟩))
    · exact Or.inr (Or.inr (Or.inl e))

theorem allP_prefix (n : Nat) : ∀ (k : Nat) (f l : List Nat), l ∈ allP n k f → f <+: l := by
  intro k
  induction k with
  | zero => intro f l h; simp [allP] at h; subst h; exact List.prefix_refl _
  | succ k ih =>
    intro f l h
    simp only [allP, List.mem_flatMap, List.mem_range] at h
    obtain ⟨j, _, h⟩ := h
    by_cases e : j ∈ f
    · simp [e] at h
    · rw [if_neg e] at h
      exact (List.prefix_append f [j]).trans (ih _ _ h)

/-- They come in lexicographic order. -/
theorem allP_sorted (n : Nat) : ∀ (k : Nat) (f : List Nat), (allP n k f).Pairwise lexLt := by
  intro k
  induction k with
  | zero => intro f; simp [allP]
  | succ k ih =>
    intro f
    simp only [allP]
    have key : ∀ (js : List Nat), js.Pairwise (· < ·) → (js.flatMap fun j => if j ∈ f then [] else allP n k (f ++ [j])).Pairwise lexLt := by
      intro js
      induction js with
      | nil => intro _; simp
      | cons j js ihj =>
        intro hp
        rw [List.flatMap_cons, List.pairwise_append]
        rw [List.pairwise_cons] at hp
        refine ⟨?_, ihj hp.2, ?_⟩
        · split
          · simp
          · exact ih _
        · intro a ha b hb
          obtain ⟨j', hj', hb⟩ := List.mem_flatMap.1 hb
          by_cases e : j ∈ f
          · simp [e] at ha
          by_cases e' : j' ∈ f
          · simp [e'] at hb
          rw [if_neg e] at ha
          rw [if_neg e'] at hb
          obtain ⟨r, rfl⟩ := allP_prefix n k _ _ ha
          obtain ⟨s, rfl⟩ := allP_prefix n k _ _ hb
          rw [List.append_assoc, List.append_assoc]
          exact lexLt_append f _ _ (Or.inl (hp.1 j' hj'))
    exact key _ List.pairwise_lt_range

/-- The first of the least by a measure. -/
def firstLeast (m : List Nat → Int) : List (List Nat) → List Nat → List Nat
  | [], b => b
  | l :: ls, b => firstLeast m ls (if m l < m b then l else b)

/-- It is in the list, none is less, and those before it are greater. -/
theorem firstLeast_spec (m : List Nat → Int) : ∀ (ls : List (List Nat)) (b : List Nat), (b :: ls).Pairwise lexLt →
    firstLeast m ls b ∈ b :: ls ∧ (∀ l ∈ b :: ls, m (firstLeast m ls b) ≤ m l) ∧ ∀ l ∈ b :: ls, lexLt l (firstLeast m ls b) → m (firstLeast m ls b) < m l := by
  intro ls
  induction ls with
  | nil => intro b _; simp [firstLeast, lexLt_irrefl]
  | cons l ls ih =>
    intro b hp
    simp only [firstLeast]
    rw [List.pairwise_cons, List.pairwise_cons] at hp
    obtain ⟨hb, hl, hls⟩ := hp
    by_cases e : m l < m b
    · rw [if_pos e]
      obtain ⟨h1, h2, h3⟩ := ih l (List.pairwise_cons.2 ⟨hl, hls⟩)
      have := h2 l (by simp)
      refine ⟨List.mem_cons_of_mem _ h1, fun x hx => ?_, fun x hx hlt => ?_⟩
      · rcases List.mem_cons.1 hx with rfl | hx
        · omega
        · exact h2 x hx
      · rcases List.mem_cons.1 hx with rfl | hx
        · omega
        · exact h3 x hx hlt
    · rw [if_neg e]
      obtain ⟨h1, h2, h3⟩ := ih b (List.pairwise_cons.2 ⟨fun x hx => hb x (by simp [hx]), hls⟩)
      have hmb := h2 b (by simp)
      refine ⟨?_, fun x hx => ?_, fun x hx hlt => ?_⟩
      · rcases List.mem_cons.1 h1 with h | h
        · rw [h]; simp
        · exact List.mem_cons_of_mem _ (List.mem_cons_of_mem _ h)
      · rcases List.mem_cons.1 hx with rfl | hx
        · exact hmb
        · rcases List.mem_cons.1 hx with rfl | hx
          · omega
          · exact h2 x (by simp [hx])
      · rcases List.mem_cons.1 hx with rfl | hx
        · exact h3 x (by simp) hlt
        · rcases List.mem_cons.1 hx with rfl | hx
          · rcases List.mem_cons.1 h1 with h | h
            · rw [h] at hlt; exact absurd (lexLt_trans hlt (hb x (by simp))) (lexLt_irrefl _)
            · have := h3 b (by simp) (hb _ (by simp [h]))
              omega
          · exact h3 x (by simp [hx]) hlt

/-- Who has the least measure, and is the first of those, is the same. -/
theorem firstLeast_unique {m : List Nat → Int} {ls : List (List Nat)} {b x : List Nat} (hp : (b :: ls).Pairwise lexLt) (hn : ∀ l ∈ b :: ls, l.length = x.length) (hx : x ∈ b :: ls)
    (h1 : ∀ l ∈ b :: ls, m x ≤ m l) (h2 : ∀ l ∈ b :: ls, lexLt l x → m x < m l) : firstLeast m ls b = x := by
  obtain ⟨g1, g2, g3⟩ := firstLeast_spec m ls b hp
  rcases lexLt_total (hn _ g1) with h | h | h
  · have := h2 _ g1 h; have := g2 x hx; omega
  · exact h
  · have := g3 x hx h; have := h1 _ g1; omega

end Go.Proofs.Ytfobdlllghpelaa.Pair

namespace Go.Proofs.Ytfobdlllghpelaa.Pair
/-! ## Falling order -/
/-- Behind all that are not less. -/
def ins (v : Nat) : List Nat → List Nat
  | [] => [v]
  | a :: l => if v ≤ a then a :: ins v l else v :: a :: l

theorem ins_perm (v : Nat) : ∀ l : List Nat, (ins v l).Perm (v :: l)
  | [] => List.Perm.refl _
  | a :: l => by
    simp only [ins]
    split
    · exact ((ins_perm v l).cons a).trans (List.Perm.swap v a l)
    · exact List.Perm.refl _

theorem ins_sorted (v : Nat) : ∀ l : List Nat, l.Pairwise (· ≥ ·) → (ins v l).Pairwise (· ≥ ·)
  | [], _ => by simp [ins]
  | a :: l, h => by
    rw [List.pairwise_cons] at h
    simp only [ins]
    split
    · refine List.pairwise_cons.2 ⟨fun x hx => ?_, ins_sorted v l h.2⟩
      rcases List.mem_cons.1 ((ins_perm v l).mem_iff.1 hx) with rfl | hx
      · assumption
      · exact h.1 x hx
    · refine List.pairwise_cons.2 ⟨fun x hx => ?_, List.pairwise_cons.2 h⟩
      rcases List.mem_cons.1 hx with rfl | hx
      · omega
      · have := h.1 x hx; omega

/-- In falling order. -/
def falling (l : List Nat) : List Nat := l.foldl (fun out v => ins v out) []

theorem falling_go : ∀ (l out : List Nat), out.Pairwise (· ≥ ·) → (l.foldl (fun out v => ins v out) out).Perm (out ++ l) ∧ (l.foldl (fun out v => ins v out) out).Pairwise (· ≥ ·)
  | [], out, h => by simpa using h
  | v :: l, out, h => by
    obtain ⟨h1, h2⟩ := falling_go l (ins v out) (ins_sorted v out h)
    refine ⟨h1.trans ?_, h2⟩
    exact ((ins_perm v out).append_right l).trans List.perm_middle.symm

theorem falling_perm (l : List Nat) : (falling l).Perm l := by
  have := (falling_go l [] (by simp)).1
  rwa [List.nil_append] at this
theorem falling_sorted (l : List Nat) : (falling l).Pairwise (· ≥ ·) := (falling_go l [] (by simp)).2
theorem falling_only {l m : List Nat} (h : m.Perm l) (hs : m.Pairwise (· ≥ ·)) : falling l = m :=
  ((falling_perm l).trans h.symm).eq_of_pairwise (fun _ _ _ _ h1 h2 => Nat.le_antisymm h2 h1) (falling_sorted l) hs
theorem falling_same {l m : List Nat} (h : m.Perm l) : falling l = falling m := falling_only ((falling_perm m).trans h) (falling_sorted m)

/-- The first is the greatest. -/
theorem falling_head {l : List Nat} {v : Nat} (hv : v ∈ l) (h : ∀ a ∈ l, a ≤ v) : (falling l).head? = some v := by
  have hp := falling_perm l
  have hs := falling_sorted l
  cases e : falling l with
  | nil => rw [e] at hp; have := hp.mem_iff.2 hv; simp at this
  | cons a r =>
    rw [e] at hp hs
    rw [List.pairwise_cons] at hs
    have h1 := h a (hp.mem_iff.1 (by simp))
    have h2 : v ≤ a := by
      rcases List.mem_cons.1 (hp.mem_iff.2 hv) with h | h
      · omega
      · exact hs.1 v h
    rw [List.head?_cons, Nat.le_antisymm h1 h2]

/-- The last is the least. -/
theorem falling_last {l : List Nat} {v : Nat} (hv : v ∈ l) (h : ∀ a ∈ l, v ≤ a) : (falling l).getLast? = some v := by
  have hp := falling_perm l
  have hs := falling_sorted l
  rcases List.eq_nil_or_concat (falling l) with e | ⟨r, a, e⟩
  · rw [e] at hp; have := hp.mem_iff.2 hv; simp at this
  · rw [List.concat_eq_append] at e
    rw [e] at hp hs
    rw [List.pairwise_append] at hs
    have h1 := h a (hp.mem_iff.1 (by simp))
    have h2 : a ≤ v := by
      rcases List.mem_append.1 (hp.mem_iff.2 hv) with h | h
      · exact hs.2.2 v h a (by simp)
      · simp at h; omega
    rw [e, List.getLast?_append, List.getLast?_singleton, Nat.le_antisymm h1 h2]; rfl

/-! ## Powers of 2 -/
/-- Different powers of 2, falling. -/
def Pows (l : List Nat) : Prop := l.Pairwise (· > ·) ∧ ∀ a ∈ l, ∃ e, a = 2 ^ e

theorem pow_double {x y : Nat} (h : 2 ^ x < 2 ^ y) : 2 * 2 ^ x ≤ 2 ^ y := by
  have : x < y := (Nat.pow_lt_pow_iff_right (by decide)).1 h
  rw [Nat.mul_comm, ← Nat.pow_succ]
  exact Nat.pow_le_pow_right (by decide) this

theorem pows_sum : ∀ {l : List Nat} {a : Nat}, Pows (a :: l) → l.sum < a
  | [], a, h => by
    obtain ⟨e, he⟩ := h.2 a (by simp)
    have : 1 ≤ 2 ^ e := Nat.one_le_pow _ _ (by decide)
    simp; omega
  | b :: l, a, h => by
    obtain ⟨hp, he⟩ := h
    rw [List.pairwise_cons] at hp
    have h1 := pows_sum (l := l) (a := b) ⟨hp.2, fun x hx => he x (by simp only [List.mem_cons] at hx ⊢; exact Or.inr hx)⟩
    obtain ⟨x, hx⟩ := he b (by simp)
    obtain ⟨y, hy⟩ := he a (by simp)
    have h2 := hp.1 b (by simp)
    have h3 := pow_double (x := x) (y := y) (by omega)
    rw [List.sum_cons]; omega

/-- Of such lists the one that comes first in order has the less sum. -/
theorem pows_lex : ∀ {l m : List Nat}, Pows l → Pows m → l.length = m.length → lexLt l m → l.sum < m.sum
  | a :: l, b :: m, hl, hm, hn, h => by
    rw [List.sum_cons, List.sum_cons]
    rcases h with h | ⟨e, h⟩
    · have h1 := pows_sum hl
      obtain ⟨x, hx⟩ := hl.2 a (by simp)
      obtain ⟨y, hy⟩ := hm.2 b (by simp)
      have h3 := pow_double (x := x) (y := y) (by omega)
      omega
    · have := pows_lex (l := l) (m := m) ⟨(List.pairwise_cons.1 hl.1).2, fun x hx => hl.2 x (by simp [hx])⟩ ⟨(List.pairwise_cons.1 hm.1).2, fun x hx => hm.2 x (by simp [hx])⟩ (by simpa using hn) h
      omega
end Go.Proofs.Ytfobdlllghpelaa.Pair
/-! The allowed pairings, and how many they are: mathematics that knows no program. (allP is PairR's: this text is to stand behind it.) -/
namespace Go.Proofs.Ytfobdlllghpelaa.Pair

/-- All pairs of a list are allowed; its first one is of row `i`. -/
def okL (ok : Nat → Nat → Bool) : Nat → List Nat → Bool
  | _, [] => true
  | i, a :: l => ok i a && okL ok (i + 1) l

theorem okL_append (ok : Nat → Nat → Bool) : ∀ (f l : List Nat) (i : Nat), okL ok i (f ++ l) = (okL ok i f && okL ok (i + f.length) l)
  | [], l, i => by simp [okL]
  | a :: f, l, i => by
    rw [List.cons_append, okL, okL, okL_append ok f l (i + 1), List.length_cons, Bool.and_assoc, show i + 1 + f.length = i + (f.length + 1) by omega]

/-- The allowed pairings that begin with `f`, which is allowed. -/
def alwP (ok : Nat → Nat → Bool) (n : Nat) : Nat → List Nat → List (List Nat)
  | 0, f => [f]
  | k + 1, f => (List.range n).flatMap fun j => if j ∈ f ∨ ok f.length j = false then [] else alwP ok n k (f ++ [j])

theorem alwP_filter (ok : Nat → Nat → Bool) (n : Nat) : ∀ (k : Nat) (f : List Nat), okL ok 0 f = true → (allP n k f).filter (okL ok 0) = alwP ok n k f
  | 0, f, h => by simp [allP, alwP, h]
  | k + 1, f, h => by
    rw [allP, alwP, List.filter_flatMap]
    congr 1
    funext j
    by_cases e : j ∈ f
    · simp [e]
    · by_cases e' : ok f.length j = true
      · rw [if_neg e, if_neg (by simp [e, e'])]
        refine alwP_filter ok n k (f ++ [j]) ?_
        rw [okL_append, h]; simp [okL, e']
      · have e' : ok f.length j = false := by simpa using e'
        rw [if_neg e, if_pos (Or.inr e'), List.filter_eq_nil_iff]
        intro l hl
        obtain ⟨r, rfl⟩ := allP_prefix n k _ _ hl
        rw [okL_append, okL_append]
        simp [okL, e']

/-- How many ways go on from row `i`, with `k` rows left, where some columns are used. -/
def cntP (ok : Nat → Nat → Bool) (n : Nat) : Nat → Nat → (Nat → Bool) → Nat
  | 0, _, _ => 1
  | k + 1, i, used => ((List.range n).map fun j => if used j || !ok i j then 0 else cntP ok n k (i + 1) fun x => used x || decide (x = j)).sum

theorem alwP_length (ok : Nat → Nat → Bool) (n : Nat) : ∀ (k : Nat) (f : List Nat) (used : Nat → Bool), (∀ x, used x = true ↔ x ∈ f) → (alwP ok n k f).length = cntP ok n k f.length used
  | 0, _, _, _ => rfl
  | k + 1, f, used, h => by
    rw [alwP, cntP, List.length_flatMap]
    congr 1
    refine List.map_congr_left fun j _ => ?_
    by_cases e : j ∈ f
    · simp [e, (h j).2 e]
    · have e1 : used j = false := by
        cases e2 : used j with
        | false => rfl
        | true => exact absurd ((h j).1 e2) e
      cases e' : ok f.length j with
      | false => simp
      | true =>
        rw [if_neg (by simp [e]), if_neg (by simp [e1])]
        rw [alwP_length ok n k (f ++ [j]) (fun x => used x || decide (x = j)) (fun x => by simp [h x])]
        simp

/-- The pairing with a number: whole lists are passed over. -/
theorem at_pass {α : Type} (a b : List α) (r : Nat) (h : a.length ≤ r) : (a ++ b)[r]? = b[r - a.length]? := List.getElem?_append_right h
theorem at_in {α : Type} (a b : List α) (r : Nat) (h : r < a.length) : (a ++ b)[r]? = a[r]? := List.getElem?_append_left h

/-- What comes before the columns from `j` on: so many allowed pairings. -/
theorem before (ok : Nat → Nat → Bool) (n k j : Nat) (f : List Nat) (hj : j < n) : alwP ok n (k + 1) f =
    ((List.range j).flatMap fun j => if j ∈ f ∨ ok f.length j = false then [] else alwP ok n k (f ++ [j])) ++ ((if j ∈ f ∨ ok f.length j = false then [] else alwP ok n k (f ++ [j])) ++
      ((List.range' (j + 1) (n - j - 1)).flatMap fun j => if j ∈ f ∨ ok f.length j = false then [] else alwP ok n k (f ++ [j]))) := by
  have e : List.range n = List.range j ++ (j :: List.range' (j + 1) (n - j - 1)) := by
    rw [List.range_eq_range', List.range_eq_range', ← List.range'_succ, show n - j - 1 + 1 = n - j by omega]
    rw [show List.range' j (n - j) = List.range' (0 + 1 * j) (n - j) by simp, List.range'_append]
    congr 1; omega
  rw [alwP, e, List.flatMap_append, List.flatMap_cons]

end Go.Proofs.Ytfobdlllghpelaa.Pair

namespace Go.Proofs.Ytfobdlllghpelaa.Pair
/-- The first of the least by an order of whatever kind. -/
def firstOf (lt : List Nat → List Nat → Bool) : List (List Nat) → List Nat → List Nat
  | [], b => b
  | l :: ls, b => firstOf lt ls (if lt l b then l else b)

/-- Not less is passed on, and of two one at most is less. -/
structure Weak (lt : List Nat → List Nat → Bool) : Prop where
  asymm : ∀ a b, lt a b = true → lt b a = false
  pass : ∀ a b c, lt a b = false → lt b c = false → lt a c = false

theorem Weak.irrefl {lt : List Nat → List Nat → Bool} (h : Weak lt) (a : List Nat) : lt a a = false := by
  cases e : lt a a with
  | false => rfl
  | true => have := h.asymm a a e; rw [e] at this; exact this

theorem Weak.less_pass {lt : List Nat → List Nat → Bool} (h : Weak lt) {a b c : List Nat} (h1 : lt a b = false) (h2 : lt c b = true) : lt c a = true := by
  cases e : lt c a with
  | true => rfl
  | false => have := h.pass c a b e h1; rw [h2] at this; exact absurd this (by decide)

theorem Weak.pass_less {lt : List Nat → List Nat → Bool} (h : Weak lt) {a b c : List Nat} (h1 : lt b a = false) (h2 : lt b c = true) : lt a c = true := by
  cases e : lt a c with
  | true => rfl
  | false => have := h.pass b a c h1 e; rw [h2] at this; exact absurd this (by decide)

theorem firstOf_spec {lt : List Nat → List Nat → Bool} (hw : Weak lt) : ∀ (ls : List (List Nat)) (b : List Nat), (b :: ls).Pairwise lexLt →
    firstOf lt ls b ∈ b :: ls ∧ (∀ l ∈ b :: ls, lt l (firstOf lt ls b) = false) ∧ ∀ l ∈ b :: ls, lexLt l (firstOf lt ls b) → lt (firstOf lt ls b) l = true := by
  intro ls
  induction ls with
  | nil => intro b _; simp [firstOf, lexLt_irrefl, hw.irrefl]
  | cons l ls ih =>
    intro b hp
    simp only [firstOf]
    rw [List.pairwise_cons, List.pairwise_cons] at hp
    obtain ⟨hb, hl, hls⟩ := hp
    by_cases e : lt l b = true
    · rw [if_pos e]
      obtain ⟨h1, h2, h3⟩ := ih l (List.pairwise_cons.2 ⟨hl, hls⟩)
      have hlt := hw.pass_less (h2 l (by simp)) e
      refine ⟨List.mem_cons_of_mem _ h1, fun x hx => ?_, fun x hx hlt' => ?_⟩
      · rcases List.mem_cons.1 hx with rfl | hx
        · exact hw.asymm _ _ hlt
        · exact h2 x hx
      · rcases List.mem_cons.1 hx with rfl | hx
        · exact hlt
        · exact h3 x hx hlt'
    · rw [if_neg e]
      have e : lt l b = false := by simpa using e
      obtain ⟨h1, h2, h3⟩ := ih b (List.pairwise_cons.2 ⟨fun x hx => hb x (by simp [hx]), hls⟩)
      have hmb := h2 b (by simp)
      refine ⟨?_, fun x hx => ?_, fun x hx hlt => ?_⟩
      · rcases List.mem_cons.1 h1 with h | h
        · rw [h]; simp
        · exact List.mem_cons_of_mem _ (List.mem_cons_of_mem _ h)
      · rcases List.mem_cons.1 hx with rfl | hx
        · exact hmb
        · rcases List.mem_cons.1 hx with rfl | hx
          · exact hw.pass _ _ _ e hmb
          · exact h2 x (by simp [hx])
      · rcases List.mem_cons.1 hx with rfl | hx
        · exact h3 x (by simp) hlt
        · rcases List.mem_cons.1 hx with rfl | hx
          · rcases List.mem_cons.1 h1 with h | h
            · rw [h] at hlt; exact absurd (lexLt_trans hlt (hb x (by simp))) (lexLt_irrefl _)
            · exact hw.less_pass e (h3 b (by simp) (hb _ (by simp [h])))
          · exact h3 x (by simp [hx]) hlt

theorem firstOf_unique {lt : List Nat → List Nat → Bool} (hw : Weak lt) {ls : List (List Nat)} {b x : List Nat} (hp : (b :: ls).Pairwise lexLt) (hn : ∀ l ∈ b :: ls, l.length = x.length) (hx : x ∈ b :: ls)
    (h1 : ∀ l ∈ b :: ls, lt l x = false) (h2 : ∀ l ∈ b :: ls, lexLt l x → lt x l = true) : firstOf lt ls b = x := by
  obtain ⟨g1, g2, g3⟩ := firstOf_spec hw ls b hp
  rcases lexLt_total (hn _ g1) with h | h | h
  · have := h2 _ g1 h; rw [g2 x hx] at this; exact absurd this (by decide)
  · exact h
  · have := g3 x hx h; rw [h1 _ g1] at this; exact absurd this (by decide)

/-- The order of lists, to be computed. -/
def lexB : List Nat → List Nat → Bool
  | a :: l, b :: m => decide (a < b) || (decide (a = b) && lexB l m)
  | _, _ => false
theorem lexB_iff : ∀ {l m : List Nat}, lexB l m = true ↔ lexLt l m
  | [], _ => by simp [lexB, lexLt]
  | _ :: _, [] => by simp [lexB, lexLt]
  | a :: l, b :: m => by simp [lexB, lexLt, lexB_iff (l := l) (m := m)]

/-- By a measure that is a list, all of one length. -/
theorem weak_lex (g : List Nat → List Nat) (n : Nat) (hg : ∀ l, (g l).length = n) : Weak fun a b => lexB (g a) (g b) where
  asymm a b h := by
    cases e : lexB (g b) (g a) with
    | false => rfl
    | true => exact absurd (lexLt_trans (lexB_iff.1 h) (lexB_iff.1 e)) (lexLt_irrefl _)
  pass a b c h1 h2 := by
    cases e : lexB (g a) (g c) with
    | false => rfl
    | true =>
      have e := lexB_iff.1 e
      rcases lexLt_total (a := g a) (b := g b) (by rw [hg, hg]) with h | h | h
      · rw [lexB_iff.2 h] at h1; exact absurd h1 (by decide)
      · rw [h] at e; rw [lexB_iff.2 e] at h2; exact absurd h2 (by decide)
      · rw [lexB_iff.2 (lexLt_trans h e)] at h2; exact absurd h2 (by decide)
end Go.Proofs.Ytfobdlllghpelaa.Pair

/-! Pairings by sets of columns that are numbers: what is left of a pairing, how many ways, the way with a number, the first of the least. It knows no program. -/
namespace Go.Proofs.Ytfobdlllghpelaa.Pair

/-- Without a number. -/
def clr (S j : Nat) : Nat := if S.testBit j then S ^^^ 2 ^ j else S
theorem clr_bit (S j i : Nat) : (clr S j).testBit i = (S.testBit i && !decide (i = j)) := by
  unfold clr
  by_cases h : S.testBit j = true
  · rw [if_pos h, Nat.testBit_xor, Nat.testBit_two_pow]
    by_cases e : i = j
    · subst e; simp [h]
    · simp [e, Ne.symm e]
  · rw [if_neg h]
    by_cases e : i = j
    · subst e; simp_all
    · simp [e]
theorem clr_lt {S j n : Nat} (h : S < 2 ^ n) : clr S j < 2 ^ n := by
  refine Nat.lt_pow_two_of_testBit _ fun i hi => ?_
  rw [clr_bit, Nat.testBit_lt_two_pow (Nat.lt_of_lt_of_le h (Nat.pow_le_pow_right (by decide) hi))]; rfl
theorem full_bit (n j : Nat) : (2 ^ n - 1).testBit j = decide (j < n) := Nat.testBit_two_pow_sub_one n j

/-- What is left of the allowed pairings, when `k` rows are left and the columns `S`. -/
def sufs (ok : Nat → Nat → Bool) (n : Nat) : Nat → Nat → List (List Nat)
  | 0, _ => [[]]
  | k + 1, S => (List.range n).flatMap fun j => if S.testBit j && ok (n - (k + 1)) j then (sufs ok n k (clr S j)).map (j :: ·) else []

theorem alwP_sufs (ok : Nat → Nat → Bool) (n : Nat) : ∀ (k : Nat) (f : List Nat) (S : Nat), k ≤ n → f.length = n - k → (∀ j, j < n → (S.testBit j = true ↔ j ∉ f)) →
    alwP ok n k f = (sufs ok n k S).map (f ++ ·)
  | 0, f, S, _, _, _ => by simp [alwP, sufs]
  | k + 1, f, S, hk, hl, h => by
    rw [alwP, sufs, List.map_flatMap, hl]
    have e : ∀ a ∈ List.range n, (if a ∈ f ∨ ok (n - (k + 1)) a = false then [] else alwP ok n k (f ++ [a])) =
        ((if S.testBit a && ok (n - (k + 1)) a then (sufs ok n k (clr S a)).map (a :: ·) else []).map (f ++ ·)) := by
      intro j hj
      have hj := List.mem_range.1 hj
      by_cases e : j ∈ f
      · have : S.testBit j = false := by
          cases e2 : S.testBit j with
          | false => rfl
          | true => exact absurd e ((h j hj).1 e2)
        simp [e, this]
      · have e2 : S.testBit j = true := (h j hj).2 e
        cases e3 : ok (n - (k + 1)) j with
        | false => simp
        | true =>
          rw [if_neg (by simp [e]), if_pos (by simp [e2])]
          rw [alwP_sufs ok n k (f ++ [j]) (clr S j) (by omega) (by simp; omega) (fun x hx => by
            rw [clr_bit]; simp [h x hx])]
          rw [List.map_map]
          congr 1
          funext l
          simp
    have : ∀ (l : List Nat) (F G : Nat → List (List Nat)), (∀ a ∈ l, F a = G a) → l.flatMap F = l.flatMap G := by
      intro l F G hl
      induction l with
      | nil => rfl
      | cons a l ih => rw [List.flatMap_cons, List.flatMap_cons, hl a (by simp), ih fun b hb => hl b (by simp [hb])]
    exact this _ _ _ e

theorem allP_alwP (n : Nat) : ∀ (k : Nat) (f : List Nat), allP n k f = alwP (fun _ _ => true) n k f
  | 0, _ => rfl
  | k + 1, f => by
    rw [allP, alwP]
    congr 1
    funext j
    by_cases e : j ∈ f
    · simp [e]
    · rw [if_neg e, if_neg (by simp [e]), allP_alwP n k]

/-- All pairings, by what is left of none. -/
theorem allP_all (n : Nat) : allP n n [] = sufs (fun _ _ => true) n n (2 ^ n - 1) := by
  rw [allP_alwP, alwP_sufs _ n n [] (2 ^ n - 1) (Nat.le_refl _) (by simp) (fun j hj => by rw [full_bit]; simp [hj])]
  simp
theorem alwP_all (ok : Nat → Nat → Bool) (n : Nat) : (allP n n []).filter (okL ok 0) = sufs ok n n (2 ^ n - 1) := by
  rw [alwP_filter ok n n [] rfl, alwP_sufs _ n n [] (2 ^ n - 1) (Nat.le_refl _) (by simp) (fun j hj => by rw [full_bit]; simp [hj])]
  simp

/-- How many ways. -/
def cw (ok : Nat → Nat → Bool) (n : Nat) : Nat → Nat → Nat
  | 0, _ => 1
  | k + 1, S => ((List.range n).map fun j => if S.testBit j && ok (n - (k + 1)) j then cw ok n k (clr S j) else 0).sum
theorem sufs_length (ok : Nat → Nat → Bool) (n : Nat) : ∀ (k S : Nat), (sufs ok n k S).length = cw ok n k S
  | 0, _ => rfl
  | k + 1, S => by
    rw [sufs, cw, List.length_flatMap]
    congr 1
    refine List.map_congr_left fun j _ => ?_
    split
    · rw [List.length_map, sufs_length ok n k]
    · rfl
theorem sum_le_mul (f : Nat → Nat) (b : Nat) : ∀ (l : List Nat), (∀ j ∈ l, f j ≤ b) → (l.map f).sum ≤ l.length * b
  | [], _ => by simp
  | a :: l, h => by
    rw [List.map_cons, List.sum_cons, List.length_cons, Nat.succ_mul]
    have := sum_le_mul f b l fun j hj => h j (by simp [hj])
    have := h a (by simp)
    omega
theorem cw_bd (ok : Nat → Nat → Bool) (n : Nat) : ∀ (k S : Nat), cw ok n k S ≤ n ^ k
  | 0, _ => by simp [cw]
  | k + 1, S => by
    rw [cw]
    refine Nat.le_trans (sum_le_mul _ (n ^ k) _ fun j _ => ?_) (by rw [List.length_range, Nat.pow_succ, Nat.mul_comm]; exact Nat.le_refl _)
    show (if S.testBit j && ok (n - (k + 1)) j then cw ok n k (clr S j) else 0) ≤ _
    split
    · exact cw_bd ok n k _
    · omega

/-! ## The search -/
/-- The first free column that fits a row; each one asked turns the state. -/
def tryC {σ : Type} (dec : σ → Nat → Nat → Nat → Bool) (nxt : σ → Nat → Nat → Nat → σ) (i S : Nat) : List Nat → σ → Option (Nat × σ)
  | [], _ => none
  | j :: js, s => if S.testBit j then (if dec s i j (clr S j) then some (j, nxt s i j (clr S j)) else tryC dec nxt i S js (nxt s i j (clr S j))) else tryC dec nxt i S js s
/-- The pairing that the search finds for the last `k` rows. -/
def srch {σ : Type} (dec : σ → Nat → Nat → Nat → Bool) (nxt : σ → Nat → Nat → Nat → σ) (n : Nat) : Nat → Nat → σ → Option (List Nat)
  | 0, _, _ => some []
  | k + 1, S, s => match tryC dec nxt (n - (k + 1)) S (List.range n) s with
    | none => none
    | some (j, s') => (srch dec nxt n k (clr S j) s').map (j :: ·)

/-- By numbers: whole columns are passed over. -/
def decA (ok : Nat → Nat → Bool) (n : Nat) (r i j T : Nat) : Bool := ok i j && decide (r < cw ok n (n - (i + 1)) T)
def nxtA (ok : Nat → Nat → Bool) (n : Nat) (r i j T : Nat) : Nat := if ok i j && !decide (r < cw ok n (n - (i + 1)) T) then r - cw ok n (n - (i + 1)) T else r

theorem tryA (ok : Nat → Nat → Bool) (n k S : Nat) (hk : k + 1 ≤ n) : ∀ (js : List Nat) (r : Nat),
    (match tryC (decA ok n) (nxtA ok n) (n - (k + 1)) S js r with
      | none => none
      | some (j, s') => ((sufs ok n k (clr S j))[s']?).map (j :: ·)) =
    (js.flatMap fun j => if S.testBit j && ok (n - (k + 1)) j then (sufs ok n k (clr S j)).map (j :: ·) else [])[r]? := by
  have hkn : n - (n - (k + 1) + 1) = k := by omega
  intro js
  induction js with
  | nil => intro r; simp [tryC]
  | cons j js ih =>
    intro r
    rw [tryC, List.flatMap_cons]
    by_cases h1 : S.testBit j = true
    · rw [if_pos h1]
      by_cases h2 : ok (n - (k + 1)) j = true
      · by_cases h3 : r < cw ok n k (clr S j)
        · have : decA ok n r (n - (k + 1)) j (clr S j) = true := by simp [decA, hkn, h2, h3]
          rw [if_pos this]
          have e : nxtA ok n r (n - (k + 1)) j (clr S j) = r := by simp [nxtA, hkn, h3]
          simp only [e]
          rw [if_pos (by simp [h1, h2]), List.getElem?_append_left (by rw [List.length_map, sufs_length]; exact h3), List.getElem?_map]
        · have : ¬ decA ok n r (n - (k + 1)) j (clr S j) = true := by simp [decA, hkn, h3]
          rw [if_neg this]
          have e : nxtA ok n r (n - (k + 1)) j (clr S j) = r - cw ok n k (clr S j) := by simp [nxtA, hkn, h2, h3]
          rw [e, ih, if_pos (by simp [h1, h2]), List.getElem?_append_right (by rw [List.length_map, sufs_length]; omega), List.length_map, sufs_length]
      · have h2 : ok (n - (k + 1)) j = false := by simpa using h2
        have : ¬ decA ok n r (n - (k + 1)) j (clr S j) = true := by simp [decA, h2]
        rw [if_neg this]
        have e : nxtA ok n r (n - (k + 1)) j (clr S j) = r := by simp [nxtA, h2]
        rw [e, ih, if_neg (by simp [h2])]; simp
    · have h1 : S.testBit j = false := by simpa using h1
      rw [if_neg (by simp [h1]), ih, if_neg (by simp [h1])]; simp

theorem srchA (ok : Nat → Nat → Bool) (n : Nat) : ∀ (k S r : Nat), k ≤ n → (0 < k ∨ r = 0) → srch (decA ok n) (nxtA ok n) n k S r = (sufs ok n k S)[r]?
  | 0, S, r, _, h => by
    obtain rfl : r = 0 := by omega
    simp [srch, sufs]
  | k + 1, S, r, hk, _ => by
    rw [srch, sufs, ← tryA ok n k S hk]
    have hin : ∀ (js : List Nat) (r j s' : Nat), tryC (decA ok n) (nxtA ok n) (n - (k + 1)) S js r = some (j, s') → s' < cw ok n k (clr S j) := by
      have hkn : n - (n - (k + 1) + 1) = k := by omega
      intro js
      induction js with
      | nil => intro r j s' h; simp [tryC] at h
      | cons a js ih =>
        intro r j s' h
        rw [tryC] at h
        split at h
        · split at h
          next hd =>
            simp only [Option.some.injEq, Prod.mk.injEq] at h
            obtain ⟨rfl, rfl⟩ := h
            simp only [decA, hkn, Bool.and_eq_true, decide_eq_true_eq] at hd
            simp [nxtA, hkn, hd.2]
          next => exact ih _ _ _ h
        · exact ih _ _ _ h
    cases e : tryC (decA ok n) (nxtA ok n) (n - (k + 1)) S (List.range n) r with
    | none => rfl
    | some p =>
      obtain ⟨j, s'⟩ := p
      simp only
      rw [srchA ok n k (clr S j) s' (by omega) (by
        have := hin _ _ _ _ e
        cases k with
        | zero => simp [cw] at this; omega
        | succ k => exact Or.inl (by omega))]
end Go.Proofs.Ytfobdlllghpelaa.Pair

namespace Go.Proofs.Ytfobdlllghpelaa.Pair
/-! ## The least measure, set by set -/
section Opt
variable {M : Type} [DecidableEq M] (lt : M → M → Bool) (wi : M → Int → M) (m0 : M) (c : Nat → Nat → Int)

/-- One more is offered: it is taken if it is the first, or less. -/
def offer (b : Option M) (x : M) : Option M := match b with
  | none => some x
  | some y => if lt x y then some x else some y
/-- The measure of what is left, for columns that are enough. -/
def opt (n : Nat) : Nat → Nat → M
  | 0, _ => m0
  | k + 1, S => ((((List.range n).filter fun j => S.testBit j).map fun j => wi (opt n k (clr S j)) (c (n - (k + 1)) j)).foldl (offer lt) none).getD m0
/-- The measure of a list of columns from row `i` on. -/
def ms : Nat → List Nat → M
  | _, [] => m0
  | i, a :: l => wi (ms (i + 1) l) (c i a)

structure Meas (n : Nat) (D : Nat → M → Prop) : Prop where
  zero : D 0 m0
  step : ∀ k m i j, k < n → i < n → j < n → D k m → D (k + 1) (wi m (c i j))
  tri : ∀ k a b, D k a → D k b → lt a b = true ∨ a = b ∨ lt b a = true
  asymm : ∀ a b, lt a b = true → lt b a = false
  trans : ∀ a b d, lt a b = true → lt b d = true → lt a d = true
  mono : ∀ k a b i j, k < n → i < n → j < n → D k a → D k b → lt a b = true → lt (wi a (c i j)) (wi b (c i j)) = true

def decO (n : Nat) (s i j T : Nat) : Bool := decide (wi (opt lt wi m0 c n (n - (i + 1)) T) (c i j) = opt lt wi m0 c n (n - i) s)
def nxtO (n : Nat) (s i j T : Nat) : Nat := if decO lt wi m0 c n s i j T then T else s

variable {lt wi m0 c}
omit [DecidableEq M] in
theorem Meas.irr {n : Nat} {D : Nat → M → Prop} (h : Meas lt wi m0 c n D) (a : M) : lt a a = false := by
  cases e : lt a a with
  | false => rfl
  | true => have := h.asymm a a e; rw [e] at this; exact this

omit [DecidableEq M] in
/-- What is offered leaves one that is offered, and none is less. -/
theorem offers {n : Nat} {D : Nat → M → Prop} (h : Meas lt wi m0 c n D) (k : Nat) : ∀ (l : List M) (b : M), D k b → (∀ x ∈ l, D k x) →
    ∃ r, l.foldl (offer lt) (some b) = some r ∧ D k r ∧ (r = b ∨ r ∈ l) ∧ lt b r = false ∧ ∀ x ∈ l, lt x r = false
  | [], b, hb, _ => ⟨b, rfl, hb, Or.inl rfl, h.irr b, by simp⟩
  | x :: l, b, hb, hl => by
    rw [List.foldl_cons, offer]
    by_cases e : lt x b = true
    · rw [if_pos e]
      obtain ⟨r, h1, h2, h3, h4, h5⟩ := offers h k l x (hl x (by simp)) (fun y hy => hl y (by simp [hy]))
      refine ⟨r, h1, h2, Or.inr ?_, ?_, ?_⟩
      · rcases h3 with h3 | h3
        · simp [h3]
        · simp [h3]
      · rcases h3 with rfl | h3
        · exact h.asymm _ _ e
        · cases e2 : lt b r with
          | false => rfl
          | true => have := h.trans _ _ _ e e2; rw [h4] at this; simp at this
      · intro y hy
        rcases List.mem_cons.1 hy with rfl | hy
        · exact h4
        · exact h5 y hy
    · rw [if_neg e]
      have e : lt x b = false := by simpa using e
      obtain ⟨r, h1, h2, h3, h4, h5⟩ := offers h k l b hb (fun y hy => hl y (by simp [hy]))
      refine ⟨r, h1, h2, ?_, h4, ?_⟩
      · rcases h3 with h3 | h3
        · exact Or.inl h3
        · exact Or.inr (by simp [h3])
      · intro y hy
        rcases List.mem_cons.1 hy with rfl | hy
        · cases e2 : lt y r with
          | false => rfl
          | true =>
            rcases h.tri k y b (hl y (by simp)) hb with e3 | e3 | e3
            · rw [e] at e3; simp at e3
            · rw [e3, h4] at e2; simp at e2
            · have := h.trans _ _ _ e3 e2; rw [h4] at this; simp at this
        · exact h5 y hy

/-- How many columns there are. -/
def sz (n S : Nat) : Nat := ((List.range n).filter fun j => S.testBit j).length
theorem sz_clr {n S j : Nat} (hj : j < n) (h : S.testBit j = true) : sz n (clr S j) + 1 = sz n S := by
  have key : ∀ m, (((List.range m).filter fun i => (clr S j).testBit i).length) + (if j < m then 1 else 0) = ((List.range m).filter fun i => S.testBit i).length := by
    intro m
    induction m with
    | zero => simp
    | succ m ih =>
      rw [List.range_succ, List.filter_append, List.filter_append, List.length_append, List.length_append, ← ih]
      simp only [List.filter_cons, List.filter_nil, clr_bit]
      by_cases e : m = j
      · subst e; simp [h]
      · by_cases e2 : j < m
        · have : j < m + 1 := by omega
          simp [e, e2, this]; split <;> simp <;> omega
        · have : ¬ j < m + 1 := by omega
          simp [e, e2, this]
  have := key n
  rw [if_pos hj] at this
  exact this

omit [DecidableEq M] in
/-- The least measure, and that it is one. -/
theorem opt_spec {n : Nat} {D : Nat → M → Prop} (h : Meas lt wi m0 c n D) : ∀ (k S : Nat), k ≤ n → sz n S = k → D k (opt lt wi m0 c n k S) ∧
    (∀ l ∈ sufs (fun _ _ => true) n k S, D k (ms wi m0 c (n - k) l) ∧ lt (ms wi m0 c (n - k) l) (opt lt wi m0 c n k S) = false) ∧
    (0 < k → ∃ j, j < n ∧ S.testBit j = true ∧ opt lt wi m0 c n k S = wi (opt lt wi m0 c n (k - 1) (clr S j)) (c (n - k) j)) ∧
    (∀ j, j < n → S.testBit j = true → 0 < k → lt (wi (opt lt wi m0 c n (k - 1) (clr S j)) (c (n - k) j)) (opt lt wi m0 c n k S) = false)
  | 0, S, _, _ => ⟨h.zero, fun l hl => by
      simp [sufs] at hl; subst hl; exact ⟨h.zero, h.irr _⟩, fun h => by omega, fun _ _ _ h => by omega⟩
  | k + 1, S, hk, hS => by
    have hsub : ∀ j, j < n → S.testBit j = true → sz n (clr S j) = k := fun j hj hb => by have := sz_clr hj hb; omega
    have hD : ∀ j, j < n → S.testBit j = true → D (k + 1) (wi (opt lt wi m0 c n k (clr S j)) (c (n - (k + 1)) j)) := fun j hj hb =>
      h.step k _ _ j (by omega) (by omega) hj (opt_spec h k (clr S j) (by omega) (hsub j hj hb)).1
    have key : ∃ r, opt lt wi m0 c n (k + 1) S = r ∧ D (k + 1) r ∧ (∃ j, j < n ∧ S.testBit j = true ∧ r = wi (opt lt wi m0 c n k (clr S j)) (c (n - (k + 1)) j)) ∧
        ∀ j, j < n → S.testBit j = true → lt (wi (opt lt wi m0 c n k (clr S j)) (c (n - (k + 1)) j)) r = false := by
      rw [opt]
      unfold sz at hS
      have hmem : ∀ j, j ∈ ((List.range n).filter fun j => S.testBit j) ↔ j < n ∧ S.testBit j = true := fun j => by simp [List.mem_filter]
      cases e : ((List.range n).filter fun j => S.testBit j) with
      | nil => rw [e] at hS; simp at hS
      | cons a l =>
        rw [e] at hmem
        rw [List.map_cons, List.foldl_cons, offer]
        obtain ⟨ha1, ha2⟩ := (hmem a).1 (by simp)
        obtain ⟨r, h1, h2, h3, h4, h5⟩ := offers h (k + 1) (l.map fun j => wi (opt lt wi m0 c n k (clr S j)) (c (n - (k + 1)) j)) _ (hD a ha1 ha2) (fun x hx => by
          obtain ⟨j, hj, rfl⟩ := List.mem_map.1 hx
          obtain ⟨hj1, hj2⟩ := (hmem j).1 (by simp [hj])
          exact hD j hj1 hj2)
        refine ⟨r, by rw [h1]; rfl, h2, ?_, ?_⟩
        · rcases h3 with h3 | h3
          · exact ⟨a, ha1, ha2, h3⟩
          · obtain ⟨j, hj, rfl⟩ := List.mem_map.1 h3
            obtain ⟨hj1, hj2⟩ := (hmem j).1 (by simp [hj])
            exact ⟨j, hj1, hj2, rfl⟩
        · intro j hj1 hj2
          rcases List.mem_cons.1 ((hmem j).2 ⟨hj1, hj2⟩) with rfl | hj
          · exact h4
          · exact h5 _ (List.mem_map_of_mem hj)
    obtain ⟨r, hr, h1, ⟨a, ha1, ha2, ha3⟩, h3⟩ := key
    rw [hr]
    refine ⟨h1, fun l hl => ?_, fun _ => ⟨a, ha1, ha2, ha3⟩, fun j hj1 hj2 _ => h3 j hj1 hj2⟩
    rw [sufs, List.mem_flatMap] at hl
    obtain ⟨j, hj, hl⟩ := hl
    have hj := List.mem_range.1 hj
    by_cases hb : S.testBit j = true
    · rw [if_pos (by simp [hb]), List.mem_map] at hl
      obtain ⟨l', hl', rfl⟩ := hl
      obtain ⟨g1, g2, _⟩ := opt_spec h k (clr S j) (by omega) (hsub j hj hb)
      obtain ⟨g3, g4⟩ := g2 l' hl'
      rw [ms, show n - (k + 1) + 1 = n - k by omega]
      refine ⟨h.step k _ _ j (by omega) (by omega) hj g3, ?_⟩
      have g5 := h3 j hj hb
      rcases h.tri k _ _ g3 g1 with e | e | e
      · rw [g4] at e; simp at e
      · rw [e]; exact g5
      · have g6 := h.mono k _ _ (n - (k + 1)) j (by omega) (by omega) hj g1 g3 e
        cases e2 : lt (wi (ms wi m0 c (n - k) l') (c (n - (k + 1)) j)) r with
        | false => rfl
        | true => have := h.trans _ _ _ g6 e2; rw [g5] at this; simp at this
    · rw [if_neg (by simp [hb])] at hl; simp at hl

/-- The first column that fits, of those that the measure is reached with. -/
theorem tryO {n : Nat} (k S : Nat) (hk : k + 1 ≤ n) : ∀ (js : List Nat), js.Pairwise (· < ·) → (∀ j ∈ js, j < n) →
    (∃ j ∈ js, S.testBit j = true ∧ opt lt wi m0 c n (k + 1) S = wi (opt lt wi m0 c n k (clr S j)) (c (n - (k + 1)) j)) →
    ∃ j ∈ js, S.testBit j = true ∧ opt lt wi m0 c n (k + 1) S = wi (opt lt wi m0 c n k (clr S j)) (c (n - (k + 1)) j) ∧
      tryC (decO lt wi m0 c n) (nxtO lt wi m0 c n) (n - (k + 1)) S js S = some (j, clr S j) ∧
      ∀ j' ∈ js, j' < j → S.testBit j' = true → opt lt wi m0 c n (k + 1) S ≠ wi (opt lt wi m0 c n k (clr S j')) (c (n - (k + 1)) j')
  | [], _, _, h => by obtain ⟨j, hj, _⟩ := h; simp at hj
  | a :: js, hp, hn, h => by
    rw [List.pairwise_cons] at hp
    have hkn : n - (n - (k + 1) + 1) = k := by omega
    have hkn2 : n - (n - (k + 1)) = k + 1 := by omega
    have hd : ∀ j, decO lt wi m0 c n S (n - (k + 1)) j (clr S j) = true ↔ opt lt wi m0 c n (k + 1) S = wi (opt lt wi m0 c n k (clr S j)) (c (n - (k + 1)) j) := fun j => by
      unfold decO; rw [hkn, hkn2, decide_eq_true_iff]; exact eq_comm
    by_cases e1 : S.testBit a = true
    · by_cases e2 : opt lt wi m0 c n (k + 1) S = wi (opt lt wi m0 c n k (clr S a)) (c (n - (k + 1)) a)
      · refine ⟨a, by simp, e1, e2, ?_, ?_⟩
        · rw [tryC, if_pos e1, if_pos ((hd a).2 e2)]
          simp [nxtO, (hd a).2 e2]
        · intro j' hj' hlt
          rcases List.mem_cons.1 hj' with rfl | hj'
          · omega
          · have := hp.1 j' hj'; omega
      · obtain ⟨j, hj, h1, h2, h3, h4⟩ := tryO k S hk js hp.2 (fun j hj => hn j (by simp [hj])) (by
          obtain ⟨j, hj, h1, h2⟩ := h
          rcases List.mem_cons.1 hj with rfl | hj
          · exact absurd h2 e2
          · exact ⟨j, hj, h1, h2⟩)
        refine ⟨j, by simp [hj], h1, h2, ?_, fun j' hj' hlt hb => ?_⟩
        · rw [tryC, if_pos e1, if_neg (fun e => e2 ((hd a).1 e))]
          have : nxtO lt wi m0 c n S (n - (k + 1)) a (clr S a) = S := by
            unfold nxtO; rw [if_neg (fun e => e2 ((hd a).1 e))]
          rw [this]; exact h3
        · rcases List.mem_cons.1 hj' with rfl | hj'
          · exact e2
          · exact h4 j' hj' hlt hb
    · obtain ⟨j, hj, h1, h2, h3, h4⟩ := tryO k S hk js hp.2 (fun j hj => hn j (by simp [hj])) (by
        obtain ⟨j, hj, h1, h2⟩ := h
        rcases List.mem_cons.1 hj with rfl | hj
        · exact absurd h1 e1
        · exact ⟨j, hj, h1, h2⟩)
      refine ⟨j, by simp [hj], h1, h2, by rw [tryC, if_neg e1]; exact h3, fun j' hj' hlt hb => ?_⟩
      rcases List.mem_cons.1 hj' with rfl | hj'
      · exact absurd hb e1
      · exact h4 j' hj' hlt hb

/-- The search finds the first of the least. -/
theorem srchO {n : Nat} {D : Nat → M → Prop} (h : Meas lt wi m0 c n D) : ∀ (k S : Nat), k ≤ n → sz n S = k →
    ∃ x, srch (decO lt wi m0 c n) (nxtO lt wi m0 c n) n k S S = some x ∧ x ∈ sufs (fun _ _ => true) n k S ∧ ms wi m0 c (n - k) x = opt lt wi m0 c n k S ∧
      ∀ l ∈ sufs (fun _ _ => true) n k S, lexLt l x → lt (opt lt wi m0 c n k S) (ms wi m0 c (n - k) l) = true
  | 0, S, _, _ => ⟨[], rfl, by simp [sufs], rfl, fun l _ hlt => by cases l <;> simp [lexLt] at hlt⟩
  | k + 1, S, hk, hS => by
    have hsub : ∀ j, j < n → S.testBit j = true → sz n (clr S j) = k := fun j hj hb => by have := sz_clr hj hb; omega
    obtain ⟨_, _, h3, h4⟩ := opt_spec h (k + 1) S hk hS
    obtain ⟨a, ha1, ha2, ha3⟩ := h3 (by omega)
    obtain ⟨j, hj, g1, g2, g3, g4⟩ := tryO (lt := lt) (wi := wi) (m0 := m0) (c := c) k S hk (List.range n) List.pairwise_lt_range (fun j hj => List.mem_range.1 hj) ⟨a, List.mem_range.2 ha1, ha2, ha3⟩
    have hj := List.mem_range.1 hj
    obtain ⟨x, x1, x2, x3, x4⟩ := srchO h k (clr S j) (by omega) (hsub j hj g1)
    obtain ⟨q1, q2, _⟩ := opt_spec h k (clr S j) (by omega) (hsub j hj g1)
    refine ⟨j :: x, ?_, ?_, ?_, ?_⟩
    · rw [srch, g3]; simp only; rw [x1]; rfl
    · rw [sufs, List.mem_flatMap]
      refine ⟨j, List.mem_range.2 hj, ?_⟩
      rw [if_pos (by simp [g1])]
      exact List.mem_map_of_mem x2
    · rw [ms, show n - (k + 1) + 1 = n - k by omega, x3, g2]
    · intro l hl hlt
      rw [sufs, List.mem_flatMap] at hl
      obtain ⟨j', hj', hl⟩ := hl
      have hj' := List.mem_range.1 hj'
      by_cases hb : S.testBit j' = true
      · rw [if_pos (by simp [hb]), List.mem_map] at hl
        obtain ⟨l', hl', rfl⟩ := hl
        rw [ms, show n - (k + 1) + 1 = n - k by omega]
        obtain ⟨p1, p2, _⟩ := opt_spec h k (clr S j') (by omega) (hsub j' hj' hb)
        obtain ⟨p3, p4⟩ := p2 l' hl'
        rcases hlt with hlt | ⟨rfl, hlt⟩
        · have hne := g4 j' (List.mem_range.2 hj') hlt hb
          have hge := h4 j' hj' hb (by omega)
          simp only [Nat.add_sub_cancel] at hge
          have hD' := h.step k _ (n - (k + 1)) j' (by omega) (by omega) hj' p1
          have hlt2 : lt (opt lt wi m0 c n (k + 1) S) (wi (opt lt wi m0 c n k (clr S j')) (c (n - (k + 1)) j')) = true := by
            rcases h.tri (k + 1) _ _ (opt_spec h (k + 1) S hk hS).1 hD' with e | e | e
            · exact e
            · exact absurd e hne
            · rw [hge] at e; simp at e
          rcases h.tri k _ _ p1 p3 with e | e | e
          · exact h.trans _ _ _ hlt2 (h.mono k _ _ _ _ (by omega) (by omega) hj' p1 p3 e)
          · rw [← e]; exact hlt2
          · rw [p4] at e; simp at e
        · have e := x4 l' hl' hlt
          rw [g2]
          exact h.mono k _ _ _ _ (by omega) (by omega) hj' p1 p3 e
      · rw [if_neg (by simp [hb])] at hl; simp at hl
end Opt
end Go.Proofs.Ytfobdlllghpelaa.Pair
