/-! Disputes: sets of claims as numbers; what is admissible, complete, preferred, stable, semi-stable, granted, ideal; the core; ways around. -/
namespace Cl

theorem fold_bit {α : Type} (l : List α) (c : α → Bool) (f : α → Nat) (m j : Nat) :
    (l.foldl (fun m x => if c x then m ||| f x else m) m).testBit j = (m.testBit j || l.any fun x => c x && (f x).testBit j) := by
  induction l generalizing m with
  | nil => simp
  | cons x l ih =>
    rw [List.foldl_cons, ih, List.any_cons]
    cases h : c x
    · simp
    · simp [Nat.testBit_or, Bool.or_assoc]
theorem fold_lt {α : Type} {n : Nat} (l : List α) (c : α → Bool) (f : α → Nat) (m : Nat) (hm : m < 2 ^ n) (h : ∀ x ∈ l, c x = true → f x < 2 ^ n) :
    l.foldl (fun m x => if c x then m ||| f x else m) m < 2 ^ n := by
  induction l generalizing m with
  | nil => exact hm
  | cons x l ih =>
    rw [List.foldl_cons]
    apply ih
    · cases e : c x
      · simpa using hm
      · simpa using Nat.or_lt_two_pow hm (h x (by simp) e)
    · exact fun y hy => h y (by simp [hy])

/-- The numbers of a set of numbers below 12, rising. -/
def bl (S : Nat) : List Nat := (List.range 12).filter fun j => S.testBit j
theorem mem_bl {S i : Nat} : i ∈ bl S ↔ i < 12 ∧ S.testBit i = true := by simp [bl]
theorem far {n S j : Nat} (hS : S < 2 ^ n) (hj : n ≤ j) : S.testBit j = false := Nat.testBit_lt_two_pow (Nat.lt_of_lt_of_le hS (Nat.pow_le_pow_right (by decide) hj))
theorem near {n S j : Nat} (hS : S < 2 ^ n) (hj : S.testBit j = true) : j < n := by
  rcases Nat.lt_or_ge j n with h | h
  · exact h
  · rw [far hS h] at hj; cases hj
/-- The bit alone. -/
theorem two_bit {i j : Nat} : (2 ^ i).testBit j = decide (i = j) := Nat.testBit_two_pow

abbrev Atts := List (Nat × Nat)
/-- What claim `i` attacks, and what attacks claim `j`. -/
def tg (L : Atts) (i : Nat) : Nat := L.foldl (fun m p => if p.1 == i then m ||| 2 ^ p.2 else m) 0
def ag (L : Atts) (j : Nat) : Nat := L.foldl (fun m p => if p.2 == j then m ||| 2 ^ p.1 else m) 0
theorem tg_bit {L : Atts} {i j : Nat} : (tg L i).testBit j = true ↔ (i, j) ∈ L := by
  unfold tg
  rw [fold_bit]
  simp only [Nat.zero_testBit, Bool.false_or, List.any_eq_true, Bool.and_eq_true, beq_iff_eq, two_bit, decide_eq_true_eq]
  constructor
  · rintro ⟨⟨a, b⟩, h, rfl, rfl⟩; exact h
  · intro h; exact ⟨(i, j), h, rfl, rfl⟩
theorem ag_bit {L : Atts} {i j : Nat} : (ag L j).testBit i = true ↔ (i, j) ∈ L := by
  unfold ag
  rw [fold_bit]
  simp only [Nat.zero_testBit, Bool.false_or, List.any_eq_true, Bool.and_eq_true, beq_iff_eq, two_bit, decide_eq_true_eq]
  constructor
  · rintro ⟨⟨a, b⟩, h, rfl, rfl⟩; exact h
  · intro h; exact ⟨(i, j), h, rfl, rfl⟩

/-- All attacks are among `n` claims. -/
def Within (n : Nat) (L : Atts) : Prop := ∀ p ∈ L, p.1 < n ∧ p.2 < n
theorem pow_lt {i n : Nat} (h : i < n) : 2 ^ i < 2 ^ n := Nat.pow_lt_pow_right (by decide) h
theorem tg_lt {n : Nat} {L : Atts} (h : Within n L) (i : Nat) : tg L i < 2 ^ n :=
  fold_lt _ _ _ _ (Nat.two_pow_pos n) fun p hp _ => pow_lt (h p hp).2
theorem ag_lt {n : Nat} {L : Atts} (h : Within n L) (i : Nat) : ag L i < 2 ^ n :=
  fold_lt _ _ _ _ (Nat.two_pow_pos n) fun p hp _ => pow_lt (h p hp).1
theorem tg_none {n : Nat} {L : Atts} (h : Within n L) {i : Nat} (hi : n ≤ i) : tg L i = 0 := by
  apply Nat.eq_of_testBit_eq
  intro j
  rw [Nat.zero_testBit]
  cases e : (tg L i).testBit j
  · rfl
  · have := (h _ (tg_bit.1 e)).1; simp at this; omega

/-- What a set attacks. -/
def un (f : Nat → Nat) (S : Nat) : Nat := (bl S).foldl (fun m i => m ||| f i) 0
theorem un_fold (f : Nat → Nat) (S : Nat) : un f S = (bl S).foldl (fun m i => if (fun _ => true) i = true then m ||| f i else m) 0 := rfl
theorem un_bit {f : Nat → Nat} {S j : Nat} : (un f S).testBit j = true ↔ ∃ i, i < 12 ∧ S.testBit i = true ∧ (f i).testBit j = true := by
  rw [un_fold, fold_bit]
  simp [mem_bl, and_assoc]
theorem un_lt {n : Nat} {f : Nat → Nat} {S : Nat} (h : ∀ i, f i < 2 ^ n) : un f S < 2 ^ n :=
  by rw [un_fold]; exact fold_lt _ _ _ _ (Nat.two_pow_pos n) fun i _ _ => h i
def hit (L : Atts) (S : Nat) : Nat := un (tg L) S
theorem hit_bit {L : Atts} {S j : Nat} (hS : S < 4096) : (hit L S).testBit j = true ↔ ∃ i, S.testBit i = true ∧ (i, j) ∈ L := by
  unfold hit
  rw [un_bit]
  constructor
  · rintro ⟨i, _, h, k⟩; exact ⟨i, h, tg_bit.1 k⟩
  · rintro ⟨i, h, k⟩; exact ⟨i, near (n := 12) hS h, h, tg_bit.2 k⟩
theorem hit_lt {n : Nat} {L : Atts} (h : Within n L) (S : Nat) : hit L S < 2 ^ n := un_lt fun i => tg_lt h i

theorem or_eq {a b : Nat} : a ||| b = a ↔ ∀ j, b.testBit j = true → a.testBit j = true := by
  constructor
  · intro h j hj
    rw [← h, Nat.testBit_or, hj, Bool.or_true]
  · intro h
    apply Nat.eq_of_testBit_eq
    intro j
    rw [Nat.testBit_or]
    cases e : b.testBit j
    · simp
    · simp [h j e]
theorem bits_eq {a b : Nat} (h : ∀ j, a.testBit j = true ↔ b.testBit j = true) : a = b := by
  apply Nat.eq_of_testBit_eq
  intro j
  have := h j
  cases ea : a.testBit j <;> cases eb : b.testBit j <;> simp_all

/-- The claims that a set defends. -/
def dfd (n : Nat) (L : Atts) (S : Nat) : Nat := (List.range n).foldl (fun m c => if hit L S ||| ag L c == hit L S then m ||| 2 ^ c else m) 0
theorem dfd_bit {n : Nat} {L : Atts} {S c : Nat} (hS : S < 4096) : (dfd n L S).testBit c = true ↔ c < n ∧ ∀ i, (i, c) ∈ L → ∃ k, S.testBit k = true ∧ (k, i) ∈ L := by
  unfold dfd
  rw [fold_bit]
  simp only [Nat.zero_testBit, Bool.false_or, List.any_eq_true, Bool.and_eq_true, beq_iff_eq, two_bit, decide_eq_true_eq, List.mem_range, or_eq]
  constructor
  · rintro ⟨c', h, h2, rfl⟩; exact ⟨h, fun i hi => (hit_bit hS).1 (h2 i (ag_bit.2 hi))⟩
  · rintro ⟨h, h2⟩; exact ⟨c, h, fun i hi => (hit_bit hS).2 (h2 i (ag_bit.1 hi)), rfl⟩
theorem dfd_lt (n : Nat) (L : Atts) (S : Nat) : dfd n L S < 2 ^ n :=
  fold_lt _ _ _ _ (Nat.two_pow_pos n) fun _i hi _ => pow_lt (List.mem_range.1 hi)

def freeB (L : Atts) (S : Nat) : Bool := hit L S &&& S == 0
def admB (n : Nat) (L : Atts) (S : Nat) : Bool := freeB L S && (dfd n L S ||| S == dfd n L S)
def comB (n : Nat) (L : Atts) (S : Nat) : Bool := freeB L S && (dfd n L S == S)
def staB (n : Nat) (L : Atts) (S : Nat) : Bool := hit L S == 2 ^ n - 1 - S

def Free (L : Atts) (S : Nat) : Prop := ∀ i j, S.testBit i = true → S.testBit j = true → (i, j) ∉ L
/-- Claim `c` is defended. -/
def Def (L : Atts) (S c : Nat) : Prop := ∀ i, (i, c) ∈ L → ∃ k, S.testBit k = true ∧ (k, i) ∈ L
def Inn (S O : Nat) : Prop := ∀ j, S.testBit j = true → O.testBit j = true
theorem free_iff {L : Atts} {S : Nat} (hS : S < 4096) : freeB L S = true ↔ Free L S := by
  unfold freeB Free
  rw [beq_iff_eq]
  constructor
  · intro h i j hi hj hl
    have : (hit L S &&& S).testBit j = true := by rw [Nat.testBit_and, hj, (hit_bit hS).2 ⟨i, hi, hl⟩]; rfl
    rw [h, Nat.zero_testBit] at this
    cases this
  · intro h
    apply Nat.eq_of_testBit_eq
    intro j
    rw [Nat.testBit_and, Nat.zero_testBit]
    cases e : S.testBit j
    · simp
    · rw [Bool.and_true]
      cases e2 : (hit L S).testBit j
      · rfl
      · obtain ⟨i, hi, hl⟩ := (hit_bit hS).1 e2
        exact absurd hl (h i j hi e)
theorem adm_iff {n : Nat} {L : Atts} {S : Nat} (hn : n ≤ 12) (hS : S < 2 ^ n) : admB n L S = true ↔ Free L S ∧ ∀ c, S.testBit c = true → Def L S c := by
  have h4 : S < 4096 := Nat.lt_of_lt_of_le hS (Nat.pow_le_pow_right (n := 2) (by decide) hn)
  unfold admB
  rw [Bool.and_eq_true, free_iff h4, beq_iff_eq, or_eq]
  constructor
  · rintro ⟨h, k⟩; exact ⟨h, fun c hc => ((dfd_bit h4).1 (k c hc)).2⟩
  · rintro ⟨h, k⟩; exact ⟨h, fun c hc => (dfd_bit h4).2 ⟨near hS hc, k c hc⟩⟩
theorem com_iff {n : Nat} {L : Atts} {S : Nat} (hn : n ≤ 12) (hS : S < 2 ^ n) : comB n L S = true ↔ Free L S ∧ (∀ c, S.testBit c = true → Def L S c) ∧ ∀ c, c < n → Def L S c → S.testBit c = true := by
  have h4 : S < 4096 := Nat.lt_of_lt_of_le hS (Nat.pow_le_pow_right (n := 2) (by decide) hn)
  unfold comB
  rw [Bool.and_eq_true, free_iff h4, beq_iff_eq]
  constructor
  · rintro ⟨h, k⟩
    exact ⟨h, fun c hc => ((dfd_bit h4).1 (by rw [k]; exact hc)).2, fun c hc hd => by rw [← k]; exact (dfd_bit h4).2 ⟨hc, hd⟩⟩
  · rintro ⟨h, k1, k2⟩
    exact ⟨h, bits_eq fun j => ⟨fun hj => k2 j ((dfd_bit h4).1 hj).1 ((dfd_bit h4).1 hj).2, fun hj => (dfd_bit h4).2 ⟨near hS hj, k1 j hj⟩⟩⟩
theorem all_bit {n j : Nat} : (2 ^ n - 1).testBit j = decide (j < n) := Nat.testBit_two_pow_sub_one _ _
theorem sub_bit {n S j : Nat} (hS : S < 2 ^ n) : (2 ^ n - 1 - S).testBit j = (decide (j < n) && !S.testBit j) := by
  have := Nat.testBit_two_pow_sub_succ hS j
  rw [show 2 ^ n - 1 - S = 2 ^ n - (S + 1) by omega]
  exact this
theorem sta_iff {n : Nat} {L : Atts} {S : Nat} (hn : n ≤ 12) (hL : Within n L) (hS : S < 2 ^ n) : staB n L S = true ↔ Free L S ∧ ∀ c, c < n → S.testBit c = false → ∃ k, S.testBit k = true ∧ (k, c) ∈ L := by
  have h4 : S < 4096 := Nat.lt_of_lt_of_le hS (Nat.pow_le_pow_right (n := 2) (by decide) hn)
  unfold staB
  rw [beq_iff_eq]
  constructor
  · intro h
    refine ⟨fun i j hi hj hl => ?_, fun c hc h0 => ?_⟩
    · have h1 := (hit_bit h4).2 ⟨i, hi, hl⟩
      rw [h, sub_bit hS, hj] at h1
      simp at h1
    · apply (hit_bit h4).1
      rw [h, sub_bit hS, h0]
      simp [hc]
  · rintro ⟨h1, h2⟩
    apply bits_eq
    intro j
    rw [sub_bit hS]
    constructor
    · intro hj
      obtain ⟨i, hi, hl⟩ := (hit_bit h4).1 hj
      have hjn := (hL _ hl).2
      cases e : S.testBit j
      · simpa using hjn
      · exact absurd hl (h1 i j hi e)
    · intro hj
      simp only [Bool.and_eq_true, decide_eq_true_eq, Bool.not_eq_true'] at hj
      exact (hit_bit h4).2 (h2 j hj.1 hj.2)

/-- All sets of a kind. -/
def sets (n : Nat) (k : Nat → Bool) : List Nat := (List.range (2 ^ n)).filter k
theorem mem_sets {n : Nat} {k : Nat → Bool} {S : Nat} : S ∈ sets n k ↔ S < 2 ^ n ∧ k S = true := by simp [sets]
/-- Those whose measure is contained in no greater one. -/
def grt (l : List Nat) (m : Nat → Nat) : List Nat := l.filter fun s => !(l.any fun o => m o != m s && (m o ||| m s == m o))
theorem mem_grt {l : List Nat} {m : Nat → Nat} {s : Nat} : s ∈ grt l m ↔ s ∈ l ∧ ∀ o ∈ l, Inn (m s) (m o) → m o = m s := by
  unfold grt
  simp only [List.mem_filter, Bool.not_eq_true', List.any_eq_false, Bool.and_eq_true, bne_iff_ne, beq_iff_eq, or_eq, not_and, Inn]
  constructor
  · rintro ⟨h, k⟩; exact ⟨h, fun o ho hs => Decidable.byContradiction fun hc => k o ho hc hs⟩
  · rintro ⟨h, k⟩; exact ⟨h, fun o ho hc hs => hc (k o ho hs)⟩
def prefs (n : Nat) (L : Atts) : List Nat := grt (sets n (comB n L)) id
end Cl
namespace Cl

theorem sub_le {S O : Nat} (h : Inn S O) : S ≤ O := by
  have := or_eq.2 h
  rw [← this]
  exact Nat.right_le_or
theorem sub_refl (S : Nat) : Inn S S := fun _ h => h
theorem Inn.trans {S O P : Nat} (h : Inn S O) (k : Inn O P) : Inn S P := fun j hj => k j (h j hj)
theorem sub_anti {S O : Nat} (h : Inn S O) (k : Inn O S) : S = O := bits_eq fun j => ⟨h j, k j⟩
theorem lt12 {n S : Nat} (hn : n ≤ 12) (hS : S < 2 ^ n) : S < 4096 := Nat.lt_of_lt_of_le hS (Nat.pow_le_pow_right (n := 2) (by decide) hn)

/-- A set is admissible, complete. -/
def Adm (L : Atts) (S : Nat) : Prop := Free L S ∧ ∀ c, S.testBit c = true → Def L S c
def Com (n : Nat) (L : Atts) (S : Nat) : Prop := Adm L S ∧ ∀ c, c < n → Def L S c → S.testBit c = true
theorem admB_iff {n : Nat} {L : Atts} {S : Nat} (hn : n ≤ 12) (hS : S < 2 ^ n) : admB n L S = true ↔ Adm L S := adm_iff hn hS
theorem comB_iff {n : Nat} {L : Atts} {S : Nat} (hn : n ≤ 12) (hS : S < 2 ^ n) : comB n L S = true ↔ Com n L S := by
  rw [com_iff hn hS]; unfold Com Adm; rw [and_assoc]
theorem Def.mono {L : Atts} {S O c : Nat} (h : Def L S c) (k : Inn S O) : Def L O c := fun i hi => by
  obtain ⟨m, h1, h2⟩ := h i hi; exact ⟨m, k m h1, h2⟩

/-- Dung's lemma: what an admissible set defends is admissible, and contains the set. -/
theorem Adm.sub {n : Nat} {L : Atts} {S : Nat} (hn : n ≤ 12) (hS : S < 2 ^ n) (h : Adm L S) : Inn S (dfd n L S) :=
  fun j hj => (dfd_bit (lt12 hn hS)).2 ⟨near hS hj, h.2 j hj⟩
theorem Adm.next {n : Nat} {L : Atts} {S : Nat} (hn : n ≤ 12) (hS : S < 2 ^ n) (h : Adm L S) : Adm L (dfd n L S) := by
  have h4 := lt12 hn hS
  refine ⟨fun i j hi hj hl => ?_, fun c hc i hi => ?_⟩
  · obtain ⟨k, hk, hki⟩ := ((dfd_bit h4).1 hj).2 i hl
    obtain ⟨m, hm, hmk⟩ := ((dfd_bit h4).1 hi).2 k hki
    exact h.1 m k hm hk hmk
  · obtain ⟨k, hk, hki⟩ := ((dfd_bit h4).1 hc).2 i hi
    exact ⟨k, h.sub hn hS k hk, hki⟩
/-- An admissible set is contained in a complete one. -/
theorem Adm.ext {n : Nat} {L : Atts} (hn : n ≤ 12) : ∀ (d S : Nat), 2 ^ n - S ≤ d → S < 2 ^ n → Adm L S → ∃ O, O < 2 ^ n ∧ Com n L O ∧ Inn S O := by
  intro d
  induction d with
  | zero => intro S hd hS; omega
  | succ d ih =>
    intro S hd hS h
    have h1 := h.sub hn hS
    have h2 := sub_le h1
    rcases Nat.eq_or_lt_of_le h2 with e | e
    · refine ⟨S, hS, ⟨h, fun c hc hd => ?_⟩, sub_refl S⟩
      rw [e]
      exact (dfd_bit (lt12 hn hS)).2 ⟨hc, hd⟩
    · obtain ⟨O, hO, hC, hs⟩ := ih (dfd n L S) (by omega) (dfd_lt n L S) (h.next hn hS)
      exact ⟨O, hO, hC, h1.trans hs⟩
theorem adm_zero (L : Atts) : Adm L 0 := ⟨fun i j hi => by simp at hi, fun c hc => by simp at hc⟩

/-- A preferred set. -/
def Pref (n : Nat) (L : Atts) (S : Nat) : Prop := S < 2 ^ n ∧ Adm L S ∧ ∀ O, O < 2 ^ n → Adm L O → Inn S O → O = S
theorem Pref.com {n : Nat} {L : Atts} {S : Nat} (hn : n ≤ 12) (h : Pref n L S) : Com n L S := by
  obtain ⟨O, hO, hC, hs⟩ := h.2.1.ext hn _ S (Nat.le_refl _) h.1
  rw [← h.2.2 O hO hC.1 hs]
  exact hC
theorem mem_prefs {n : Nat} {L : Atts} {S : Nat} (hn : n ≤ 12) : S ∈ prefs n L ↔ Pref n L S := by
  unfold prefs
  rw [mem_grt, mem_sets]
  constructor
  · rintro ⟨⟨hS, hc⟩, h⟩
    have hc' := (comB_iff hn hS).1 hc
    refine ⟨hS, hc'.1, fun O hO ha hs => ?_⟩
    obtain ⟨P, hP, hC, hp⟩ := ha.ext hn _ O (Nat.le_refl _) hO
    have := h P (mem_sets.2 ⟨hP, (comB_iff hn hP).2 hC⟩) (hs.trans hp)
    simp only [id] at this
    subst this
    exact sub_anti hp hs
  · intro h
    refine ⟨⟨h.1, (comB_iff hn h.1).2 (h.com hn)⟩, fun O hO hs => ?_⟩
    obtain ⟨hO, hc⟩ := mem_sets.1 hO
    exact h.2.2 O hO ((comB_iff hn hO).1 hc).1 hs
theorem mem_prefs' {n : Nat} {L : Atts} {S : Nat} (hn : n ≤ 12) : S ∈ grt (sets n (admB n L)) id ↔ Pref n L S := by
  rw [mem_grt, mem_sets]
  constructor
  · rintro ⟨⟨hS, hc⟩, h⟩
    exact ⟨hS, (admB_iff hn hS).1 hc, fun O hO ha hs => h O (mem_sets.2 ⟨hO, (admB_iff hn hO).2 ha⟩) hs⟩
  · intro h
    refine ⟨⟨h.1, (admB_iff hn h.1).2 h.2.1⟩, fun O hO hs => ?_⟩
    obtain ⟨hO, hc⟩ := mem_sets.1 hO
    exact h.2.2 O hO ((admB_iff hn hO).1 hc) hs
theorem grt_sets (n : Nat) (k : Nat → Bool) (m : Nat → Nat) : ∃ p, grt (sets n k) m = (List.range (2 ^ n)).filter p := by
  refine ⟨fun s => (!((sets n k).any fun o => m o != m s && (m o ||| m s == m o))) && k s, ?_⟩
  unfold grt
  conv => lhs; arg 2; unfold sets
  rw [List.filter_filter]
theorem filter_same {l : List Nat} {p q : Nat → Bool} (h : ∀ x, x ∈ l.filter p ↔ x ∈ l.filter q) : l.filter p = l.filter q := by
  apply List.filter_congr
  intro x hx
  have := h x
  simp only [List.mem_filter, hx, true_and] at this
  cases e1 : p x <;> cases e2 : q x <;> simp_all
/-- The greatest complete sets are the greatest admissible ones. -/
theorem prefs_eq {n : Nat} (L : Atts) (hn : n ≤ 12) : grt (sets n (admB n L)) id = prefs n L := by
  obtain ⟨p, hp⟩ := grt_sets n (admB n L) id
  obtain ⟨q, hq⟩ := grt_sets n (comB n L) id
  have hq' : prefs n L = (List.range (2 ^ n)).filter q := hq
  rw [hp, hq']
  apply filter_same
  intro x
  rw [← hp, ← hq', mem_prefs hn, mem_prefs' hn]
/-- A greatest set above any admissible one. -/
theorem pref_above {n : Nat} {L : Atts} : ∀ (d S : Nat), 2 ^ n - S ≤ d → S < 2 ^ n → Adm L S → ∃ O, Pref n L O ∧ Inn S O := by
  intro d
  induction d with
  | zero => intro S hd hS; omega
  | succ d ih =>
    intro S hd hS h
    by_cases hc : ∃ O, O < 2 ^ n ∧ Adm L O ∧ Inn S O ∧ O ≠ S
    · obtain ⟨O, hO, ha, hs, hne⟩ := hc
      have := sub_le hs
      obtain ⟨P, hP, hp⟩ := ih O (by omega) hO ha
      exact ⟨P, hP, hs.trans hp⟩
    · exact ⟨S, ⟨hS, h, fun O hO ha hs => Decidable.byContradiction fun hne => hc ⟨O, hO, ha, hs, hne⟩⟩, sub_refl S⟩
theorem pref_some (n : Nat) (L : Atts) : ∃ O, Pref n L O := by
  obtain ⟨O, h, _⟩ := pref_above (n := n) (L := L) _ 0 (Nat.le_refl _) (Nat.two_pow_pos n) (adm_zero L)
  exact ⟨O, h⟩

/-- The steps of the granted set. -/
def stp (n : Nat) (L : Atts) : Nat → Nat
  | 0 => 0
  | k + 1 => dfd n L (stp n L k)
theorem stp_lt (n : Nat) (L : Atts) (k : Nat) : stp n L k < 2 ^ n := by
  cases k with
  | zero => exact Nat.two_pow_pos n
  | succ k => exact dfd_lt n L _
theorem stp_adm {n : Nat} {L : Atts} (hn : n ≤ 12) (k : Nat) : Adm L (stp n L k) := by
  induction k with
  | zero => exact adm_zero L
  | succ k ih => exact ih.next hn (stp_lt n L k)
theorem stp_sub {n : Nat} {L : Atts} (hn : n ≤ 12) (k : Nat) : Inn (stp n L k) (stp n L (k + 1)) := (stp_adm hn k).sub hn (stp_lt n L k)
theorem stp_mono {n : Nat} {L : Atts} (hn : n ≤ 12) {k m : Nat} (h : k ≤ m) : Inn (stp n L k) (stp n L m) := by
  induction m with
  | zero => rw [Nat.le_zero.1 h]; exact sub_refl _
  | succ m ih =>
    rcases Nat.eq_or_lt_of_le h with e | e
    · subst e; exact sub_refl _
    · exact (ih (by omega)).trans (stp_sub hn m)
theorem stp_stay {n : Nat} {L : Atts} {k : Nat} (h : stp n L k = dfd n L (stp n L k)) (m : Nat) (hm : k ≤ m) : stp n L m = stp n L k := by
  induction m with
  | zero => rw [Nat.le_zero.1 hm]
  | succ m ih =>
    rcases Nat.eq_or_lt_of_le hm with e | e
    · rw [e]
    · show dfd n L (stp n L m) = _
      rw [ih (by omega), ← h]
theorem stp_unique {n : Nat} {L : Atts} {k m : Nat} (h : stp n L k = dfd n L (stp n L k)) (h2 : stp n L m = dfd n L (stp n L m)) : stp n L k = stp n L m := by
  rcases Nat.le_total k m with e | e
  · exact (stp_stay h m e).symm
  · exact stp_stay h2 k e
/-- The granted set is contained in each complete one. -/
theorem stp_com {n : Nat} {L : Atts} {S : Nat} (hn : n ≤ 12) (hC : Com n L S) (k : Nat) : Inn (stp n L k) S := by
  induction k with
  | zero => intro j hj; simp [stp] at hj
  | succ k ih =>
    intro j hj
    obtain ⟨h1, h2⟩ := (dfd_bit (lt12 hn (stp_lt n L k))).1 hj
    exact hC.2 j h1 (Def.mono h2 ih)
theorem stp_grow {n : Nat} {L : Atts} (hn : n ≤ 12) (k : Nat) : (∃ j, j ≤ k ∧ stp n L j = dfd n L (stp n L j)) ∨ k ≤ stp n L k := by
  induction k with
  | zero => exact .inr (Nat.zero_le _)
  | succ k ih =>
    rcases ih with ⟨j, hj, h⟩ | h
    · exact .inl ⟨j, by omega, h⟩
    · rcases Nat.eq_or_lt_of_le (sub_le (stp_sub hn k)) with e | e
      · exact .inl ⟨k, by omega, e⟩
      · exact .inr (by omega)
/-- The granted set. -/
def grd (n : Nat) (L : Atts) : Nat := stp n L 4096
theorem grd_fix {n : Nat} {L : Atts} (hn : n ≤ 12) : grd n L = dfd n L (grd n L) := by
  rcases stp_grow (L := L) hn 4096 with ⟨j, hj, h⟩ | h
  · have := stp_stay h 4096 hj
    unfold grd
    rw [this]; exact h
  · have := lt12 hn (stp_lt n L 4096)
    omega
theorem grd_of {n : Nat} {L : Atts} (hn : n ≤ 12) {k : Nat} (h : stp n L k = dfd n L (stp n L k)) : stp n L k = grd n L :=
  stp_unique h (grd_fix hn)
theorem grd_com {n : Nat} {L : Atts} (hn : n ≤ 12) : Com n L (grd n L) := by
  refine ⟨stp_adm hn _, fun c hc hd => ?_⟩
  rw [grd_fix hn]
  exact (dfd_bit (lt12 hn (stp_lt n L _))).2 ⟨hc, hd⟩
end Cl
namespace Cl

def semis (n : Nat) (L : Atts) : List Nat := grt (sets n (comB n L)) fun s => s ||| hit L s
def stables (n : Nat) (L : Atts) : List Nat := sets n (staB n L)
def coms (n : Nat) (L : Atts) : List Nat := sets n (comB n L)
theorem mem_coms {n : Nat} {L : Atts} {S : Nat} (hn : n ≤ 12) : S ∈ coms n L ↔ S < 2 ^ n ∧ Com n L S := by
  unfold coms
  rw [mem_sets]
  constructor
  · rintro ⟨h, k⟩; exact ⟨h, (comB_iff hn h).1 k⟩
  · rintro ⟨h, k⟩; exact ⟨h, (comB_iff hn h).2 k⟩
theorem mem_stables {n : Nat} {L : Atts} {S : Nat} (hn : n ≤ 12) (hL : Within n L) : S ∈ stables n L ↔ S < 2 ^ n ∧ Free L S ∧ ∀ c, c < n → S.testBit c = false → ∃ k, S.testBit k = true ∧ (k, c) ∈ L := by
  unfold stables
  rw [mem_sets]
  constructor
  · rintro ⟨h, k⟩; exact ⟨h, (sta_iff hn hL h).1 k⟩
  · rintro ⟨h, k⟩; exact ⟨h, (sta_iff hn hL h).2 k⟩
theorem meas_bit {L : Atts} {S j : Nat} (hS : S < 4096) : (S ||| hit L S).testBit j = true ↔ S.testBit j = true ∨ ∃ i, S.testBit i = true ∧ (i, j) ∈ L := by
  rw [Nat.testBit_or, Bool.or_eq_true, hit_bit hS]
theorem meas_lt {n : Nat} {L : Atts} {S : Nat} (hL : Within n L) (hS : S < 2 ^ n) : (S ||| hit L S) < 2 ^ n := Nat.or_lt_two_pow hS (hit_lt hL S)
theorem sta_com {n : Nat} {L : Atts} {S : Nat} (hn : n ≤ 12) (hL : Within n L) (h : S ∈ stables n L) : S ∈ coms n L := by
  obtain ⟨h1, h2, h3⟩ := (mem_stables hn hL).1 h
  refine (mem_coms hn).2 ⟨h1, ⟨h2, fun c hc i hi => ?_⟩, fun c hc hd => ?_⟩
  · apply h3 i (hL _ hi).1
    cases e : S.testBit i
    · rfl
    · exact absurd hi (h2 i c e hc)
  · cases e : S.testBit c
    · obtain ⟨k, hk, hl⟩ := h3 c hc e
      obtain ⟨m, hm, hml⟩ := hd k hl
      exact absurd hml (h2 m k hm hk)
    · rfl
theorem sta_meas {n : Nat} {L : Atts} {S : Nat} (hn : n ≤ 12) (hL : Within n L) (h : S ∈ stables n L) (j : Nat) (hj : j < n) : (S ||| hit L S).testBit j = true := by
  obtain ⟨h1, h2, h3⟩ := (mem_stables hn hL).1 h
  rw [meas_bit (lt12 hn h1)]
  cases e : S.testBit j
  · exact .inr (h3 j hj e)
  · exact .inl rfl
theorem sta_semi {n : Nat} {L : Atts} {S : Nat} (hn : n ≤ 12) (hL : Within n L) (h : S ∈ stables n L) : S ∈ semis n L := by
  unfold semis
  rw [mem_grt]
  refine ⟨sta_com hn hL h, fun O hO _ => ?_⟩
  have hO := (mem_coms hn).1 hO
  apply sub_anti
  · intro j hj
    exact sta_meas hn hL h j (near (meas_lt hL hO.1) hj)
  · assumption
theorem semi_com {n : Nat} {L : Atts} {S : Nat} (h : S ∈ semis n L) : S ∈ coms n L := (mem_grt.1 h).1
theorem pref_com {n : Nat} {L : Atts} {S : Nat} (h : S ∈ prefs n L) : S ∈ coms n L := (mem_grt.1 h).1
theorem semi_pref {n : Nat} {L : Atts} {S : Nat} (hn : n ≤ 12) (h : S ∈ semis n L) : S ∈ prefs n L := by
  obtain ⟨h1, h2⟩ := mem_grt.1 h
  refine mem_grt.2 ⟨h1, fun O hO hs => ?_⟩
  simp only [id] at hs ⊢
  have hOc := (mem_coms hn).1 hO
  have hSc := (mem_coms hn).1 h1
  have hO4 := lt12 hn hOc.1
  have hS4 := lt12 hn hSc.1
  have e := h2 O hO (fun j hj => by
    rw [meas_bit hS4] at hj
    rw [meas_bit hO4]
    rcases hj with hj | ⟨i, hi, hl⟩
    · exact .inl (hs j hj)
    · exact .inr ⟨i, hs i hi, hl⟩)
  refine sub_anti (fun j hj => ?_) hs
  have : (O ||| hit L O).testBit j = true := (meas_bit hO4).2 (.inl hj)
  rw [e, meas_bit hS4] at this
  rcases this with h | ⟨i, hi, hl⟩
  · exact h
  · exact absurd hl (hOc.2.1.1 i j (hs i hi) hj)
/-- If there are stable sets, they are the semi-stable ones. -/
theorem semi_sta {n : Nat} {L : Atts} {S T : Nat} (hn : n ≤ 12) (hL : Within n L) (hT : T ∈ stables n L) (h : S ∈ semis n L) : S ∈ stables n L := by
  obtain ⟨h1, h2⟩ := mem_grt.1 h
  have hSc := (mem_coms hn).1 h1
  have hS4 := lt12 hn hSc.1
  have e := h2 T (sta_com hn hL hT) (fun j hj => sta_meas hn hL hT j (near (meas_lt hL hSc.1) hj))
  refine (mem_stables hn hL).2 ⟨hSc.1, hSc.2.1.1, fun c hc h0 => ?_⟩
  have := sta_meas hn hL hT c hc
  rw [e, meas_bit hS4, h0] at this
  rcases this with h | h
  · cases h
  · exact h
theorem stables_eq {n : Nat} {L : Atts} {T : Nat} (hn : n ≤ 12) (hL : Within n L) (hT : T ∈ stables n L) : stables n L = semis n L := by
  obtain ⟨p, hp⟩ := grt_sets n (comB n L) fun s => s ||| hit L s
  have hp' : semis n L = (List.range (2 ^ n)).filter p := hp
  rw [hp']
  apply filter_same
  intro x
  rw [← hp']
  exact ⟨fun h => sta_semi hn hL h, fun h => semi_sta hn hL hT h⟩
theorem coms_some {n : Nat} (L : Atts) (hn : n ≤ 12) : ∃ S, S ∈ coms n L := ⟨grd n L, (mem_coms hn).2 ⟨stp_lt n L _, grd_com hn⟩⟩
/-- There is a greatest one for any measure of bounded size. -/
theorem grt_some (l : List Nat) (m : Nat → Nat) (B : Nat) (hB : ∀ s ∈ l, m s < B) : ∀ (d s : Nat), s ∈ l → B - m s ≤ d → ∃ o, o ∈ grt l m := by
  intro d
  induction d with
  | zero => intro s hs hd; have := hB s hs; omega
  | succ d ih =>
    intro s hs hd
    by_cases hc : ∃ o, o ∈ l ∧ Inn (m s) (m o) ∧ m o ≠ m s
    · obtain ⟨o, ho, h, hne⟩ := hc
      have := sub_le h
      exact ih o ho (by omega)
    · exact ⟨s, mem_grt.2 ⟨hs, fun o ho h => Decidable.byContradiction fun hne => hc ⟨o, ho, h, hne⟩⟩⟩
theorem semis_some {n : Nat} {L : Atts} (hn : n ≤ 12) (hL : Within n L) : ∃ S, S ∈ semis n L := by
  obtain ⟨S, hS⟩ := coms_some L hn
  exact grt_some _ _ (2 ^ n) (fun s hs => meas_lt hL ((mem_coms hn).1 hs).1) _ S hS (Nat.le_refl _)
theorem prefs_some {n : Nat} (L : Atts) (hn : n ≤ 12) : ∃ S, S ∈ prefs n L := by
  obtain ⟨S, hS⟩ := pref_some n L
  exact ⟨S, (mem_prefs hn).2 hS⟩

/-- What is in all of some sets. -/
def cmn (n : Nat) (l : List Nat) : Nat := l.foldl (fun m s => m &&& s) (2 ^ n - 1)
theorem and_fold (l : List Nat) (m j : Nat) : (l.foldl (fun m s => m &&& s) m).testBit j = (m.testBit j && l.all fun s => s.testBit j) := by
  induction l generalizing m with
  | nil => simp
  | cons x l ih => rw [List.foldl_cons, ih, Nat.testBit_and, List.all_cons, Bool.and_assoc]
theorem cmn_bit {n : Nat} {l : List Nat} {j : Nat} : (cmn n l).testBit j = true ↔ j < n ∧ ∀ s ∈ l, s.testBit j = true := by
  unfold cmn
  rw [and_fold, all_bit]
  simp
theorem and_fold_lt {n : Nat} (l : List Nat) (m : Nat) (h : m < 2 ^ n) : l.foldl (fun m s => m &&& s) m < 2 ^ n := by
  induction l generalizing m with
  | nil => exact h
  | cons x l ih =>
    rw [List.foldl_cons]
    exact ih _ (Nat.lt_of_le_of_lt Nat.and_le_left h)
theorem cmn_lt (n : Nat) (l : List Nat) : cmn n l < 2 ^ n := and_fold_lt l _ (Nat.sub_lt (Nat.two_pow_pos n) Nat.zero_lt_one)
def idls (n : Nat) (L : Atts) : List Nat := sets n fun s => (cmn n (prefs n L) ||| s == cmn n (prefs n L)) && admB n L s
def orAll (l : List Nat) : Nat := l.foldl (fun m s => m ||| s) 0
theorem orAll_bit {l : List Nat} {j : Nat} : (orAll l).testBit j = true ↔ ∃ s ∈ l, s.testBit j = true := by
  unfold orAll
  have := fold_bit l (fun _ => true) id 0 j
  simp only [if_true, id, Nat.zero_testBit, Bool.false_or, Bool.true_and] at this
  rw [this]
  simp
theorem orAll_lt {n : Nat} {l : List Nat} (h : ∀ s ∈ l, s < 2 ^ n) : orAll l < 2 ^ n := by
  have := fold_lt (n := n) l (fun _ => true) id 0 (Nat.two_pow_pos n) (fun x hx _ => h x hx)
  simpa [orAll] using this
/-- The ideal set. -/
def idl (n : Nat) (L : Atts) : Nat := orAll (idls n L)
theorem mem_idls {n : Nat} {L : Atts} {S : Nat} (hn : n ≤ 12) : S ∈ idls n L ↔ S < 2 ^ n ∧ Adm L S ∧ ∀ P ∈ prefs n L, Inn S P := by
  unfold idls
  rw [mem_sets, Bool.and_eq_true, beq_iff_eq, or_eq]
  constructor
  · rintro ⟨h, k1, k2⟩
    exact ⟨h, (admB_iff hn h).1 k2, fun P hP j hj => (cmn_bit.1 (k1 j hj)).2 P hP⟩
  · rintro ⟨h, k1, k2⟩
    exact ⟨h, fun j hj => cmn_bit.2 ⟨near h hj, fun P hP => k2 P hP j hj⟩, (admB_iff hn h).2 k1⟩
theorem idl_mem {n : Nat} {L : Atts} (hn : n ≤ 12) : idl n L ∈ idls n L := by
  refine (mem_idls hn).2 ⟨orAll_lt fun s hs => ((mem_idls hn).1 hs).1, ⟨?_, ?_⟩, ?_⟩
  · intro i j hi hj hl
    obtain ⟨s, hs, h1⟩ := orAll_bit.1 hi
    obtain ⟨t, ht, h2⟩ := orAll_bit.1 hj
    obtain ⟨P, hP⟩ := prefs_some L hn
    exact ((mem_prefs hn).1 hP).2.1.1 i j (((mem_idls hn).1 hs).2.2 P hP i h1) (((mem_idls hn).1 ht).2.2 P hP j h2) hl
  · intro c hc
    obtain ⟨s, hs, h1⟩ := orAll_bit.1 hc
    exact Def.mono (((mem_idls hn).1 hs).2.1.2 c h1) fun _ hj => orAll_bit.2 ⟨s, hs, hj⟩
  · intro P hP j hj
    obtain ⟨s, hs, h1⟩ := orAll_bit.1 hj
    exact ((mem_idls hn).1 hs).2.2 P hP j h1
theorem idl_top {n : Nat} {L : Atts} {S : Nat} (h : S ∈ idls n L) : Inn S (idl n L) := fun _j hj => orAll_bit.2 ⟨S, h, hj⟩
theorem idl_lt {n : Nat} {L : Atts} (hn : n ≤ 12) : idl n L < 2 ^ n := ((mem_idls hn).1 (idl_mem hn)).1
theorem idl_com {n : Nat} {L : Atts} (hn : n ≤ 12) : Com n L (idl n L) := by
  obtain ⟨h1, h2, h3⟩ := (mem_idls hn).1 (idl_mem (n := n) (L := L) hn)
  refine ⟨h2, fun c hc hd => ?_⟩
  refine idl_top (S := dfd n L (idl n L)) ((mem_idls hn).2 ⟨dfd_lt _ _ _, h2.next hn h1, fun P hP j hj => ?_⟩) c ((dfd_bit (lt12 hn h1)).2 ⟨hc, hd⟩)
  obtain ⟨k1, k2⟩ := (dfd_bit (lt12 hn h1)).1 hj
  exact (((mem_prefs hn).1 hP).com hn).2 j k1 (Def.mono k2 (h3 P hP))
/-- The reference's way to it. -/
theorem idl_ref {n : Nat} {L : Atts} : idl n L = (sets n (admB n L)).foldl (fun m s => if cmn n (prefs n L) ||| s == cmn n (prefs n L) then m ||| s else m) 0 := by
  apply bits_eq
  intro j
  have := fold_bit (sets n (admB n L)) (fun s => cmn n (prefs n L) ||| s == cmn n (prefs n L)) id 0 j
  simp only [id] at this
  rw [this]
  unfold idl
  rw [orAll_bit]
  simp only [Nat.zero_testBit, Bool.false_or, List.any_eq_true, Bool.and_eq_true, idls, mem_sets]
  constructor
  · rintro ⟨s, ⟨h1, h2, h3⟩, h4⟩; exact ⟨s, ⟨h1, h3⟩, h2, h4⟩
  · rintro ⟨s, ⟨h1, h3⟩, h2, h4⟩; exact ⟨s, ⟨h1, h2, h3⟩, h4⟩
end Cl
namespace Cl

def att (L : Atts) (a b : Nat) : Bool := L.contains (a, b)
theorem att_iff {L : Atts} {a b : Nat} : att L a b = true ↔ (a, b) ∈ L := by unfold att; exact List.contains_iff_mem
/-- The attack never matters. -/
def idleB (L : Atts) (a b : Nat) : Bool := a != b && att L a a && (att L b a || att L b b)
def keep (L : Atts) (a b : Nat) : Bool := att L a b && !idleB L a b
/-- The core. -/
def core (n : Nat) (L : Atts) : Atts := (List.range n).flatMap fun a => ((List.range n).filter fun b => keep L a b).map fun b => (a, b)
theorem mem_core {n : Nat} {L : Atts} {a b : Nat} : (a, b) ∈ core n L ↔ a < n ∧ b < n ∧ (a, b) ∈ L ∧ ¬ (a ≠ b ∧ (a, a) ∈ L ∧ ((b, a) ∈ L ∨ (b, b) ∈ L)) := by
  have h1 : (a, b) ∈ core n L ↔ a < n ∧ b < n ∧ keep L a b = true := by
    unfold core
    simp only [List.mem_flatMap, List.mem_range, List.mem_map, List.mem_filter, Prod.mk.injEq]
    constructor
    · rintro ⟨a', h1, b', ⟨h2, h3⟩, rfl, rfl⟩; exact ⟨h1, h2, h3⟩
    · rintro ⟨h1, h2, h3⟩; exact ⟨a, h1, b, ⟨h2, h3⟩, rfl, rfl⟩
  rw [h1]
  unfold keep idleB
  simp only [Bool.and_eq_true, ← att_iff, ne_eq]
  by_cases e : a = b <;> cases att L a b <;> cases att L a a <;> cases att L b a <;> cases att L b b <;> simp [e]
theorem core_in {n : Nat} {L : Atts} {p : Nat × Nat} (h : p ∈ core n L) : p ∈ L := (mem_core.1 h).2.2.1
theorem core_within {n : Nat} {L : Atts} (h : Within n L) : Within n (core n L) := fun p hp => h p (core_in hp)
/-- What is missing in the core, and its attacker that attacks itself is not. -/
theorem core_out {n : Nat} {L : Atts} (hL : Within n L) {a b : Nat} (h : (a, b) ∈ L) (k : (a, b) ∉ core n L) : a ≠ b ∧ (a, a) ∈ core n L ∧ ((b, a) ∈ L ∨ (b, b) ∈ L) := by
  have hab := hL _ h
  have h1 : a ≠ b ∧ (a, a) ∈ L ∧ ((b, a) ∈ L ∨ (b, b) ∈ L) := Decidable.byContradiction fun hc => k (mem_core.2 ⟨hab.1, hab.2, h, hc⟩)
  exact ⟨h1.1, mem_core.2 ⟨hab.1, hab.1, h1.2.1, fun hc => hc.1 rfl⟩, h1.2.2⟩
theorem free_core {n : Nat} {L add : Atts} (hL : Within n L) (S : Nat) : Free (L ++ add) S ↔ Free (core n L ++ add) S := by
  constructor
  · intro h i j hi hj hl
    refine h i j hi hj ?_
    rcases List.mem_append.1 hl with hl | hl
    · exact List.mem_append.2 (.inl (core_in hl))
    · exact List.mem_append.2 (.inr hl)
  · intro h i j hi hj hl
    rcases List.mem_append.1 hl with hl | hl
    · by_cases e : (i, j) ∈ core n L
      · exact h i j hi hj (List.mem_append.2 (.inl e))
      · exact h i i hi hi (List.mem_append.2 (.inl (core_out hL hl e).2.1))
    · exact h i j hi hj (List.mem_append.2 (.inr hl))
theorem adm_core {n : Nat} {L add : Atts} (hL : Within n L) (S : Nat) : Adm (L ++ add) S ↔ Adm (core n L ++ add) S := by
  -- in a free set nothing attacks itself, so all its attacks are in the core
  have key : Free (core n L ++ add) S → ∀ k i, S.testBit k = true → (k, i) ∈ L ++ add → (k, i) ∈ core n L ++ add := by
    intro hF k i hk hl
    rcases List.mem_append.1 hl with hl | hl
    · by_cases e : (k, i) ∈ core n L
      · exact List.mem_append.2 (.inl e)
      · exact absurd (List.mem_append.2 (.inl (core_out hL hl e).2.1)) (hF k k hk hk)
    · exact List.mem_append.2 (.inr hl)
  have sub : ∀ p, p ∈ core n L ++ add → p ∈ L ++ add := by
    intro p hp
    rcases List.mem_append.1 hp with h | h
    · exact List.mem_append.2 (.inl (core_in h))
    · exact List.mem_append.2 (.inr h)
  unfold Adm
  rw [free_core hL]
  constructor
  · rintro ⟨hF, h⟩
    refine ⟨hF, fun c hc i hi => ?_⟩
    obtain ⟨k, hk, hl⟩ := h c hc i (sub _ hi)
    exact ⟨k, hk, key hF k i hk hl⟩
  · rintro ⟨hF, h⟩
    refine ⟨hF, fun c hc i hi => ?_⟩
    by_cases e : (i, c) ∈ core n L ++ add
    · obtain ⟨k, hk, hl⟩ := h c hc i e
      exact ⟨k, hk, sub _ hl⟩
    · have hiL : (i, c) ∈ L := by
        rcases List.mem_append.1 hi with h | h
        · exact h
        · exact absurd (List.mem_append.2 (.inr h)) e
      obtain ⟨_, _, h1⟩ := core_out hL hiL fun hc => e (List.mem_append.2 (.inl hc))
      have hF' := (free_core (add := add) hL S).2 hF
      rcases h1 with h1 | h1
      · exact ⟨c, hc, List.mem_append.2 (.inl h1)⟩
      · exact absurd (List.mem_append.2 (.inl h1)) (hF' c c hc hc)
theorem prefs_core {n : Nat} {L add : Atts} (hn : n ≤ 12) (hL : Within n L) : prefs n (L ++ add) = prefs n (core n L ++ add) := by
  rw [← prefs_eq _ hn, ← prefs_eq _ hn]
  have : sets n (admB n (L ++ add)) = sets n (admB n (core n L ++ add)) := by
    unfold sets
    apply filter_same
    intro x
    have h1 := mem_sets (n := n) (k := admB n (L ++ add)) (S := x)
    have h2 := mem_sets (n := n) (k := admB n (core n L ++ add)) (S := x)
    unfold sets at h1 h2
    rw [h1, h2]
    constructor
    · rintro ⟨h, k⟩; exact ⟨h, (admB_iff hn h).2 ((adm_core hL x).1 ((admB_iff hn h).1 k))⟩
    · rintro ⟨h, k⟩; exact ⟨h, (admB_iff hn h).2 ((adm_core hL x).2 ((admB_iff hn h).1 k))⟩
  rw [this]
theorem idl_core {n : Nat} {L add : Atts} (hn : n ≤ 12) (hL : Within n L) : idl n (L ++ add) = idl n (core n L ++ add) := by
  apply sub_anti
  · refine idl_top ((mem_idls hn).2 ?_)
    obtain ⟨h1, h2, h3⟩ := (mem_idls hn).1 (idl_mem (n := n) (L := L ++ add) hn)
    exact ⟨h1, (adm_core hL _).1 h2, by rw [← prefs_core hn hL]; exact h3⟩
  · refine idl_top ((mem_idls hn).2 ?_)
    obtain ⟨h1, h2, h3⟩ := (mem_idls hn).1 (idl_mem (n := n) (L := core n L ++ add) hn)
    exact ⟨h1, (adm_core hL _).2 h2, by rw [prefs_core hn hL]; exact h3⟩
theorem keep_core {n : Nat} {L : Atts} {a b : Nat} (ha : a < n) (hb : b < n) : keep (core n L) a b = keep L a b := by
  have e1 : keep L a b = true ↔ (a, b) ∈ core n L := by
    unfold core
    simp only [List.mem_flatMap, List.mem_range, List.mem_map, List.mem_filter, Prod.mk.injEq]
    constructor
    · intro h; exact ⟨a, ha, b, ⟨hb, h⟩, rfl, rfl⟩
    · rintro ⟨_, _, _, ⟨_, h⟩, rfl, rfl⟩; exact h
  have e2 : keep (core n L) a b = true ↔ (a, b) ∈ core n (core n L) := by
    unfold core
    simp only [List.mem_flatMap, List.mem_range, List.mem_map, List.mem_filter, Prod.mk.injEq]
    constructor
    · intro h; exact ⟨a, ha, b, ⟨hb, h⟩, rfl, rfl⟩
    · rintro ⟨_, _, _, ⟨_, h⟩, rfl, rfl⟩; exact h
  have e3 : (a, b) ∈ core n (core n L) ↔ (a, b) ∈ core n L := by
    constructor
    · exact fun h => core_in h
    · intro h
      refine mem_core.2 ⟨ha, hb, h, fun hc => ?_⟩
      exact (mem_core.1 h).2.2.2 ⟨hc.1, core_in hc.2.1, hc.2.2.imp (fun h => core_in h) (fun h => core_in h)⟩
  rw [Bool.eq_iff_iff, e1, e2, e3]
theorem core_core (n : Nat) (L : Atts) : core n (core n L) = core n L := by
  conv => lhs; unfold core
  conv => rhs; unfold core
  rw [List.flatMap_def, List.flatMap_def]
  congr 1
  apply List.map_congr_left
  intro a ha
  congr 1
  apply List.filter_congr
  intro b hb
  exact keep_core (List.mem_range.1 ha) (List.mem_range.1 hb)
theorem nodup_len {α : Type} [DecidableEq α] : ∀ (l m : List α), l.Nodup → (∀ x ∈ l, x ∈ m) → l.length ≤ m.length := by
  intro l
  induction l with
  | nil => intro m _ _; simp
  | cons x l ih =>
    intro m hd hs
    have hx := hs x (by simp)
    have h1 := ih (m.erase x) (List.nodup_cons.1 hd).2 (fun y hy => by
      have hne : y ≠ x := fun e => (List.nodup_cons.1 hd).1 (e ▸ hy)
      exact (List.mem_erase_of_ne hne).2 (hs y (by simp [hy])))
    have h2 := List.length_erase_of_mem hx
    have h3 : 0 < m.length := List.length_pos_of_mem hx
    simp only [List.length_cons]
    omega
theorem core_nodup (n : Nat) (L : Atts) : (core n L).Nodup := by
  unfold core
  rw [List.Nodup, List.pairwise_flatMap]
  refine ⟨fun a _ => ?_, ?_⟩
  · rw [List.pairwise_map]
    refine (List.nodup_range.filter _).imp ?_
    intro x y h e
    exact h (by simpa using e)
  · refine List.nodup_range.imp ?_
    rintro a b h ⟨x1, x2⟩ hx ⟨y1, y2⟩ hy e
    simp only [List.mem_map, Prod.mk.injEq] at hx hy
    obtain ⟨_, _, rfl, _⟩ := hx
    obtain ⟨_, _, rfl, _⟩ := hy
    simp only [Prod.mk.injEq] at e
    exact h e.1
theorem core_len (n : Nat) (L : Atts) : (core n L).length ≤ L.length := nodup_len _ _ (core_nodup n L) fun _ h => core_in h
end Cl
namespace Cl

/-- There is a way of `k` attacks from `a` to `b`. -/
def Way (L : Atts) : Nat → Nat → Nat → Prop
  | 0, a, b => a = b
  | k + 1, a, b => ∃ c, (a, c) ∈ L ∧ Way L k c b
theorem Way.comp {L : Atts} : ∀ {k m a b c : Nat}, Way L k a b → Way L m b c → Way L (k + m) a c
  | 0, m, a, b, c, h, g => by
    have : a = b := h
    subst this
    rw [Nat.zero_add]; exact g
  | k + 1, m, a, b, c, h, g => by
    obtain ⟨d, hd, h⟩ := h
    rw [show k + 1 + m = (k + m) + 1 by omega]
    exact ⟨d, hd, h.comp g⟩
theorem way_fun {L : Atts} : ∀ {k a b : Nat}, Way L k a b → ∃ f : Nat → Nat, f 0 = a ∧ f k = b ∧ ∀ i, i < k → (f i, f (i + 1)) ∈ L
  | 0, a, b, h => ⟨fun _ => a, rfl, h, fun i hi => by omega⟩
  | k + 1, a, b, h => by
    obtain ⟨c, hc, h⟩ := h
    obtain ⟨f, h0, hk, h1⟩ := way_fun h
    refine ⟨fun i => if i = 0 then a else f (i - 1), by simp, by simpa using hk, fun i hi => ?_⟩
    by_cases e : i = 0
    · subst e; simpa [h0] using hc
    · have := h1 (i - 1) (by omega)
      rw [show i - 1 + 1 = i by omega] at this
      simpa [e] using this
theorem fun_way {L : Atts} (f : Nat → Nat) : ∀ (k i : Nat), (∀ j, i ≤ j → j < i + k → (f j, f (j + 1)) ∈ L) → Way L k (f i) (f (i + k))
  | 0, i, _ => rfl
  | k + 1, i, h => by
    refine ⟨f (i + 1), h i (Nat.le_refl _) (by omega), ?_⟩
    have := fun_way f k (i + 1) fun j h1 h2 => h j (by omega) (by omega)
    rw [show i + (k + 1) = i + 1 + k by omega]
    exact this
/-- No odd way around of at most `n` attacks. -/
def NoOdd (n : Nat) (L : Atts) : Prop := ∀ k, k ≤ n → k % 2 = 1 → ∀ s, s < n → ¬ Way L k s s
theorem way_in {n : Nat} {L : Atts} (hL : Within n L) {k a b : Nat} (h : Way L (k + 1) a b) : a < n := by
  obtain ⟨c, hc, _⟩ := h
  exact (hL _ hc).1
theorem pigeon (n len : Nat) (f : Nat → Nat) (h : ∀ i, i < len → f i < n) (hl : n < len) : ∃ i j, i < j ∧ j < len ∧ f i = f j := by
  apply Classical.byContradiction
  intro hc
  have hd : ((List.range len).map f).Nodup := by
    rw [List.Nodup, List.pairwise_map]
    refine List.Pairwise.imp_of_mem ?_ (List.pairwise_lt_range (n := len))
    intro a b _ hb hab e
    exact hc ⟨a, b, hab, List.mem_range.1 hb, e⟩
  have := nodup_len _ (List.range n) hd fun x hx => by
    obtain ⟨i, hi, rfl⟩ := List.mem_map.1 hx
    exact List.mem_range.2 (h i (List.mem_range.1 hi))
  simp at this
  omega
theorem noOdd_all {n : Nat} {L : Atts} (hL : Within n L) (h : NoOdd n L) : ∀ k, k % 2 = 1 → ∀ s, ¬ Way L k s s := by
  intro k
  induction k using Nat.strongRecOn with
  | ind k ih =>
    intro hk s hw
    obtain ⟨k', rfl⟩ : ∃ k', k = k' + 1 := ⟨k - 1, by omega⟩
    rcases Nat.lt_or_ge n (k' + 1) with hlt | hge
    · obtain ⟨f, h0, h1, h2⟩ := way_fun hw
      obtain ⟨i, j, hij, hj, e⟩ := pigeon n (k' + 1) f (fun i hi => (hL _ (h2 i hi)).1) hlt
      have w1 := fun_way (L := L) f (j - i) i fun m h3 h4 => h2 m (by omega)
      rw [show i + (j - i) = j by omega, ← e] at w1
      have w2 := fun_way (L := L) f i 0 fun m h3 h4 => h2 m (by omega)
      have w3 := fun_way (L := L) f (k' + 1 - j) j fun m h3 h4 => h2 m (by omega)
      rw [Nat.zero_add, h0] at w2
      rw [show j + (k' + 1 - j) = k' + 1 by omega, h1, ← e] at w3
      have w4 := w2.comp w3
      by_cases hp : (j - i) % 2 = 1
      · exact ih (j - i) (by omega) hp _ w1
      · exact ih (i + (k' + 1 - j)) (by omega) (by omega) _ w4
    · exact h _ hge hk s (way_in hL hw) hw

theorem filter_le {α : Type} (p q : α → Bool) (l : List α) (h : ∀ x, p x = true → q x = true) : (l.filter p).length ≤ (l.filter q).length := by
  induction l with
  | nil => simp
  | cons x l ih =>
    cases e : p x <;> cases e2 : q x <;> simp [e, e2]
    · exact ih
    · omega
    · have := h x e; simp_all
    · exact ih
theorem filter_lt {α : Type} (p q : α → Bool) (l : List α) (h : ∀ x, p x = true → q x = true) (y : α) (hy : y ∈ l) (h1 : q y = true) (h2 : p y = false) : (l.filter p).length < (l.filter q).length := by
  induction l with
  | nil => cases hy
  | cons x l ih =>
    have hle := filter_le p q l h
    rcases List.mem_cons.1 hy with e | e
    · subst e; simp [h1, h2]; omega
    · have := ih e
      cases e : p x <;> cases e2 : q x <;> simp [e, e2]
      · exact this
      · omega
      · have := h x e; simp_all
      · exact this
open Classical in
/-- One from which one comes back to wherever it is reached from. -/
theorem source {n : Nat} {L : Atts} (hL : Within n L) : ∀ (d a : Nat), ((List.range n).filter fun b => decide (∃ k, Way L k b a)).length ≤ d → a < n → ∃ b, (∃ k, Way L k b a) ∧ b < n ∧ ∀ c k, Way L k c b → ∃ m, Way L m b c := by
  intro d
  induction d with
  | zero =>
    intro a hd ha
    have : a ∈ (List.range n).filter fun b => decide (∃ k, Way L k b a) := List.mem_filter.2 ⟨List.mem_range.2 ha, decide_eq_true ⟨0, rfl⟩⟩
    have := List.length_pos_of_mem this
    omega
  | succ d ih =>
    intro a hd ha
    by_cases hc : ∀ c k, Way L k c a → ∃ m, Way L m a c
    · exact ⟨a, ⟨0, rfl⟩, ha, hc⟩
    · simp only [not_forall] at hc
      obtain ⟨c, k, hk, hn⟩ := hc
      have hcn : c < n := by
        cases k with
        | zero => have : c = a := hk; rw [this]; exact ha
        | succ k => exact way_in hL hk
      have := filter_lt (fun b => decide (∃ k, Way L k b c)) (fun b => decide (∃ k, Way L k b a)) (List.range n) (by
        intro x hx
        obtain ⟨m, hm⟩ := of_decide_eq_true hx
        exact decide_eq_true ⟨_, hm.comp hk⟩) a (List.mem_range.2 ha) (decide_eq_true ⟨0, rfl⟩) (decide_eq_false hn)
      obtain ⟨b, ⟨m, hm⟩, h1, h2⟩ := ih c (by omega) hcn
      exact ⟨b, ⟨_, hm.comp hk⟩, h1, h2⟩
open Classical in
noncomputable def mk (n : Nat) (p : Nat → Prop) : Nat := (List.range n).foldl (fun m c => if (fun c => decide (p c)) c = true then m ||| 2 ^ c else m) 0
theorem mk_bit {n : Nat} {p : Nat → Prop} {c : Nat} : (mk n p).testBit c = true ↔ c < n ∧ p c := by
  unfold mk
  rw [fold_bit]
  simp only [Nat.zero_testBit, Bool.false_or, List.any_eq_true, Bool.and_eq_true, two_bit, decide_eq_true_eq, List.mem_range]
  constructor
  · rintro ⟨c', h, h2, rfl⟩; exact ⟨h, h2⟩
  · rintro ⟨h, h2⟩; exact ⟨c, h, h2, rfl⟩
theorem mk_lt (n : Nat) (p : Nat → Prop) : mk n p < 2 ^ n :=
  fold_lt _ _ _ _ (Nat.two_pow_pos n) fun _i hi _ => pow_lt (List.mem_range.1 hi)

open Classical in
/-- Without odd ways around, what is preferred is stable. -/
theorem pref_sta {n : Nat} {L : Atts} {S : Nat} (hn : n ≤ 12) (hL : Within n L) (hO : ∀ k, k % 2 = 1 → ∀ s, ¬ Way L k s s) (h : Pref n L S) : S ∈ stables n L := by
  have hC := h.com hn
  refine (mem_stables hn hL).2 ⟨h.1, h.2.1.1, fun u hu hu0 => Classical.byContradiction fun hno => ?_⟩
  -- what is neither in the set nor attacked by it
  obtain ⟨U, hU⟩ : ∃ U : Nat → Prop, U = fun c => c < n ∧ S.testBit c = false ∧ ¬ ∃ k, S.testBit k = true ∧ (k, c) ∈ L := ⟨_, rfl⟩
  have hUu : U u := by rw [hU]; exact ⟨hu, hu0, hno⟩
  have hUn : ∀ c, U c → c < n ∧ S.testBit c = false ∧ ¬ ∃ k, S.testBit k = true ∧ (k, c) ∈ L := fun c hc => by rw [hU] at hc; exact hc
  have hUi : ∀ i c, U c → (i, c) ∈ L → (¬ ∃ k, S.testBit k = true ∧ (k, i) ∈ L) → U i := by
    intro i c hc hl hk
    rw [hU]
    refine ⟨(hL _ hl).1, ?_, hk⟩
    cases e : S.testBit i
    · rfl
    · exact absurd ⟨i, e, hl⟩ (hUn c hc).2.2
  have hatt : ∀ c, U c → ∃ i, U i ∧ (i, c) ∈ L := by
    intro c hc
    obtain ⟨h1, h2, h3⟩ := hUn c hc
    have hnd : ¬ Def L S c := fun hd => by
      have := hC.2 c h1 hd
      rw [h2] at this; cases this
    unfold Def at hnd
    simp only [not_forall] at hnd
    obtain ⟨i, hi, hk⟩ := hnd
    exact ⟨i, hUi i c hc hi hk, hi⟩
  obtain ⟨K, hK⟩ : ∃ K : Atts, K = L.filter fun p => decide (U p.1 ∧ U p.2) := ⟨_, rfl⟩
  have hKm : ∀ a b, (a, b) ∈ K ↔ (a, b) ∈ L ∧ U a ∧ U b := by
    intro a b
    rw [hK, List.mem_filter, decide_eq_true_eq]
  have hKL : Within n K := fun p hp => hL p ((hKm p.1 p.2).1 hp).1
  have hKw : ∀ {k a b}, Way K k a b → Way L k a b := by
    intro k
    induction k with
    | zero => intro a b h; exact h
    | succ k ih =>
      rintro a b ⟨c, hc, h⟩
      exact ⟨c, ((hKm a c).1 hc).1, ih h⟩
  have hKU : ∀ k a b, Way K k a b → U b → U a := by
    intro k a b hw hb
    cases k with
    | zero => have : a = b := hw; rw [this]; exact hb
    | succ k => obtain ⟨c, hc, _⟩ := hw; exact ((hKm a c).1 hc).2.1
  obtain ⟨a, ⟨k0, hk0⟩, han, hback⟩ := source hKL _ u (Nat.le_refl _) hu
  have hUa : U a := hKU _ _ _ hk0 hUu
  obtain ⟨X, hX⟩ : ∃ X, X = mk n fun b => ∃ k, k % 2 = 0 ∧ Way K k b a := ⟨_, rfl⟩
  have hXb : ∀ c, X.testBit c = true ↔ c < n ∧ ∃ k, k % 2 = 0 ∧ Way K k c a := fun c => by rw [hX]; exact mk_bit
  have hXn : X < 2 ^ n := by rw [hX]; exact mk_lt n _
  have hXU : ∀ c, X.testBit c = true → U c := fun c hc => by
    obtain ⟨_, k, _, hw⟩ := (hXb c).1 hc
    exact hKU _ _ _ hw hUa
  have hOr : ∀ c, (S ||| X).testBit c = true ↔ S.testBit c = true ∨ X.testBit c = true := fun c => by rw [Nat.testBit_or, Bool.or_eq_true]
  have hadm : Adm L (S ||| X) := by
    refine ⟨fun i j hi hj hl => ?_, fun c hc i hi => ?_⟩
    · rcases (hOr i).1 hi with hi | hi <;> rcases (hOr j).1 hj with hj | hj
      · exact h.2.1.1 i j hi hj hl
      · exact (hUn j (hXU j hj)).2.2 ⟨i, hi, hl⟩
      · exact (hUn i (hXU i hi)).2.2 (h.2.1.2 j hj i hl)
      · obtain ⟨_, q, hq, w1⟩ := (hXb i).1 hi
        obtain ⟨_, r, hr, w2⟩ := (hXb j).1 hj
        obtain ⟨p, w3⟩ := hback i q w1
        have w4 : Way K (r + 1) i a := ⟨j, (hKm i j).2 ⟨hl, hXU i hi, hXU j hj⟩, w2⟩
        by_cases e : p % 2 = 0
        · exact hO _ (show (p + (r + 1)) % 2 = 1 by omega) a (hKw (w3.comp w4))
        · exact hO _ (show (p + q) % 2 = 1 by omega) a (hKw (w3.comp w1))
    · rcases (hOr c).1 hc with hc | hc
      · obtain ⟨k, hk, hl⟩ := h.2.1.2 c hc i hi
        exact ⟨k, (hOr k).2 (.inl hk), hl⟩
      · by_cases e : ∃ k, S.testBit k = true ∧ (k, i) ∈ L
        · obtain ⟨k, hk, hl⟩ := e
          exact ⟨k, (hOr k).2 (.inl hk), hl⟩
        · have hUc := hXU c hc
          have hUi' := hUi i c hUc hi e
          obtain ⟨m, hm, hml⟩ := hatt i hUi'
          obtain ⟨_, r, hr, w⟩ := (hXb c).1 hc
          refine ⟨m, (hOr m).2 (.inr ((hXb m).2 ⟨(hL _ hml).1, r + 2, by omega, i, (hKm m i).2 ⟨hml, hm, hUi'⟩, c, (hKm i c).2 ⟨hi, hUi', hUc⟩, w⟩)), hml⟩
  have := h.2.2 (S ||| X) (Nat.or_lt_two_pow h.1 hXn) hadm fun j hj => (hOr j).2 (.inl hj)
  have h1 : S.testBit a = true := by
    rw [← this]
    exact (hOr a).2 (.inr ((hXb a).2 ⟨han, 0, rfl, rfl⟩))
  rw [(hUn a hUa).2.1] at h1
  cases h1
theorem stables_prefs {n : Nat} {L : Atts} (hn : n ≤ 12) (hL : Within n L) (h : NoOdd n L) : stables n L = prefs n L := by
  obtain ⟨p, hp⟩ := grt_sets n (comB n L) id
  have hp' : prefs n L = (List.range (2 ^ n)).filter p := hp
  rw [hp']
  apply filter_same
  intro x
  rw [← hp']
  constructor
  · exact fun h => semi_pref hn (sta_semi hn hL h)
  · exact fun hx => pref_sta hn hL (noOdd_all hL h) ((mem_prefs hn).1 hx)
/-- Where each attack leads to a greater claim there is just one complete set. -/
theorem com_one {n : Nat} {L : Atts} (h : ∀ p ∈ L, p.1 < p.2) (_hL : Within n L) {S O : Nat} (hS : S < 2 ^ n) (hO : O < 2 ^ n) (h1 : Com n L S) (h2 : Com n L O) : S = O := by
  have key : ∀ {S : Nat}, S < 2 ^ n → Com n L S → ∀ c, S.testBit c = true ↔ c < n ∧ Def L S c := fun hS hC c => ⟨fun hc => ⟨near hS hc, hC.1.2 c hc⟩, fun hc => hC.2 c hc.1 hc.2⟩
  apply bits_eq
  intro j
  induction j using Nat.strongRecOn with
  | ind j ih =>
    rw [key hS h1, key hO h2]
    constructor
    · rintro ⟨hj, hd⟩
      refine ⟨hj, fun i hi => ?_⟩
      obtain ⟨k, hk, hl⟩ := hd i hi
      exact ⟨k, (ih k (Nat.lt_trans (h _ hl) (h _ hi))).1 hk, hl⟩
    · rintro ⟨hj, hd⟩
      refine ⟨hj, fun i hi => ?_⟩
      obtain ⟨k, hk, hl⟩ := hd i hi
      exact ⟨k, (ih k (Nat.lt_trans (h _ hl) (h _ hi))).2 hk, hl⟩
theorem way_up {L : Atts} (h : ∀ p ∈ L, p.1 < p.2) : ∀ (k a b : Nat), Way L k a b → a + k ≤ b
  | 0, a, b, w => by have : a = b := w; omega
  | k + 1, a, b, ⟨c, hc, w⟩ => by have := way_up h k c b w; have := h _ hc; simp at this; omega
theorem way_par {L : Atts} (h : ∀ p ∈ L, (p.1 + p.2) % 2 = 1) : ∀ (k a b : Nat), Way L k a b → (a + b + k) % 2 = 0
  | 0, a, b, w => by have : a = b := w; omega
  | k + 1, a, b, ⟨c, hc, w⟩ => by have := way_par h k c b w; have := h _ hc; simp at this; omega
theorem up_noOdd {n : Nat} {L : Atts} (h : ∀ p ∈ L, p.1 < p.2) : NoOdd n L := fun k _ h1 s _ w => by have := way_up h k s s w; omega
theorem par_noOdd {n : Nat} {L : Atts} (h : ∀ p ∈ L, (p.1 + p.2) % 2 = 1) : NoOdd n L := fun k _ h1 s _ w => by have := way_par h k s s w; omega

/-- The claims from which `k` attacks lead to `s`. -/
def frm (L : Atts) (s : Nat) : Nat → Nat
  | 0 => 2 ^ s
  | k + 1 => un (ag L) (frm L s k)
theorem frm_lt {n : Nat} {L : Atts} (hL : Within n L) {s : Nat} (hs : s < n) (k : Nat) : frm L s k < 2 ^ n := by
  cases k with
  | zero => exact pow_lt hs
  | succ k => exact un_lt fun i => ag_lt hL i
theorem frm_bit {n : Nat} {L : Atts} (hn : n ≤ 12) (hL : Within n L) {s : Nat} (hs : s < n) : ∀ (k a : Nat), (frm L s k).testBit a = true ↔ Way L k a s
  | 0, a => by
    show (2 ^ s).testBit a = true ↔ a = s
    rw [two_bit, decide_eq_true_eq]; exact eq_comm
  | k + 1, a => by
    show (un (ag L) (frm L s k)).testBit a = true ↔ ∃ c, (a, c) ∈ L ∧ Way L k c s
    rw [un_bit]
    constructor
    · rintro ⟨c, _, h, g⟩; exact ⟨c, ag_bit.1 g, (frm_bit hn hL hs k c).1 h⟩
    · rintro ⟨c, g, h⟩
      have h' := (frm_bit hn hL hs k c).2 h
      have hc := near (frm_lt hL hs k) h'
      exact ⟨c, by omega, h', ag_bit.2 g⟩
end Cl
