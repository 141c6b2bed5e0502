import Derived.Test.YtjkbhdlbomcbeaaV1
namespace Go.Proofs.Ytjkbhdlbomcbeaa.Shf
theorem sm_le {f g : Nat → Int} : ∀ n, (∀ i, i < n → f i ≤ g i) → sm n f ≤ sm n g
  | 0, _ => Int.le_refl _
  | n + 1, h => by
    have := sm_le n (fun i hi => h i (by omega))
    have := h n (by omega)
    simp only [sm]; omega
theorem sm_congr {f g : Nat → Int} : ∀ n, (∀ i, i < n → f i = g i) → sm n f = sm n g
  | 0, _ => rfl
  | n + 1, h => by simp only [sm]; rw [sm_congr n (fun i hi => h i (by omega)), h n (by omega)]
theorem sm_nonneg {f : Nat → Int} (n : Nat) (h : ∀ i, i < n → 0 ≤ f i) : 0 ≤ sm n f := by
  induction n with
  | zero => exact Int.le_refl _
  | succ n ih => have := ih (fun i hi => h i (by omega)); have := h n (by omega); simp only [sm]; omega
/-- One place of a sum is raised. -/
theorem sm_up {f g : Nat → Int} {k : Nat} {d : Int} : ∀ n, k < n → (∀ i, i < n → i ≠ k → g i = f i) → g k = f k + d → sm n g = sm n f + d
  | 0, h, _, _ => by omega
  | n + 1, h, h1, h2 => by
    simp only [sm]
    by_cases e : k = n
    · subst e
      rw [sm_congr k (fun i hi => h1 i (by omega) (by omega)), h2]; omega
    · rw [sm_up n (by omega) (fun i hi hk => h1 i (by omega) hk) h2, h1 n (by omega) (fun e' => e e'.symm)]; omega
theorem free_iff {s : Sh} {st : List (Option Int)} {u : Nat} {x : Int} : free s st u x = true ↔ ∀ t, x ≤ t → t < x + (s.job u).l → used s st t + (s.job u).p ≤ s.P := by
  unfold free
  rw [List.all_eq_true]
  constructor
  · intro h t h1 h2
    have := h (t - x).toNat (List.mem_range.2 (by omega))
    rw [decide_eq_true_eq, show x + (((t - x).toNat : Nat) : Int) = t by omega] at this
    exact this
  · intro h k hk
    have hk := List.mem_range.1 hk
    exact decide_eq_true (h _ (by omega) (by omega))
theorem early_is (s : Sh) (st : List (Option Int)) (u : Nat) : Early s st u (early s st u) := by
  unfold early
  generalize hm : (lat (s.job u) - from0 s st u + 1).toNat = m
  cases h : ((List.range m).map fun k : Nat => from0 s st u + (k : Int)).find? (free s st u) with
  | none =>
    intro y h1 h2
    rw [List.find?_eq_none] at h
    have := h y (List.mem_map.2 ⟨(y - from0 s st u).toNat, List.mem_range.2 (by omega), by omega⟩)
    simpa using this
  | some x =>
    obtain ⟨h1, asx, bs, h2, h3⟩ := List.find?_eq_some_iff_append.1 h
    have hx := List.mem_of_find?_eq_some h
    obtain ⟨k, hk, rfl⟩ := List.mem_map.1 hx
    have hk := List.mem_range.1 hk
    refine ⟨by omega, by omega, h1, fun y hy1 hy2 => ?_⟩
    have hp : ((List.range m).map fun k : Nat => from0 s st u + (k : Int)).Pairwise (· < ·) := by
      rw [List.pairwise_map]
      exact List.pairwise_lt_range.imp fun h => by omega
    rw [h2, List.pairwise_append] at hp
    have hy : y ∈ (List.range m).map fun k : Nat => from0 s st u + (k : Int) := List.mem_map.2 ⟨(y - from0 s st u).toNat, List.mem_range.2 (by omega), by omega⟩
    rw [h2] at hy
    rcases List.mem_append.1 hy with hy | hy
    · simpa using h3 y hy
    · rcases List.mem_cons.1 hy with rfl | hy
      · omega
      · have := (List.pairwise_cons.1 hp.2.1).1 y hy; omega
theorem early_only {s : Sh} {st : List (Option Int)} {u : Nat} {a b : Option Int} (ha : Early s st u a) (hb : Early s st u b) : a = b := by
  cases a with
  | none =>
    cases b with
    | none => rfl
    | some y => have := ha y hb.1 hb.2.1; rw [hb.2.2.1] at this; cases this
  | some x =>
    cases b with
    | none => have := hb x ha.1 ha.2.1; rw [ha.2.2.1] at this; cases this
    | some y =>
      rcases Int.lt_trichotomy x y with h | h | h
      · have := hb.2.2.2 x ha.1 h; rw [ha.2.2.1] at this; cases this
      · rw [h]
      · have := ha.2.2.2 y hb.1 h; rw [hb.2.2.1] at this; cases this
theorem at_set {st : List (Option Int)} {u i : Nat} {v : Option Int} (h : u < st.length) : At (st.set u v) i = if i = u then v else At st i := by
  unfold At
  rw [List.getD_eq_getElem?_getD, List.getD_eq_getElem?_getD, List.getElem?_set]
  by_cases e : u = i
  · subst e; simp [h]
  · rw [if_neg e, if_neg (fun h => e h.symm)]
theorem from0_ge (s : Sh) (st : List (Option Int)) (u : Nat) : (s.job u).f ≤ from0 s st u ∧ ∀ o ∈ s.os, o.2 = u → endOf s st o.1 ≤ from0 s st u := by
  unfold from0
  have key : ∀ (os : List (Nat × Nat)) (x : Int), x ≤ os.foldl (fun x o => if o.2 = u then max x (endOf s st o.1) else x) x ∧ ∀ o ∈ os, o.2 = u → endOf s st o.1 ≤ os.foldl (fun x o => if o.2 = u then max x (endOf s st o.1) else x) x := by
    intro os
    induction os with
    | nil => intro x; exact ⟨Int.le_refl _, fun o h => by cases h⟩
    | cons a os ih =>
      intro x
      rw [List.foldl_cons]
      obtain ⟨h1, h2⟩ := ih (if a.2 = u then max x (endOf s st a.1) else x)
      refine ⟨?_, fun o ho hu => ?_⟩
      · split at h1 <;> rename_i e
        · rw [if_pos e]; omega
        · rw [if_neg e]; exact h1
      · rcases List.mem_cons.1 ho with rfl | ho
        · rw [if_pos hu] at h1 ⊢; omega
        · exact h2 o ho hu
  exact key s.os _
theorem from0_le {s : Sh} {st : List (Option Int)} {u : Nat} {m : Int} (h0 : (s.job u).f ≤ m) (h : ∀ o ∈ s.os, o.2 = u → endOf s st o.1 ≤ m) : from0 s st u ≤ m := by
  unfold from0
  have key : ∀ (os : List (Nat × Nat)) (x : Int), x ≤ m → (∀ o ∈ os, o.2 = u → endOf s st o.1 ≤ m) → os.foldl (fun x o => if o.2 = u then max x (endOf s st o.1) else x) x ≤ m := by
    intro os
    induction os with
    | nil => intro x h1 _; exact h1
    | cons a os ih =>
      intro x h1 h2
      rw [List.foldl_cons]
      refine ih _ ?_ (fun o ho => h2 o (List.mem_cons_of_mem _ ho))
      split
      · rename_i e
        have := h2 a (List.mem_cons_self ..) e; omega
      · exact h1
  exact key s.os _ h0 h
theorem act_nonneg {j : J} (hp : 0 ≤ j.p) (x t : Int) : 0 ≤ act j x t := by unfold act; split <;> omega
theorem used_set {s : Sh} {st : List (Option Int)} {u : Nat} {x : Int} (hl : st.length = s.n) (hu : u < s.n) (hn : At st u = none) (t : Int) : used s (st.set u (some x)) t = used s st t + act (s.job u) x t := by
  unfold used
  refine sm_up s.n hu (fun i _ hne => ?_) ?_
  · rw [at_set (by omega), if_neg hne]
  · rw [at_set (by omega), if_pos rfl, hn]; simp
theorem part_step {s : Sh} (hs : Loose s) {st : List (Option Int)} (h : Part s st) {u : Nat} (hu : u < s.n) (hn : At st u = none) (hx : isNext s st u = true) {x : Int} (he : Early s st u (some x)) : Part s (st.set u (some x)) := by
  obtain ⟨e1, e2, e3, _⟩ := he
  obtain ⟨g1, g2⟩ := from0_ge s st u
  have hj := hs.jobs u hu
  refine ⟨by rw [List.length_set]; exact h.len, fun i y hi hy => ?_, fun t h1 h2 => ?_, fun o ho y hy => ?_⟩
  · rw [at_set (by rw [h.len]; exact hu)] at hy
    split at hy
    · rename_i e; subst e
      injection hy with hy; subst hy
      exact ⟨by omega, e2⟩
    · exact h.range i y hi hy
  · rw [used_set h.len hu hn]
    unfold act
    split
    · rename_i hc
      exact free_iff.1 e3 t hc.1 hc.2
    · have := h.load t h1 h2; omega
  · rw [at_set (by rw [h.len]; exact hu)] at hy
    obtain ⟨o1, o2, o3⟩ := hs.orders o ho
    unfold isNext at hx
    rw [List.all_eq_true] at hx
    have hxo := hx o ho
    split at hy
    · rename_i e
      injection hy with hy; subst hy
      simp only [e, decide_true, Bool.true_and, Bool.not_eq_true', Option.isNone_eq_false_iff, Option.isSome_iff_exists] at hxo
      obtain ⟨z, hz⟩ := hxo
      refine ⟨z, by rw [at_set (by rw [h.len]; exact hu), if_neg (by omega)]; exact hz, ?_⟩
      have := g2 o ho e
      unfold endOf at this
      rw [hz] at this
      simp only at this
      omega
    · obtain ⟨z, hz, hz2⟩ := h.order o ho y hy
      refine ⟨z, ?_, hz2⟩
      rw [at_set (by rw [h.len]; exact hu), if_neg (fun e => by rw [e, hn] at hz; cases hz)]
      exact hz
/-- All laid: a schedule. -/
theorem part_all {s : Sh} (hs : Loose s) {st : List (Option Int)} (h : Part s st) (ha : ∀ i, i < s.n → (At st i).isSome = true) : Sched s fun i => (At st i).getD 0 := by
  have hat : ∀ i, i < s.n → At st i = some ((At st i).getD 0) := fun i hi => by
    obtain ⟨x, hx⟩ := Option.isSome_iff_exists.1 (ha i hi)
    rw [hx]; rfl
  refine ⟨fun i hi => h.range i _ hi (hat i hi), fun t h1 h2 => ?_, fun o ho => ?_⟩
  · have := h.load t h1 h2
    have e : used s st t = loadAt s (fun i => (At st i).getD 0) t := sm_congr _ fun i hi => by rw [hat i hi]
    omega
  · obtain ⟨o1, o2, _⟩ := hs.orders o ho
    obtain ⟨x, hx, hle⟩ := h.order o ho _ (hat o.2 o2)
    have : (At st o.1).getD 0 = x := by rw [hx]; rfl
    show (At st o.1).getD 0 + _ ≤ _
    rw [this]; exact hle
theorem comp_sound {s : Sh} (hs : Loose s) : ∀ (k : Nat) (st : List (Option Int)), Part s st → comp s k st = true → ∃ S, Sched s S
  | 0, st, h, hc => by
    unfold comp at hc
    rw [List.all_eq_true] at hc
    exact ⟨_, part_all hs h fun i hi => hc i (List.mem_range.2 hi)⟩
  | k + 1, st, h, hc => by
    unfold comp at hc
    simp only [Bool.and_eq_true, Bool.or_eq_true, List.all_eq_true, List.any_eq_true, List.mem_range] at hc
    obtain ⟨h1, h2⟩ := hc
    rcases h2 with h2 | ⟨i, hi, ⟨h3, h4⟩, h5⟩
    · exact ⟨_, part_all hs h h2⟩
    · have hn : At st i = none := by simpa using h3
      rcases h1 i hi with h6 | h6
      · rw [hn] at h6; cases h6
      · obtain ⟨x, hx⟩ := Option.isSome_iff_exists.1 h6
        rw [hx] at h5
        have he := early_is s st i
        rw [hx] at he
        exact comp_sound hs k _ (part_step hs h hi hn h4 he) h5
theorem used_ahead {s : Sh} (hs : Loose s) {S : Nat → Int} {st : List (Option Int)} (h : Ahead s S st) {u : Nat} (hu : u < s.n) (hn : At st u = none) {t : Int} (h1 : S u ≤ t) (h2 : t < S u + (s.job u).l) :
    used s st t + (s.job u).p ≤ loadAt s S t := by
  have hup : loadAt s S t = sm s.n (fun i => if i = u then 0 else act (s.job i) (S i) t) + (s.job u).p := by
    unfold loadAt
    refine sm_up (k := u) s.n hu (fun i _ hne => ?_) ?_
    · simp [hne]
    · simp [act, h1, h2]
  rw [hup]
  have : used s st t ≤ sm s.n (fun i => if i = u then 0 else act (s.job i) (S i) t) := by
    unfold used
    refine sm_le s.n fun i hi => ?_
    by_cases e : i = u
    · subst e; rw [hn]; simp
    · rw [if_neg e]
      have hp := (hs.jobs i hi).2.2.2.2.2.2.1
      cases hx : At st i with
      | none => exact act_nonneg (by omega) _ _
      | some x =>
        have hle := h.le i x hi hx
        have hf := h.first i u hi hu (by rw [hx]; rfl) hn
        show act (s.job i) x t ≤ act (s.job i) (S i) t
        unfold act
        by_cases hc : x ≤ t ∧ t < x + (s.job i).l
        · rw [if_pos hc, if_pos ⟨by omega, by omega⟩]; exact Int.le_refl _
        · rw [if_neg hc]; split <;> omega
  omega
theorem ahead_early {s : Sh} (hs : Loose s) {S : Nat → Int} (hS : Sched s S) {st : List (Option Int)} (h : Ahead s S st) {u : Nat} (hu : u < s.n) (hn : At st u = none) : ∃ x, early s st u = some x ∧ x ≤ S u := by
  have he := early_is s st u
  have hr := hS.range u hu
  have hj := hs.jobs u hu
  have h0 : from0 s st u ≤ S u := from0_le hr.1 fun o ho e => by
    obtain ⟨o1, _, _⟩ := hs.orders o ho
    have hord := hS.order o ho
    rw [e] at hord
    unfold endOf
    cases hx : At st o.1 with
    | none => simp only; omega
    | some x => have := h.le o.1 x o1 hx; simp only; omega
  have hf : free s st u (S u) = true := free_iff.2 fun t h1 h2 => by
    have := used_ahead hs h hu hn h1 h2
    have hlt : t < 24 := by have := hj.2.2.2.2.1; have h4 := hr.2; unfold lat at h4; omega
    have := hS.load t (by omega) hlt
    omega
  cases e : early s st u with
  | none => rw [e] at he; have := he (S u) h0 hr.2; rw [hf] at this; cases this
  | some x =>
    rw [e] at he
    refine ⟨x, rfl, Int.not_lt.1 fun hlt => ?_⟩
    have := he.2.2.2 (S u) h0 hlt
    rw [hf] at this; cases this
theorem least_open {S : Nat → Int} : ∀ (l : List Nat), l ≠ [] → ∃ u ∈ l, ∀ v ∈ l, S u ≤ S v
  | [a], _ => ⟨a, by simp, by simp⟩
  | a :: b :: l, _ => by
    obtain ⟨u, hu, h⟩ := least_open (S := S) (b :: l) (by simp)
    by_cases e : S a ≤ S u
    · exact ⟨a, by simp, fun v hv => by rcases List.mem_cons.1 hv with rfl | hv; exact Int.le_refl _; exact Int.le_trans e (h v hv)⟩
    · exact ⟨u, List.mem_cons_of_mem _ hu, fun v hv => by rcases List.mem_cons.1 hv with rfl | hv; omega; exact h v hv⟩
theorem open_set {s : Sh} {st : List (Option Int)} {u : Nat} {x : Int} (hl : st.length = s.n) (hu : u < s.n) (hn : At st u = none) : openN s (st.set u (some x)) + 1 = openN s st := by
  unfold openN
  have key : ∀ n, u < n → ((List.range n).filter fun i => (At (st.set u (some x)) i).isNone).length + 1 = ((List.range n).filter fun i => (At st i).isNone).length := by
    intro n
    induction n with
    | zero => intro h; omega
    | succ n ih =>
      intro h
      rw [List.range_succ, List.filter_append, List.filter_append, List.length_append, List.length_append]
      by_cases e : u = n
      · subst e
        have : ((List.range u).filter fun i => (At (st.set u (some x)) i).isNone) = ((List.range u).filter fun i => (At st i).isNone) := by
          refine List.filter_congr fun i hi => ?_
          have hi := List.mem_range.1 hi
          rw [at_set (by omega), if_neg (by omega)]
        rw [this]
        simp [at_set (show u < st.length by omega), hn]
      · have := ih (by omega)
        have e2 : At (st.set u (some x)) n = At st n := by rw [at_set (by omega), if_neg (fun h => e h.symm)]
        simp only [List.filter_cons, e2, List.filter_nil] at this ⊢
        omega
  exact key s.n hu
theorem comp_full {s : Sh} (hs : Loose s) {S : Nat → Int} (hS : Sched s S) : ∀ (k : Nat) (st : List (Option Int)), Ahead s S st → openN s st ≤ k → comp s k st = true
  | 0, st, h, hk => by
    unfold comp
    rw [List.all_eq_true]
    intro i hi
    cases e : At st i with
    | some x => rfl
    | none =>
      have : i ∈ (List.range s.n).filter fun i => (At st i).isNone := List.mem_filter.2 ⟨hi, by rw [e]; rfl⟩
      have := List.length_pos_of_mem this
      unfold openN at hk; omega
  | k + 1, st, h, hk => by
    unfold comp
    simp only [Bool.and_eq_true, Bool.or_eq_true, List.all_eq_true, List.any_eq_true, List.mem_range]
    refine ⟨fun i hi => ?_, ?_⟩
    · cases e : At st i with
      | some x => exact .inl rfl
      | none => obtain ⟨x, hx, _⟩ := ahead_early hs hS h hi e; exact .inr (by rw [hx]; rfl)
    · by_cases hall : ∀ i, i < s.n → (At st i).isSome = true
      · exact .inl hall
      · right
        have hne : ((List.range s.n).filter fun i => (At st i).isNone) ≠ [] := fun e => hall fun i hi => by
          cases e2 : At st i with
          | some x => rfl
          | none =>
            have : i ∈ (List.range s.n).filter fun i => (At st i).isNone := List.mem_filter.2 ⟨List.mem_range.2 hi, by rw [e2]; rfl⟩
            rw [e] at this; cases this
        obtain ⟨u, hu, hmin⟩ := least_open (S := S) _ hne
        obtain ⟨hu1, hu2⟩ := List.mem_filter.1 hu
        have hu1 := List.mem_range.1 hu1
        have hn : At st u = none := by simpa using hu2
        obtain ⟨x, hx, hxS⟩ := ahead_early hs hS h hu1 hn
        refine ⟨u, hu1, ⟨by rw [hn]; rfl, ?_⟩, ?_⟩
        · unfold isNext
          rw [List.all_eq_true]
          intro o ho
          obtain ⟨o1, o2, _⟩ := hs.orders o ho
          by_cases e : o.2 = u
          · have hord := hS.order o ho
            have hl := (hs.jobs o.1 o1).2.2.1
            cases e2 : At st o.1 with
            | some y => simp
            | none =>
              have := hmin o.1 (List.mem_filter.2 ⟨List.mem_range.2 o1, by rw [e2]; rfl⟩)
              rw [e] at hord; omega
          · simp [e]
        · rw [hx]
          refine comp_full hs hS k _ ⟨by rw [List.length_set]; exact h.len, fun i y hi hy => ?_, fun i v hi hv hi2 hv2 => ?_⟩ ?_
          · rw [at_set (by rw [h.len]; exact hu1)] at hy
            split at hy
            · rename_i e; subst e; injection hy with hy; subst hy; exact hxS
            · exact h.le i y hi hy
          · rw [at_set (by rw [h.len]; exact hu1)] at hi2 hv2
            split at hv2
            · cases hv2
            · split at hi2
              · rename_i e; subst e
                exact hmin v (List.mem_filter.2 ⟨List.mem_range.2 hv, by rw [hv2]; rfl⟩)
              · exact h.first i v hi hv hi2 hv2
          · have := open_set (x := x) h.len hu1 hn; omega
theorem at_none (n i : Nat) : At (List.replicate n none) i = none := by
  unfold At
  rw [List.getD_eq_getElem?_getD, List.getElem?_replicate]
  split <;> rfl
theorem used_none (s : Sh) (t : Int) : used s (List.replicate s.n none) t = 0 := by
  unfold used
  have : ∀ n, sm n (fun i => match At (List.replicate s.n none) i with | some x => act (s.job i) x t | none => 0) = 0 := by
    intro n
    induction n with
    | zero => rfl
    | succ n ih => rw [sm, ih]; simp [at_none]
  exact this s.n
/-- **Laying finds out whether there is a schedule.** -/
theorem cbd_iff {s : Sh} (hs : Loose s) : cbd s = true ↔ ∃ S, Sched s S := by
  constructor
  · intro h
    refine comp_sound hs s.n _ ⟨by simp, fun i x _ h => ?_, fun t _ _ => ?_, fun o _ y h => ?_⟩ h
    · rw [at_none] at h; cases h
    · rw [used_none]; have := hs.power; omega
    · rw [at_none] at h; cases h
  · rintro ⟨S, hS⟩
    refine comp_full hs hS s.n _ ⟨by simp, fun i x _ h => ?_, fun i u _ _ h _ => ?_⟩ ?_
    · rw [at_none] at h; cases h
    · rw [at_none] at h; cases h
    · unfold openN
      exact Nat.le_trans (List.length_filter_le _ _) (by simp)
theorem put_n (s : Sh) (i : Nat) (j : J) : (s.put i j).n = s.n := by simp [Sh.put, Sh.n]
theorem put_job {s : Sh} {i : Nat} (h : i < s.n) (j : J) (k : Nat) : (s.put i j).job k = if k = i then j else s.job k := by
  unfold Sh.put Sh.job
  rw [List.getD_eq_getElem?_getD, List.getD_eq_getElem?_getD, List.getElem?_set]
  by_cases e : i = k
  · subst e
    rw [if_pos rfl, if_pos rfl, if_pos (show i < s.js.length from h)]; rfl
  · rw [if_neg e, if_neg (fun e' => e e'.symm)]
theorem act_l {j j' : J} (h1 : j.l = j'.l) (h2 : j.p = j'.p) (x t : Int) : act j x t = act j' x t := by unfold act; rw [h1, h2]
theorem sched_put {s : Sh} {i : Nat} (hi : i < s.n) {j : J} (hl : j.l = (s.job i).l) (hp : j.p = (s.job i).p) (S : Nat → Int) :
    Sched (s.put i j) S ↔ (∀ k, k < s.n → k ≠ i → (s.job k).f ≤ S k ∧ S k ≤ lat (s.job k)) ∧ (j.f ≤ S i ∧ S i ≤ lat j) ∧ (∀ t, 0 ≤ t → t < 24 → loadAt s S t ≤ s.P) ∧ ∀ o ∈ s.os, S o.1 + (s.job o.1).l ≤ S o.2 := by
  have hload : ∀ t, loadAt (s.put i j) S t = loadAt s S t := fun t => by
    unfold loadAt
    rw [put_n]
    refine sm_congr _ fun k hk => ?_
    rw [put_job hi]
    split
    · rename_i e; subst e; exact act_l hl hp _ _
    · rfl
  have hlen : ∀ k, ((s.put i j).job k).l = (s.job k).l := fun k => by
    rw [put_job hi]; split
    · rename_i e; subst e; exact hl
    · rfl
  constructor
  · intro h
    refine ⟨fun k hk hne => ?_, ?_, fun t h1 h2 => ?_, fun o ho => ?_⟩
    · have := h.range k (by rw [put_n]; exact hk)
      rw [put_job hi, if_neg hne] at this; exact this
    · have := h.range i (by rw [put_n]; exact hi)
      rw [put_job hi, if_pos rfl] at this; exact this
    · have := h.load t h1 h2; rw [hload] at this; exact this
    · have := h.order o ho; rw [hlen] at this; exact this
  · rintro ⟨h1, h2, h3, h4⟩
    refine ⟨fun k hk => ?_, fun t t1 t2 => ?_, fun o ho => ?_⟩
    · rw [put_n] at hk
      rw [put_job hi]
      split
      · rename_i e; subst e; exact h2
      · rename_i e; exact h1 k hk e
    · rw [hload]; exact h3 t t1 t2
    · rw [hlen]; exact h4 o ho
theorem sched_iff {s : Sh} {S : Nat → Int} {i : Nat} (hi : i < s.n) : Sched s S ↔ (∀ k, k < s.n → k ≠ i → (s.job k).f ≤ S k ∧ S k ≤ lat (s.job k)) ∧ ((s.job i).f ≤ S i ∧ S i ≤ lat (s.job i)) ∧ (∀ t, 0 ≤ t → t < 24 → loadAt s S t ≤ s.P) ∧ ∀ o ∈ s.os, S o.1 + (s.job o.1).l ≤ S o.2 := by
  constructor
  · intro h
    exact ⟨fun k hk _ => h.range k hk, h.range i hi, h.load, h.order⟩
  · rintro ⟨h1, h2, h3, h4⟩
    exact ⟨fun k hk => if e : k = i then by subst e; exact h2 else h1 k hk e, h3, h4⟩
theorem sched_till {s : Sh} {i : Nat} (hi : i < s.n) {x : Int} (hx : x ≤ lat (s.job i)) (S : Nat → Int) : Sched (till s i x) S ↔ Sched s S ∧ S i ≤ x := by
  unfold till
  rw [sched_put hi (j := tillJ (s.job i) x) rfl rfl, sched_iff hi]
  have : lat (tillJ (s.job i) x) = x := by simp [lat, tillJ]
  rw [this]
  constructor
  · rintro ⟨h1, ⟨h2, h3⟩, h4⟩
    exact ⟨⟨h1, ⟨h2, by omega⟩, h4⟩, h3⟩
  · rintro ⟨⟨h1, ⟨h2, _⟩, h4⟩, h3⟩
    exact ⟨h1, ⟨h2, h3⟩, h4⟩
theorem sched_later {s : Sh} {i : Nat} (hi : i < s.n) {x : Int} (hx : (s.job i).f ≤ x + 1) (S : Nat → Int) : Sched (later s i x) S ↔ Sched s S ∧ x + 1 ≤ S i := by
  unfold later
  rw [sched_put hi (j := afterJ (s.job i) x) rfl rfl, sched_iff hi]
  have e1 : lat (afterJ (s.job i) x) = lat (s.job i) := rfl
  have e2 : (afterJ (s.job i) x).f = x + 1 := rfl
  rw [e1, e2]
  constructor
  · rintro ⟨h1, ⟨h2, h3⟩, h4⟩
    exact ⟨⟨h1, ⟨by omega, h3⟩, h4⟩, h2⟩
  · rintro ⟨⟨h1, ⟨_, h2⟩, h4⟩, h3⟩
    exact ⟨h1, ⟨h3, h2⟩, h4⟩
theorem ending_job (s : Sh) (e : Int) {i : Nat} (hi : i < s.n) : (ending s e).job i = { s.job i with t := min (s.job i).t e } := by
  have h : i < s.js.length := hi
  simp [ending, Sh.job, List.getD_eq_getElem?_getD, h]
theorem ending_n (s : Sh) (e : Int) : (ending s e).n = s.n := by simp [ending, Sh.n]
theorem sched_ending {s : Sh} (ho : ∀ o ∈ s.os, o.1 < s.n ∧ o.2 < s.n ∧ o.1 ≠ o.2) {e : Int} (S : Nat → Int) : Sched (ending s e) S ↔ Sched s S ∧ ∀ i, i < s.n → S i + (s.job i).l ≤ e := by
  have hload : ∀ t, loadAt (ending s e) S t = loadAt s S t := fun t => by
    unfold loadAt
    rw [ending_n]
    exact sm_congr _ fun k hk => by rw [ending_job s e hk]; exact act_l rfl rfl _ _
  have hlat : ∀ i, i < s.n → lat ((ending s e).job i) = min (s.job i).t e - (s.job i).l := fun i hi => by rw [ending_job s e hi]; rfl
  have hf : ∀ i, i < s.n → ((ending s e).job i).f = (s.job i).f := fun i hi => by rw [ending_job s e hi]
  have hl : ∀ i, i < s.n → ((ending s e).job i).l = (s.job i).l := fun i hi => by rw [ending_job s e hi]
  constructor
  · intro h
    have hr : ∀ i, i < s.n → (s.job i).f ≤ S i ∧ S i ≤ min (s.job i).t e - (s.job i).l := fun i hi => by
      have := h.range i (by rw [ending_n]; exact hi)
      rw [hf i hi, hlat i hi] at this; exact this
    refine ⟨⟨fun i hi => ?_, fun t h1 h2 => ?_, fun o hmem => ?_⟩, fun i hi => ?_⟩
    · have := hr i hi; unfold lat; omega
    · have := h.load t h1 h2; rw [hload] at this; exact this
    · have := h.order o hmem; rw [hl o.1 (ho o hmem).1] at this; exact this
    · have := hr i hi; omega
  · rintro ⟨h, h2⟩
    refine ⟨fun i hi => ?_, fun t h1 h3 => ?_, fun o hmem => ?_⟩
    · rw [ending_n] at hi
      have := h.range i hi
      have := h2 i hi
      rw [hf i hi, hlat i hi]
      unfold lat at *
      omega
    · rw [hload]; exact h.load t h1 h3
    · rw [hl o.1 (ho o hmem).1]; exact h.order o hmem
theorem loose_put {s : Sh} (hs : Loose s) {i : Nat} (hi : i < s.n) {j : J} (hj : 0 ≤ j.f ∧ j.f ≤ 24 ∧ 1 ≤ j.l ∧ j.l ≤ 24 ∧ j.t ≤ 24 ∧ 0 ≤ j.t ∧ 1 ≤ j.p ∧ j.p ≤ 20) : Loose (s.put i j) where
  jobs k hk := by
    rw [put_n] at hk
    rw [put_job hi]
    split
    · exact hj
    · exact hs.jobs k hk
  orders o ho := by rw [put_n]; exact hs.orders o ho
  power := hs.power
  num := by rw [put_n]; exact hs.num
  few := hs.few
theorem loose_till {s : Sh} (hs : Loose s) {i : Nat} (hi : i < s.n) {x : Int} (h0 : (s.job i).f ≤ x) (hx : x ≤ lat (s.job i)) : Loose (till s i x) := by
  refine loose_put hs hi ?_
  have := hs.jobs i hi
  unfold lat at hx
  simp only [tillJ]
  omega
theorem loose_later {s : Sh} (hs : Loose s) {i : Nat} (hi : i < s.n) {x : Int} (h0 : (s.job i).f ≤ x) (hx : x < lat (s.job i)) : Loose (later s i x) := by
  refine loose_put hs hi ?_
  have := hs.jobs i hi
  unfold lat at hx
  simp only [afterJ]
  omega
theorem loose_ending {s : Sh} (hs : Loose s) {e : Int} (he : 0 ≤ e) : Loose (ending s e) where
  jobs i hi := by
    rw [ending_n] at hi
    have := hs.jobs i hi
    rw [ending_job s e hi]
    simp only
    omega
  orders o ho := by rw [ending_n]; exact hs.orders o ho
  power := hs.power
  num := by rw [ending_n]; exact hs.num
  few := hs.few
theorem firsts_zero {s : Sh} (hs : Loose s) (h : ∃ S, Sched s S) (L : Nat → Int) : Firsts s 0 L s :=
  ⟨hs, rfl, rfl, rfl, fun _ => rfl, fun _ _ => rfl, fun S => ⟨fun h => ⟨h, fun i hi => by omega⟩, fun h => h.1⟩, h, fun S _ => .inl fun i hi => by omega⟩
theorem firsts_step {s : Sh} {k : Nat} {L : Nat → Int} {c : Sh} (h : Firsts s k L c) (hk : k < s.n) {x : Int} (h1 : (c.job k).f ≤ x) (h2 : x ≤ lat (c.job k)) (h3 : ∃ S, Sched (till c k x) S)
    (h4 : ∀ y, (c.job k).f ≤ y → y < x → ¬ ∃ S, Sched (till c k y) S) (hx : L k = x) : Firsts s (k + 1) L (till c k x) := by
  have hk' : k < c.n := by rw [h.n]; exact hk
  refine ⟨loose_till h.loose hk' h1 h2, by rw [till, put_n, h.n], h.os, h.P, fun i => ?_, fun i hi => ?_, fun S => ?_, h3, fun S hS => ?_⟩
  · rw [till, put_job hk']
    split
    · rename_i e; subst e; exact h.l _
    · exact h.l i
  · rw [till, put_job hk', if_neg (by omega)]; exact h.rest i (by omega)
  · rw [sched_till hk' h2, h.iff]
    constructor
    · rintro ⟨⟨a, b⟩, d⟩
      exact ⟨a, fun i hi => if e : i = k then by subst e; rw [hx]; exact d else b i (by omega)⟩
    · rintro ⟨a, b⟩
      exact ⟨⟨a, fun i hi => b i (by omega)⟩, by rw [← hx]; exact b k (by omega)⟩
  · rcases h.least S hS with e | ⟨i, hi, e1, e2⟩
    · have hc : Sched c S := (h.iff S).2 ⟨hS, fun i hi => by rw [e i hi]; exact Int.le_refl _⟩
      have hr := hc.range k hk'
      have hge : x ≤ S k := Int.not_lt.1 fun hlt => h4 (S k) hr.1 hlt ⟨S, (sched_till hk' hr.2 S).2 ⟨hc, Int.le_refl _⟩⟩
      rcases Int.lt_or_eq_of_le hge with hlt | heq
      · exact .inr ⟨k, by omega, e, by rw [hx]; exact hlt⟩
      · refine .inl fun i hi => ?_
        by_cases e2 : i = k
        · subst e2; rw [hx]; exact heq
        · exact e i (by omega)
    · exact .inr ⟨i, by omega, e1, e2⟩
theorem firsts_all {s : Sh} {L : Nat → Int} {c : Sh} (h : Firsts s s.n L c) : ∃ S, First s S ∧ ∀ i, i < s.n → S i = L i := by
  obtain ⟨S, hS⟩ := h.some
  obtain ⟨h1, h2⟩ := (h.iff S).1 hS
  have heq : ∀ i, i < s.n → L i = S i := by
    rcases h.least S h1 with e | ⟨i, hi, _, e⟩
    · exact e
    · have := h2 i hi; omega
  refine ⟨S, ⟨h1, fun T hT => ?_⟩, fun i hi => (heq i hi).symm⟩
  rcases h.least T hT with e | ⟨i, hi, e1, e2⟩
  · exact .inl fun i hi => by rw [← heq i hi]; exact e i hi
  · exact .inr ⟨i, hi, fun j hj => by rw [← heq j (by omega)]; exact e1 j hj, by rw [← heq i hi]; exact e2⟩
theorem first_only {s : Sh} {L L' : Nat → Int} (h : First s L) (h' : First s L') : ∀ i, i < s.n → L i = L' i := by
  rcases h.least L' h'.is with e | ⟨i, hi, e1, e2⟩
  · exact e
  · rcases h'.least L h.is with e | ⟨j, hj, e3, e4⟩
    · exact fun i hi => (e i hi).symm
    · rcases Nat.lt_trichotomy i j with hij | hij | hij
      · have := e3 i hij; omega
      · subst hij; omega
      · have := e1 j hij; omega
end Go.Proofs.Ytjkbhdlbomcbeaa.Shf
