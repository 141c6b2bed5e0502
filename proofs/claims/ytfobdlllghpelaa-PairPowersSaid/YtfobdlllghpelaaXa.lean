import Derived.Test.YtfobdlllghpelaaZx
namespace Go.Proofs.Ytfobdlllghpelaa
open Go.RowKit Go.Shelf Pair

theorem cmpL_lex : ∀ {a b : List Nat}, a.length = b.length → (cmpL (natI a) (natI b) < 0 ↔ lexLt a b)
  | [], [], _ => by simp [natI, cmpL, lexLt]
  | [], _ :: _, h => by simp at h
  | _ :: _, [], h => by simp at h
  | x :: a, y :: b, h => by
    have ih := cmpL_lex (a := a) (b := b) (by simpa using h)
    show (if cmpI (x : Int) (y : Int) = 0 then cmpL (natI a) (natI b) else cmpI (x : Int) (y : Int)) < 0 ↔ x < y ∨ (x = y ∧ lexLt a b)
    by_cases h1 : x < y
    · have e : cmpI (x : Int) (y : Int) = -1 := by unfold cmpI; rw [if_pos (by omega)]
      rw [e, if_neg (by omega)]
      simp [h1]
    · by_cases h2 : y < x
      · have e : cmpI (x : Int) (y : Int) = 1 := by unfold cmpI; rw [if_neg (by omega), if_pos (by omega)]
        rw [e, if_neg (by omega)]
        simp
        omega
      · obtain rfl : x = y := by omega
        have e : cmpI (x : Int) (x : Int) = 0 := by unfold cmpI; rw [if_neg (by omega), if_neg (by omega)]
        rw [e, if_pos rfl, ih]
        simp
theorem fall_max {l : List Nat} (h : l ≠ []) : (falling l).getD 0 0 ∈ l ∧ ∀ a ∈ l, a ≤ (falling l).getD 0 0 := by
  have hp := falling_perm l
  have hs := falling_sorted l
  cases e : falling l with
  | nil => rw [e] at hp; exact absurd hp.symm.eq_nil h
  | cons a r =>
    rw [e] at hp hs
    rw [List.pairwise_cons] at hs
    refine ⟨hp.mem_iff.1 (by simp), fun b hb => ?_⟩
    rcases List.mem_cons.1 (hp.mem_iff.2 hb) with rfl | h
    · exact Nat.le_refl _
    · exact hs.1 b h
theorem fall_min {l : List Nat} (h : l ≠ []) : (falling l).getD ((falling l).length - 1) 0 ∈ l ∧ ∀ a ∈ l, (falling l).getD ((falling l).length - 1) 0 ≤ a := by
  have hp := falling_perm l
  have hs := falling_sorted l
  have hlen : 0 < (falling l).length := by rw [hp.length_eq]; exact List.length_pos_iff.2 h
  have hg : (falling l).getD ((falling l).length - 1) 0 = (falling l)[(falling l).length - 1] := by
    rw [List.getD_eq_getElem?_getD, List.getElem?_eq_getElem (by omega)]; rfl
  rw [hg]
  refine ⟨hp.mem_iff.1 (List.getElem_mem _), fun a ha => ?_⟩
  obtain ⟨i, hi, rfl⟩ := List.getElem_of_mem (hp.mem_iff.2 ha)
  rcases Nat.lt_or_ge i ((falling l).length - 1) with h1 | h1
  · exact List.pairwise_iff_getElem.1 hs i _ hi (by omega) h1
  · have : i = (falling l).length - 1 := by omega
    subst this; exact Nat.le_refl _
/-- A pairing, as a list. -/
def PermL (n : Nat) (p : List Nat) : Prop := p.length = n ∧ p.Nodup ∧ ∀ a ∈ p, a < n
theorem allP_perm {n : Nat} {l : List Nat} : l ∈ allP n n [] ↔ PermL n l := by
  constructor
  · exact all_mem
  · rintro ⟨h1, h2, h3⟩
    exact (mem_allP n n [] l (by simp) (by simp)).2 ⟨by simp, by simpa using h1, h2, h3⟩
theorem PermL.at {n : Nat} {p : List Nat} (h : PermL n p) {i : Nat} (hi : i < n) : p.getD i 0 < n := h.2.2 _ (getD_mem (by rw [h.1]; exact hi))
theorem costsN_mem {cs : List (List Int)} {p : List Nat} {x : Nat} : x ∈ costsN cs p ↔ ∃ i, i < p.length ∧ x = (costAt cs i (p.getD i 0)).toNat := by
  unfold costsN
  rw [List.mem_map]
  constructor
  · rintro ⟨i, hi, rfl⟩; exact ⟨i, List.mem_range.1 hi, rfl⟩
  · rintro ⟨i, hi, rfl⟩; exact ⟨i, List.mem_range.2 hi, rfl⟩
theorem costsN_ne {cs : List (List Int)} {n : Nat} {p : List Nat} (hn : 1 ≤ n) (h : p.length = n) : costsN cs p ≠ [] := by
  intro e
  have : (costsN cs p).length = n := by simp [costsN, h]
  rw [e] at this; simp at this; omega
/-- The greatest cost of a pairing. -/
theorem wr_spec {cs : List (List Int)} {n : Nat} {p : List Nat} (hg : Good cs n) (h : PermL n p) : (∀ i, i < n → costAt cs i (p.getD i 0) ≤ wrM cs p) ∧ ∃ i, i < n ∧ costAt cs i (p.getD i 0) = wrM cs p := by
  obtain ⟨h1, h2⟩ := fall_max (costsN_ne (cs := cs) hg.one h.1)
  refine ⟨fun i hi => ?_, ?_⟩
  · have := h2 _ (costsN_mem.2 ⟨i, by rw [h.1]; exact hi, rfl⟩)
    unfold wrM; omega
  · obtain ⟨i, hi, e⟩ := costsN_mem.1 h1
    rw [h.1] at hi
    have := hg.bd i _ hi (h.at hi)
    exact ⟨i, hi, by unfold wrM; rw [e]; omega⟩
/-- The least cost of a pairing. -/
def loM (cs : List (List Int)) (p : List Nat) : Int := ((falling (costsN cs p)).getD ((falling (costsN cs p)).length - 1) 0 : Int)
theorem lo_spec {cs : List (List Int)} {n : Nat} {p : List Nat} (hg : Good cs n) (h : PermL n p) : (∀ i, i < n → loM cs p ≤ costAt cs i (p.getD i 0)) ∧ ∃ i, i < n ∧ costAt cs i (p.getD i 0) = loM cs p := by
  obtain ⟨h1, h2⟩ := fall_min (costsN_ne (cs := cs) hg.one h.1)
  refine ⟨fun i hi => ?_, ?_⟩
  · have := h2 _ (costsN_mem.2 ⟨i, by rw [h.1]; exact hi, rfl⟩)
    have := hg.bd i _ hi (h.at hi)
    unfold loM; omega
  · obtain ⟨i, hi, e⟩ := costsN_mem.1 h1
    rw [h.1] at hi
    have := hg.bd i _ hi (h.at hi)
    exact ⟨i, hi, by unfold loM; rw [e]; omega⟩
theorem ev_eq (cs : List (List Int)) (p : List Nat) : evM cs p = wrM cs p - loM cs p := rfl
/-- The first of the allowed ones is before the others. -/
theorem sufs_first {cs : List (List Int)} {n : Nat} {lo hi : Int} {q : List Nat} (h : (sufs (okM cs lo hi) n n (2 ^ n - 1))[0]? = some q) :
    PermL n q ∧ (∀ i, i < n → lo ≤ costAt cs i (q.getD i 0) ∧ costAt cs i (q.getD i 0) ≤ hi) ∧ ∀ p, PermL n p → (∀ i, i < n → lo ≤ costAt cs i (p.getD i 0) ∧ costAt cs i (p.getD i 0) ≤ hi) → q = p ∨ lexLt q p := by
  rw [← alwP_all] at h
  have hs : ((allP n n []).filter (okL (okM cs lo hi) 0)).Pairwise lexLt := (allP_sorted n n []).filter _
  have hok : ∀ p, PermL n p → (okL (okM cs lo hi) 0 p = true ↔ ∀ i, i < n → lo ≤ costAt cs i (p.getD i 0) ∧ costAt cs i (p.getD i 0) ≤ hi) := fun p hp => by
    rw [okL_range]
    unfold okM
    simp only [Nat.zero_add, Bool.and_eq_true, decide_eq_true_eq, hp.1]
  cases e : (allP n n []).filter (okL (okM cs lo hi) 0) with
  | nil => rw [e] at h; simp at h
  | cons b t =>
    rw [e] at h hs
    simp at h
    subst h
    have hb : b ∈ (allP n n []).filter (okL (okM cs lo hi) 0) := by rw [e]; simp
    obtain ⟨h1, h2⟩ := List.mem_filter.1 hb
    have hq := allP_perm.1 h1
    refine ⟨hq, (hok b hq).1 h2, fun p hp hc => ?_⟩
    have : p ∈ b :: t := by rw [← e]; exact List.mem_filter.2 ⟨allP_perm.2 hp, (hok p hp).2 hc⟩
    rcases List.mem_cons.1 this with rfl | h3
    · exact .inl rfl
    · exact .inr ((List.pairwise_cons.1 hs).1 p h3)
/-- What `above` finds. -/
theorem above_fact {cs : List (List Int)} {n m : Nat} {lo : Int} {q : List Nat} (hg : Good cs n) (h : Least (fun m => decide (0 < waysM cs lo m n)) 1000 m) (hq : (sufs (okM cs lo m) n n (2 ^ n - 1))[0]? = some q) :
    PermL n q ∧ (∀ i, i < n → lo ≤ costAt cs i (q.getD i 0)) ∧ wrM cs q = m ∧ ∀ p, PermL n p → (∀ i, i < n → lo ≤ costAt cs i (p.getD i 0)) → (m : Int) < wrM cs p ∨ ((m : Int) = wrM cs p ∧ (q = p ∨ lexLt q p)) := by
  obtain ⟨h1, h2, h3⟩ := sufs_first hq
  have key : ∀ p, PermL n p → (∀ i, i < n → lo ≤ costAt cs i (p.getD i 0)) → (m : Int) ≤ wrM cs p := fun p hp hc => by
    obtain ⟨k, hk⟩ : ∃ k : Nat, wrM cs p = (k : Int) := ⟨_, rfl⟩
    rw [hk]
    apply Int.le_of_not_gt
    intro hlt
    have h4 := h.2.1 k (by omega)
    rw [decide_eq_false_iff_not] at h4
    apply h4
    refine ways_iff.2 ⟨p, hp.1, hp.2.1, hp.2.2, fun i hi => ?_⟩
    have := (wr_spec hg hp).1 i hi
    have := hc i hi
    unfold okM
    simp only [Bool.and_eq_true, decide_eq_true_eq]
    omega
  have hw : wrM cs q = m := by
    have := key q h1 fun i hi => (h2 i hi).1
    obtain ⟨i, hi, e⟩ := (wr_spec hg h1).2
    have := (h2 i hi).2
    omega
  refine ⟨h1, fun i hi => (h2 i hi).1, hw, fun p hp hc => ?_⟩
  have h5 := key p hp hc
  by_cases e : (m : Int) = wrM cs p
  · exact .inr ⟨e, h3 p hp fun i hi => ⟨hc i hi, by rw [e]; exact (wr_spec hg hp).1 i hi⟩⟩
  · exact .inl (by omega)
theorem above_none {cs : List (List Int)} {n m : Nat} {lo : Int} (hg : Good cs n) (h : Least (fun m => decide (0 < waysM cs lo m n)) 1000 m) (hq : (sufs (okM cs lo m) n n (2 ^ n - 1))[0]? = none) :
    ∀ p, PermL n p → ¬ ∀ i, i < n → lo ≤ costAt cs i (p.getD i 0) := by
  intro p hp hc
  have hw : 0 < waysM cs lo 1000 n := ways_iff.2 ⟨p, hp.1, hp.2.1, hp.2.2, fun i hi => by
    have := hc i hi
    have := (hg.bd i _ hi (hp.at hi)).2
    unfold okM
    simp only [Bool.and_eq_true, decide_eq_true_eq]
    omega⟩
  have hm : 0 < waysM cs lo m n := by
    by_cases e : m < 1000
    · simpa using h.2.2 e
    · obtain rfl : m = 1000 := by have := h.1; omega
      exact hw
  unfold waysM at hm
  rw [← sufs_length] at hm
  rw [List.getElem?_eq_getElem hm] at hq
  simp at hq
/-- The best so far: of the pairings without a cost below one of the numbers, by their greatest cost less that number, then by their order. -/
def EvOk (cs : List (List Int)) (n : Nat) (los : List Int) : Option (List Nat × Int) → Prop
  | none => ∀ lo ∈ los, ∀ p, PermL n p → ¬ ∀ i, i < n → lo ≤ costAt cs i (p.getD i 0)
  | some (q, v) => PermL n q ∧ evM cs q ≤ v ∧ (-1000 ≤ v ∧ v ≤ 1000) ∧ ∀ lo ∈ los, ∀ p, PermL n p → (∀ i, i < n → lo ≤ costAt cs i (p.getD i 0)) → v < wrM cs p - lo ∨ (v = wrM cs p - lo ∧ (q = p ∨ lexLt q p))
def evStep (o : Option (List Nat × Int)) (q : List Nat) (v : Int) : Option (List Nat × Int) := match o with
  | none => some (q, v)
  | some (b, d) => if orI (v - d) (cmpL (natI q) (natI b)) < 0 then some (q, v) else some (b, d)
theorem ev_skip {cs : List (List Int)} {n m : Nat} {lo : Int} {los : List Int} {o : Option (List Nat × Int)} (hg : Good cs n) (ho : EvOk cs n los o) (h : Least (fun m => decide (0 < waysM cs lo m n)) 1000 m) (hq : (sufs (okM cs lo m) n n (2 ^ n - 1))[0]? = none) :
    EvOk cs n (los ++ [lo]) o := by
  have hn := above_none hg h hq
  cases o with
  | none =>
    intro l hl p hp hc
    rcases List.mem_append.1 hl with h1 | h1
    · exact ho l h1 p hp hc
    · rw [List.mem_singleton] at h1; subst h1; exact hn p hp hc
  | some x =>
    obtain ⟨q, v⟩ := x
    refine ⟨ho.1, ho.2.1, ho.2.2.1, fun l hl p hp hc => ?_⟩
    rcases List.mem_append.1 hl with h1 | h1
    · exact ho.2.2.2 l h1 p hp hc
    · rw [List.mem_singleton] at h1; subst h1; exact absurd hc (hn p hp)
theorem ev_next {cs : List (List Int)} {n m : Nat} {lo : Int} {los : List Int} {o : Option (List Nat × Int)} {q : List Nat} (hg : Good cs n) (hlo : 0 ≤ lo ∧ lo ≤ 1000) (ho : EvOk cs n los o) (h : Least (fun m => decide (0 < waysM cs lo m n)) 1000 m)
    (hq : (sufs (okM cs lo m) n n (2 ^ n - 1))[0]? = some q) : EvOk cs n (los ++ [lo]) (evStep o q ((m : Int) - lo)) := by
  obtain ⟨a1, a2, a3, a4⟩ := above_fact hg h hq
  have hev : evM cs q ≤ (m : Int) - lo := by
    rw [ev_eq, a3]
    obtain ⟨i, hi, e⟩ := (lo_spec hg a1).2
    have := a2 i hi
    omega
  have hm1 := h.1
  have hbm : -1000 ≤ (m : Int) - lo ∧ (m : Int) - lo ≤ 1000 := by omega
  cases o with
  | none =>
    refine ⟨a1, hev, hbm, fun l hl p hp hc => ?_⟩
    rcases List.mem_append.1 hl with h1 | h1
    · exact absurd hc (ho l h1 p hp)
    · rw [List.mem_singleton] at h1; subst h1
      rcases a4 p hp hc with h2 | h2
      · exact .inl (by omega)
      · exact .inr ⟨by omega, h2.2⟩
  | some x =>
    obtain ⟨b, d⟩ := x
    obtain ⟨b1, b2, b3, b4⟩ := ho
    have hlen : q.length = b.length := by rw [a1.1, b1.1]
    have hlex := cmpL_lex hlen
    unfold evStep
    simp only
    have hor : orI ((m : Int) - lo - d) (cmpL (natI q) (natI b)) < 0 ↔ (m : Int) - lo < d ∨ ((m : Int) - lo = d ∧ lexLt q b) := by
      unfold orI
      by_cases e : (m : Int) - lo - d = 0
      · rw [if_pos e, hlex]
        constructor
        · exact fun h => .inr ⟨by omega, h⟩
        · rintro (h | h)
          · omega
          · exact h.2
      · rw [if_neg e]
        constructor
        · intro h; exact .inl (by omega)
        · rintro (h | h)
          · omega
          · omega
    by_cases hc0 : orI ((m : Int) - lo - d) (cmpL (natI q) (natI b)) < 0
    · rw [if_pos hc0]
      have hb := hor.1 hc0
      refine ⟨a1, hev, hbm, fun l hl p hp hc => ?_⟩
      rcases List.mem_append.1 hl with h1 | h1
      · rcases b4 l h1 p hp hc with h2 | ⟨h2, h3⟩
        · rcases hb with h4 | h4
          · exact .inl (by omega)
          · exact .inl (by omega)
        · rcases hb with h4 | ⟨h4, h5⟩
          · exact .inl (by omega)
          · refine .inr ⟨by omega, .inr ?_⟩
            rcases h3 with rfl | h3
            · exact h5
            · exact lexLt_trans h5 h3
      · rw [List.mem_singleton] at h1; subst h1
        rcases a4 p hp hc with h2 | h2
        · exact .inl (by omega)
        · exact .inr ⟨by omega, h2.2⟩
    · rw [if_neg hc0]
      have hb : ¬ ((m : Int) - lo < d ∨ ((m : Int) - lo = d ∧ lexLt q b)) := fun h => hc0 (hor.2 h)
      refine ⟨b1, b2, b3, fun l hl p hp hc => ?_⟩
      rcases List.mem_append.1 hl with h1 | h1
      · exact b4 l h1 p hp hc
      · rw [List.mem_singleton] at h1; subst h1
        rcases a4 p hp hc with h2 | ⟨h2, h3⟩
        · exact .inl (by
            have : ¬ (m : Int) - l < d := fun h => hb (.inl h)
            omega)
        · by_cases e : d = wrM cs p - l
          · refine .inr ⟨e, ?_⟩
            have hnl : ¬ lexLt q b := fun h => hb (.inr ⟨by omega, h⟩)
            have hbq : b = q ∨ lexLt b q := by
              rcases lexLt_total hlen with h | h | h
              · exact absurd h hnl
              · exact .inl h.symm
              · exact .inr h
            rcases hbq with rfl | hbq
            · exact h3
            · rcases h3 with rfl | h3
              · exact .inr hbq
              · exact .inr (lexLt_trans hbq h3)
          · refine .inl ?_
            have : ¬ (m : Int) - l < d := fun h => hb (.inl h)
            omega
/-- At the end the best is the first of those whose costs differ least. -/
theorem ev_end {cs : List (List Int)} {n : Nat} {los : List Int} {o : Option (List Nat × Int)} (hg : Good cs n) (ho : EvOk cs n los o) (hall : ∀ i j, i < n → j < n → costAt cs i j ∈ los) :
    ∃ q, o = some (q, evM cs q) ∧ PermL n q ∧ (allP n n []).foldl (bestM (evM cs)) none = some q := by
  have hid : PermL n (List.range n) := ⟨by simp, List.nodup_range, fun a ha => List.mem_range.1 ha⟩
  have hs := allP_sorted n n []
  cases e : allP n n [] with
  | nil => have := allP_perm.2 hid; rw [e] at this; simp at this
  | cons b ls =>
    rw [e] at hs
    obtain ⟨g1, g2, g3⟩ := firstLeast_spec (evM cs) ls b hs
    obtain ⟨P, hP⟩ : ∃ P, P = firstLeast (evM cs) ls b := ⟨_, rfl⟩
    rw [← hP] at g1 g2 g3
    have hPp : PermL n P := allP_perm.1 (by rw [e]; exact g1)
    obtain ⟨i, hi, he⟩ := (lo_spec hg hPp).2
    have hlo : loM cs P ∈ los := by rw [← he]; exact hall _ _ hi (hPp.at hi)
    have hPc : ∀ i, i < n → loM cs P ≤ costAt cs i (P.getD i 0) := (lo_spec hg hPp).1
    cases o with
    | none => exact absurd hPc (ho _ hlo P hPp)
    | some x =>
      obtain ⟨q, v⟩ := x
      obtain ⟨b1, b2, _, b4⟩ := ho
      have hqin : q ∈ b :: ls := by rw [← e]; exact allP_perm.2 b1
      have h1 := g2 q hqin
      have h2 := b4 _ hlo P hPp hPc
      rw [← ev_eq] at h2
      have hv : v = evM cs P ∧ (q = P ∨ lexLt q P) := by
        rcases h2 with h | h
        · omega
        · exact h
      have hqe : q = P := by
        rcases hv.2 with h | h
        · exact h
        · have := g3 q hqin h; omega
      subst hqe
      refine ⟨q, by rw [hv.1], b1, ?_⟩
      rw [List.foldl_cons]
      show ls.foldl (bestM (evM cs)) (some b) = some q
      rw [best_first, hP]
/-- The same for Worst. -/
theorem worst_end {cs : List (List Int)} {n m : Nat} (hg : Good cs n) (h : Least (fun m => decide (0 < waysM cs 0 m n)) 1000 m) :
    ∃ q, (sufs (okM cs 0 m) n n (2 ^ n - 1))[0]? = some q ∧ PermL n q ∧ wrM cs q = m ∧ (allP n n []).foldl (bestM (wrM cs)) none = some q := by
  obtain ⟨q, hq, _⟩ := worst_pair hg h
  obtain ⟨a1, a2, a3, a4⟩ := above_fact hg h hq
  refine ⟨q, hq, a1, a3, ?_⟩
  have hs := allP_sorted n n []
  have hin := allP_perm.2 a1
  cases e : allP n n [] with
  | nil => rw [e] at hin; simp at hin
  | cons b ls =>
    rw [e] at hs hin
    rw [List.foldl_cons]
    show ls.foldl (bestM (wrM cs)) (some b) = some q
    rw [best_first]
    congr 1
    have hp : ∀ l ∈ b :: ls, PermL n l := fun l hl => allP_perm.1 (by rw [e]; exact hl)
    refine firstLeast_unique hs (fun l hl => by rw [(hp l hl).1, a1.1]) hin (fun l hl => ?_) (fun l hl hx => ?_)
    · have := a4 l (hp l hl) fun i hi => (hg.bd i _ hi ((hp l hl).at hi)).1
      rw [a3]; omega
    · rcases a4 l (hp l hl) fun i hi => (hg.bd i _ hi ((hp l hl).at hi)).1 with h | ⟨_, h | h⟩
      · rw [a3]; exact h
      · rw [h] at hx; exact absurd hx (lexLt_irrefl _)
      · exact absurd (lexLt_trans h hx) (lexLt_irrefl _)
end Go.Proofs.Ytfobdlllghpelaa
