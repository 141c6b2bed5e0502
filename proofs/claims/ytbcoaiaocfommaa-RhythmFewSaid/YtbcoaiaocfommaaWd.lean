import Derived.Test.YtbcoaiaocfommaaWc
namespace Go.Proofs.Ytbcoaiaocfommaa
open Go.RowKit

/-! ## few squares (Brlek and Li): windows, graphs, circuits -/
def win (u : List UInt8) (s m : Nat) : List UInt8 := (List.range m).map fun t => u.getD ((s + t) % u.length) 0
theorem win_len (u : List UInt8) (s m : Nat) : (win u s m).length = m := by unfold win; simp
theorem win_get (u : List UInt8) (s m t : Nat) (h : t < m) : (win u s m)[t]? = some (u.getD ((s + t) % u.length) 0) := by
  unfold win; rw [List.getElem?_map, List.getElem?_range h]; rfl
theorem win_sub (u : List UInt8) (s m a b : Nat) (h : a + b ≤ m) : subL (win u s m) a (a + b) = win u (s + a) b := by
  apply List.ext_getElem?
  intro t
  rw [subL_get]
  by_cases ht : t < b
  · rw [if_pos (by omega), win_get _ _ _ _ (by omega), win_get _ _ _ _ ht, Nat.add_assoc]
  · rw [if_neg (by omega), List.getElem?_eq_none (by rw [win_len]; omega)]
theorem win_turn (u : List UInt8) (s m : Nat) : win u (s + u.length) m = win u s m := by
  unfold win
  apply List.map_congr_left
  intro t _
  rw [show s + u.length + t = s + t + u.length by omega, Nat.add_mod_right]
theorem win_zero (u : List UInt8) : win u 0 u.length = u := by
  apply List.ext_getElem?
  intro t
  by_cases ht : t < u.length
  · rw [win_get _ _ _ _ ht, Nat.zero_add, Nat.mod_eq_of_lt ht, List.getD_eq_getElem?_getD, List.getElem?_eq_getElem ht]; rfl
  · rw [List.getElem?_eq_none (by rw [win_len]; omega), List.getElem?_eq_none (by omega)]
theorem win_take (u : List UInt8) (s m b : Nat) (h : b ≤ m) : (win u s m).take b = win u s b := by
  have := win_sub u s m 0 b (by omega)
  unfold subL at this
  simpa using this
theorem win_drop (u : List UInt8) (s m : Nat) : (win u s (m + 1)).drop 1 = win u (s + 1) m := by
  have := win_sub u s (m + 1) 1 m (by omega)
  unfold subL at this
  rw [← this, show 1 + m - 1 = m by omega, List.take_of_length_le (by rw [List.length_drop, win_len]; omega)]
theorem win_per (u : List UInt8) (s m t : Nat) (h : t + u.length < m) : (win u s m)[t]? = (win u s m)[t + u.length]? := by
  rw [win_get _ _ _ _ (by omega), win_get _ _ _ _ h, show s + (t + u.length) = s + t + u.length by omega, Nat.add_mod_right]
/-- A Lyndon word at the beginning of a window of a shorter word: there is none. -/
theorem win_short {u u' : List UInt8} {s m : Nat} (h1 : 1 ≤ u.length) (hm : u'.length ≤ m) (hL : Lyn u') (e : win u s m = win u' 0 m) : ¬ u.length < u'.length := by
  intro hlt
  obtain ⟨t, x, y, b1, _, b3, b4, b5⟩ := hL.diff u.length h1 hlt
  have g : ∀ r, r < u'.length → (win u s m)[r]? = u'[r]? := fun r hr => by
    rw [e, win_get _ _ _ _ (by omega), Nat.zero_add, Nat.mod_eq_of_lt hr, List.getD_eq_getElem?_getD, List.getElem?_eq_getElem hr]; rfl
  have := win_per u s m t (by omega)
  rw [g t (by omega), g _ (by omega), b3, Nat.add_comm t u.length, b4] at this
  injection this with this
  rw [this] at b5
  exact absurd b5 (by simp)
/-- Two Lyndon words that are rotations of each other are the same. -/
theorem lyn_rot {u u' : List UInt8} {s : Nat} (h : Lyn u) (h' : Lyn u') (hl : u.length = u'.length) (hs1 : 1 ≤ s) (hs : s < u.length) (e : ∀ t, t < u.length → u'[t]? = u[(s + t) % u.length]?) : False := by
  obtain ⟨t, x, y, b1, b2, b3, b4, b5⟩ := h.diff s hs1 hs
  obtain ⟨t', x', y', c1, c2, c3, c4, c5⟩ := h'.diff (u.length - s) (by omega) (by omega)
  have g1 : ∀ r, s + r < u.length → u'[r]? = u[s + r]? := fun r hr => by rw [e r (by omega), Nat.mod_eq_of_lt hr]
  have g2 : ∀ r, u.length - s + r < u.length → u'[u.length - s + r]? = u[r]? := fun r hr => by
    rw [e _ hr, show s + (u.length - s + r) = r + u.length by omega, Nat.add_mod_right, Nat.mod_eq_of_lt (by omega)]
  rw [← g1 t b1] at b4
  rw [g2 t' (by omega)] at c4
  rcases Nat.lt_trichotomy t t' with q | q | q
  · have := c2 t q
    rw [g2 t (by omega), b4, b3] at this
    injection this with this
    rw [this] at b5
    exact absurd b5 (by simp)
  · subst q
    rw [b4] at c3; rw [b3] at c4
    injection c3 with c3; injection c4 with c4
    subst c3; subst c4
    rw [UInt8.lt_iff_toNat_lt] at b5 c5
    omega
  · have := b2 t' q
    rw [← g1 t' (by omega), c4, c3] at this
    injection this with this
    rw [this] at c5
    exact absurd c5 (by simp)

/-- The parts of length k. -/
def LK (l : List UInt8) (k : Nat) : List (List UInt8) := paRow l k (l.length + 1 - k)
theorem LK_nodup (l : List UInt8) (k : Nat) : (LK l k).Nodup := (paRow_spec l k _).1
theorem mem_LK {l : List UInt8} {k : Nat} (z : List UInt8) : z ∈ LK l k ↔ ∃ i, i < l.length + 1 - k ∧ z = subL l i (i + k) := (paRow_spec l k _).2 z

theorem reps (Vs : List (List UInt8)) (hV : Vs.Nodup) : ∀ Es : List (List UInt8 × List UInt8), ∃ rep : List UInt8 → List UInt8, (∀ e ∈ Es, rep e.1 = rep e.2) ∧ Vs.length ≤ (setL (Vs.map rep)).length + Es.length := by
  intro Es
  induction Es with
  | nil =>
    refine ⟨id, fun e he => by simp at he, ?_⟩
    rw [List.map_id]
    exact nodup_len hV (fun z hz => (mem_setL Vs z).2 hz)
  | cons e Es ih =>
    obtain ⟨rep, h1, h2⟩ := ih
    refine ⟨fun v => if rep v = rep e.1 then rep e.2 else rep v, ?_, ?_⟩
    · intro d hd
      rcases List.mem_cons.1 hd with rfl | hd
      · show (if rep d.1 = rep d.1 then rep d.2 else rep d.1) = if rep d.2 = rep d.1 then rep d.2 else rep d.2
        rw [if_pos rfl]; split <;> rfl
      · show (if rep d.1 = rep e.1 then rep e.2 else rep d.1) = if rep d.2 = rep e.1 then rep e.2 else rep d.2
        rw [h1 d hd]
    · have h3 : (setL (Vs.map rep)).length ≤ (rep e.1 :: setL (Vs.map fun v => if rep v = rep e.1 then rep e.2 else rep v)).length := by
        refine nodup_len (setL_nodup _) fun z hz => ?_
        obtain ⟨v, hv, rfl⟩ := List.mem_map.1 ((mem_setL _ _).1 hz)
        by_cases hq : rep v = rep e.1
        · rw [hq]; exact List.mem_cons_self ..
        · refine List.mem_cons_of_mem _ ((mem_setL _ _).2 (List.mem_map.2 ⟨v, hv, ?_⟩))
          rw [if_neg hq]
      rw [List.length_cons] at h3 ⊢
      omega

/-- A circuit among the parts of length k. -/
structure Circ (l : List UInt8) (k : Nat) (u : List UInt8) : Prop where
  lyn : Lyn u
  le : u.length ≤ k
  all : ∀ s, s < u.length → win u s (k + 1) ∈ LK l (k + 1)
theorem Circ.pos {l : List UInt8} {k : Nat} {u : List UInt8} (h : Circ l k u) : 1 ≤ u.length := List.length_pos_iff.2 h.lyn.1
theorem Circ.inj {l : List UInt8} {k : Nat} {u u' : List UInt8} (h : Circ l k u) (h' : Circ l k u') (e : win u 0 (k + 1) = win u' 0 (k + 1)) : u = u' := by
  have a1 := win_short h.pos (by have := h'.le; omega) h'.lyn e
  have a2 := win_short h'.pos (by have := h.le; omega) h.lyn e.symm
  have hl : u.length = u'.length := by omega
  rw [← win_zero u, ← win_zero u', ← win_take u 0 (k + 1) u.length (by have := h.le; omega), e, win_take u' 0 (k + 1) u.length (by have := h.le; omega), hl]
theorem Circ.less {l : List UInt8} {k s : Nat} {u u' : List UInt8} (h : Circ l k u) (h' : Circ l k u') (hs1 : 1 ≤ s) (hs : s < u.length) (e : win u s (k + 1) = win u' 0 (k + 1)) : u'.length < u.length := by
  have a1 := win_short h.pos (by have := h'.le; omega) h'.lyn e
  rcases Nat.lt_trichotomy u'.length u.length with q | q | q
  · exact q
  · exfalso
    refine lyn_rot h.lyn h'.lyn q.symm hs1 hs fun t ht => ?_
    have := congrArg (fun w => w[t]?) e
    have hk := h.le
    rw [win_get _ _ _ _ (by omega), win_get _ _ _ _ (by omega), Nat.zero_add, Nat.mod_eq_of_lt (show t < u'.length by omega)] at this
    rw [List.getElem?_eq_getElem (show t < u'.length by omega), List.getElem?_eq_getElem (Nat.mod_lt _ (by omega))]
    rw [List.getD_eq_getElem?_getD, List.getD_eq_getElem?_getD, List.getElem?_eq_getElem (show t < u'.length by omega), List.getElem?_eq_getElem (Nat.mod_lt _ (show u.length > 0 by omega))] at this
    simpa using this.symm
  · exact absurd q a1

/-- As many circuits as the graph has edges too many, at most. -/
theorem circ_le {l : List UInt8} {k : Nat} (hk1 : 1 ≤ k) (hk : k < l.length) {U : List (List UInt8)} (hn : U.Nodup) (hU : ∀ u ∈ U, Circ l k u) : (LK l k).length + U.length ≤ (LK l (k + 1)).length + 1 := by
  obtain ⟨C, hC⟩ : ∃ C, C = U.map fun u => win u 0 (k + 1) := ⟨_, rfl⟩
  have hCn : C.Nodup := by
    rw [hC]
    have key : ∀ {V : List (List UInt8)}, (∀ u ∈ V, Circ l k u) → V.Nodup → (V.map fun u => win u 0 (k + 1)).Nodup := by
      intro V
      induction V with
      | nil => intro _ _; exact List.nodup_nil
      | cons v V ih =>
        intro hv hn
        obtain ⟨h1, h2⟩ := List.nodup_cons.1 hn
        rw [List.map_cons, List.nodup_cons]
        refine ⟨fun hm => ?_, ih (fun u hu => hv u (List.mem_cons_of_mem _ hu)) h2⟩
        obtain ⟨u, hu, e⟩ := List.mem_map.1 hm
        have := (hv v (List.mem_cons_self ..)).inj (hv u (List.mem_cons_of_mem _ hu)) e.symm
        exact h1 (this ▸ hu)
    exact key hU hn
  have hCl : C.length = U.length := by rw [hC, List.length_map]
  have hCm : ∀ e ∈ C, e ∈ LK l (k + 1) := fun e he => by
    rw [hC] at he
    obtain ⟨u, hu, rfl⟩ := List.mem_map.1 he
    exact (hU u hu).all 0 (hU u hu).pos
  obtain ⟨R, hR⟩ : ∃ R, R = (LK l (k + 1)).filter fun e => !C.contains e := ⟨_, rfl⟩
  have hRl : R.length + C.length ≤ (LK l (k + 1)).length := by
    rw [← List.length_append]
    refine nodup_len (List.nodup_append.2 ⟨by rw [hR]; exact List.Pairwise.filter _ (LK_nodup l (k + 1)), hCn, ?_⟩) ?_
    · intro a ha b hb e
      subst e
      rw [hR] at ha
      have := (List.mem_filter.1 ha).2
      simp at this
      exact this hb
    · intro z hz
      rcases List.mem_append.1 hz with h | h
      · rw [hR] at h; exact (List.mem_filter.1 h).1
      · exact hCm z h
  obtain ⟨rep, h1, h2⟩ := reps (LK l k) (LK_nodup l k) (R.map fun e => (e.take k, e.drop 1))
  rw [List.length_map] at h2
  have hfree : ∀ e, e ∈ LK l (k + 1) → e ∉ C → rep (e.take k) = rep (e.drop 1) := fun e he hc => by
    refine h1 (e.take k, e.drop 1) (List.mem_map.2 ⟨e, ?_, rfl⟩)
    rw [hR]
    exact List.mem_filter.2 ⟨he, by simpa using hc⟩
  -- along the circuits, too
  have hcirc : ∀ q, ∀ u ∈ U, u.length = q → rep (win u 0 k) = rep (win u 1 k) := by
    intro q
    induction q using Nat.strongRecOn with
    | _ q ih =>
      intro u hu hq
      have hc := hU u hu
      have hstep : ∀ s, 1 ≤ s → s < u.length → rep (win u s k) = rep (win u (s + 1) k) := by
        intro s hs1 hs
        have hm := hc.all s hs
        have e1 := win_take u s (k + 1) k (by omega)
        have e2 := win_drop u s k
        by_cases hin : win u s (k + 1) ∈ C
        · rw [hC] at hin
          obtain ⟨u', hu', e⟩ := List.mem_map.1 hin
          have hlt := hc.less (hU u' hu') hs1 hs e.symm
          have := ih u'.length (by omega) u' hu' rfl
          have f1 := win_take u' 0 (k + 1) k (by omega)
          have f2 := win_drop u' 0 k
          rw [← e1, ← e2, ← e, f1, f2]
          exact this
        · have := hfree _ hm hin
          rw [e1, e2] at this
          exact this
      have hall : ∀ s, 1 ≤ s → s ≤ u.length → rep (win u 1 k) = rep (win u s k) := by
        intro s
        induction s with
        | zero => intro h; omega
        | succ s ihs =>
          intro _ hs
          by_cases h0 : s = 0
          · subst h0; rfl
          · rw [ihs (by omega) (by omega)]; exact hstep s (by omega) (by omega)
      have := hall u.length hc.pos (Nat.le_refl _)
      rw [this]
      have e := win_turn u 0 k
      rw [Nat.zero_add] at e
      rw [e]
  have hedge : ∀ e, e ∈ LK l (k + 1) → rep (e.take k) = rep (e.drop 1) := by
    intro e he
    by_cases hin : e ∈ C
    · rw [hC] at hin
      obtain ⟨u, hu, rfl⟩ := List.mem_map.1 hin
      rw [win_take u 0 (k + 1) k (by omega), win_drop u 0 k]
      exact hcirc _ u hu rfl
    · exact hfree e he hin
  have hone : ∀ i, i + k ≤ l.length → rep (subL l i (i + k)) = rep (subL l 0 k) := by
    intro i
    induction i with
    | zero => intro _; rw [Nat.zero_add]
    | succ i ihi =>
      intro hi
      rw [← ihi (by omega)]
      have he : subL l i (i + (k + 1)) ∈ LK l (k + 1) := (mem_LK _).2 ⟨i, by omega, rfl⟩
      have := hedge _ he
      have t1 : (subL l i (i + (k + 1))).take k = subL l i (i + k) := by
        unfold subL; rw [List.take_take]; congr 1; omega
      have t2 : (subL l i (i + (k + 1))).drop 1 = subL l (i + 1) (i + 1 + k) := by
        unfold subL; rw [List.drop_take, List.drop_drop]; congr 1; omega
      rw [t1, t2] at this
      exact this.symm
  have hle1 : (setL ((LK l k).map rep)).length ≤ 1 := by
    have := nodup_len (ys := [rep (subL l 0 k)]) (setL_nodup ((LK l k).map rep)) (fun z hz => by
      obtain ⟨v, hv, rfl⟩ := List.mem_map.1 ((mem_setL _ _).1 hz)
      obtain ⟨i, hi, rfl⟩ := (mem_LK v).1 hv
      rw [hone i (by omega)]; exact List.mem_cons_self ..)
    simpa using this
  omega
end Go.Proofs.Ytbcoaiaocfommaa
