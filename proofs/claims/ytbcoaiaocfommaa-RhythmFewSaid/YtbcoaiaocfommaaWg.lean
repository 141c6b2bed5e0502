import Derived.Test.YtbcoaiaocfommaaWd
import Derived.Test.YtbcoaiaocfommaaU
import Derived.Test.YtbcoaiaocfommaaRg
import Derived.Test.YtbcoaiaocfommaaSg
import Derived.Test.YtbcoaiaocfommaaN
import Derived.StillTailTactics
namespace Go.Proofs.Ytbcoaiaocfommaa
open Go.RowKit

/-- A square of a rhythm, as letters of a Lyndon word again and again. -/
structure SqC (l z u : List UInt8) (m s : Nat) : Prop where
  lyn : Lyn u
  m1 : 1 ≤ m
  lt : s < u.length
  eq : z = win u s (2 * m * u.length)
  part : ∃ i, i + 2 * m * u.length ≤ l.length ∧ z = subL l i (i + 2 * m * u.length)
theorem subL_subL (l : List UInt8) (i M d K : Nat) (h : d + K ≤ M) : subL (subL l i (i + M)) d (d + K) = subL l (i + d) (i + d + K) := by
  apply List.ext_getElem?
  intro t
  rw [subL_get, subL_get, subL_get]
  by_cases ht : t < K
  · rw [if_pos (by omega), if_pos (by omega), if_pos (by omega), Nat.add_assoc]
  · rw [if_neg (by omega), if_neg (by omega)]
theorem win_mod (u : List UInt8) (x y m : Nat) (h : x % u.length = y % u.length) : win u x m = win u y m := by
  unfold win
  apply List.map_congr_left
  intro t _
  rw [Nat.add_mod x t, Nat.add_mod y t, h]
theorem sq_class {l z : List UInt8} {i h : Nat} (hz : SqAt l i h z) (hb : i + 2 * (h + 1) ≤ l.length) : ∃ u m s, SqC l z u m s := by
  obtain ⟨h1, rfl⟩ := hz
  obtain ⟨H, hH⟩ : ∃ H, H = h + 1 := ⟨_, rfl⟩
  rw [← hH] at h1 hb ⊢
  obtain ⟨z, hzz⟩ : ∃ z, z = subL l i (i + 2 * H) := ⟨_, rfl⟩
  rw [← hzz]
  have hzl : z.length = 2 * H := by rw [hzz, subL_len _ _ _ hb]; omega
  have hperH : perB z H = true := by
    rw [perB_iff, hzl]
    intro t ht
    have e : subL l i (i + H) = subL l (i + H) (i + 2 * H) := by unfold sqB at h1; simpa using h1
    have := congrArg (fun w => w[t]?) e
    simp only [subL_get] at this
    rw [if_pos (by omega), if_pos (by omega)] at this
    rw [hzz, subL_get, subL_get, if_pos (by omega), if_pos (by omega), this]
    congr 1; omega
  obtain ⟨hp1, hp2, hp3, _⟩ := leastP_spec (l := z) (by omega)
  obtain ⟨p, hp⟩ : ∃ p, p = leastP z := ⟨_, rfl⟩
  rw [← hp] at hp1 hp2 hp3
  have hpH : p ≤ H := by rw [hp]; exact least_min (by omega) (by omega) hperH
  have hg := fine_wilf hp1 (show 1 ≤ H by omega) hp3 hperH (by omega)
  have hgp : 1 ≤ Nat.gcd p H := Nat.gcd_pos_of_pos_left _ hp1
  have hpg : p ≤ Nat.gcd p H := by
    have := least_min (l := z) (by omega) hgp hg
    omega
  have hdvd : p ∣ H := by
    have e : Nat.gcd p H = p := Nat.le_antisymm (Nat.le_of_dvd (by omega) (Nat.gcd_dvd_left _ _)) hpg
    rw [← e]; exact Nat.gcd_dvd_right _ _
  obtain ⟨m, hm⟩ := hdvd
  have hm1 : 1 ≤ m := by
    rcases Nat.eq_zero_or_pos m with e | e
    · rw [e, Nat.mul_zero] at hm; omega
    · exact e
  have hP : Per z p 0 (2 * H) := by
    refine ⟨hp1, by omega, by omega, fun t _ ht => (perB_iff z p).1 hp3 t (by omega), ?_⟩
    have e : subL z 0 (2 * H) = z := by unfold subL; rw [List.drop_zero, Nat.sub_zero, List.take_of_length_le (by omega)]
    rw [e, hp]
  obtain ⟨c, hc, hL⟩ := hP.root
  obtain ⟨u, hu⟩ : ∃ u, u = subL z (0 + c) (0 + c + p) := ⟨_, rfl⟩
  rw [← hu] at hL
  have hul : u.length = p := by rw [hu, subL_len _ _ _ (by omega)]; omega
  have hM : 2 * m * u.length = 2 * H := by rw [hul, hm, Nat.mul_assoc, Nat.mul_comm m p]
  have hslt : (p - c) % p < p := Nat.mod_lt _ (by omega)
  refine ⟨u, m, (p - c) % p, hL, hm1, by rw [hul]; exact hslt, ?_, i, by rw [hM]; exact hb, by rw [hM]; exact hzz⟩
  rw [hM]
  apply List.ext_getElem?
  intro t
  by_cases ht : t < 2 * H
  · rw [win_get _ _ _ _ ht, hul]
    have hr : ((p - c) % p + t) % p < p := Nat.mod_lt _ (by omega)
    rw [List.getD_eq_getElem?_getD, hu, subL_get, if_pos (by omega)]
    have a1 := hP.mod t (by omega)
    have a2 := hP.mod (c + ((p - c) % p + t) % p) (by omega)
    rw [Nat.zero_add, Nat.zero_add] at a1 a2
    have e : (c + ((p - c) % p + t) % p) % p = t % p := by
      rw [Nat.add_mod_mod, show c + ((p - c) % p + t) = (p - c) % p + (c + t) by omega, Nat.mod_add_mod, show p - c + (c + t) = t + p by omega, Nat.add_mod_right]
    rw [Nat.zero_add, a2, e, ← a1, List.getElem?_eq_getElem (by omega)]
    rfl
  · rw [List.getElem?_eq_none (by omega), List.getElem?_eq_none (by rw [win_len]; omega)]

/-- t + 1 different squares of a class make a circuit t places higher. -/
theorem circ_of {l u : List UInt8} {m : Nat} (hu : Lyn u) (hm : 1 ≤ m) {Z : List (List UInt8)} (hn : Z.Nodup) (hZ : ∀ z ∈ Z, ∃ s, SqC l z u m s) {t : Nat} (ht : Z.length = t + 1) :
    t < u.length ∧ Circ l ((2 * m - 1) * u.length + t) u := by
  obtain ⟨p, hp⟩ : ∃ p, p = u.length := ⟨_, rfl⟩
  have hp1 : 1 ≤ p := by rw [hp]; exact List.length_pos_iff.2 hu.1
  have hM : (2 * m - 1) * p + p = 2 * m * p := by rw [← Nat.succ_mul]; congr 1; omega
  -- the shifts
  have hex : ∀ z, ∃ s, z ∈ Z → SqC l z u m s := fun z => by
    by_cases h : z ∈ Z
    · obtain ⟨s, hs⟩ := hZ z h; exact ⟨s, fun _ => hs⟩
    · exact ⟨0, fun h' => absurd h' h⟩
  let f : List UInt8 → Nat := fun z => Classical.choose (hex z)
  have hf : ∀ z ∈ Z, SqC l z u m (f z) := fun z hz => Classical.choose_spec (hex z) hz
  have key : ∀ {V : List (List UInt8)}, (∀ z ∈ V, SqC l z u m (f z)) → V.Nodup → (V.map f).Nodup := by
    intro V
    induction V with
    | nil => intro _ _; exact List.nodup_nil
    | cons v V ih =>
      intro hv hn
      obtain ⟨h1, h2⟩ := List.nodup_cons.1 hn
      rw [List.map_cons, List.nodup_cons]
      refine ⟨fun hm => ?_, ih (fun z hz => hv z (List.mem_cons_of_mem _ hz)) h2⟩
      obtain ⟨z, hz, e⟩ := List.mem_map.1 hm
      have e1 := (hv v (List.mem_cons_self ..)).eq
      have e2 := (hv z (List.mem_cons_of_mem _ hz)).eq
      rw [e] at e2
      exact h1 (by rw [e1, ← e2]; exact hz)
  have hSn := key hf hn
  have hSl : (Z.map f).length = t + 1 := by rw [List.length_map, ht]
  have hSlt : ∀ s ∈ Z.map f, s < p := fun s hs => by
    obtain ⟨z, hz, rfl⟩ := List.mem_map.1 hs
    rw [hp]; exact (hf z hz).lt
  have htp : t < p := by
    have := nodup_len3 (ys := List.range p) hSn (fun s hs => List.mem_range.2 (hSlt s hs))
    rw [hSl, List.length_range] at this; omega
  rw [← hp]
  refine ⟨htp, hu, ?_, ?_⟩
  · rw [← hp]
    have : 1 * p ≤ (2 * m - 1) * p := Nat.mul_le_mul_right p (by omega)
    omega
  · intro x hx
    rw [← hp] at hx
    -- a shift from which the window is reached
    have hd : ∃ s ∈ Z.map f, (x + p - s) % p ≤ p - 1 - t := by
      apply Classical.byContradiction
      intro hno
      have := nodup_len3 (ys := (List.range t).map fun r => (x + p - (p - t + r)) % p) hSn (fun s hs => by
        have hsp := hSlt s hs
        have hbig : ¬ (x + p - s) % p ≤ p - 1 - t := fun h => hno ⟨s, hs, h⟩
        have hmod := Nat.mod_lt (x + p - s) (show p > 0 by omega)
        refine List.mem_map.2 ⟨(x + p - s) % p - (p - t), List.mem_range.2 (by omega), ?_⟩
        rw [show p - t + ((x + p - s) % p - (p - t)) = (x + p - s) % p by omega]
        by_cases hxs : s ≤ x
        · have e : (x + p - s) % p = x - s := by rw [show x + p - s = x - s + p by omega, Nat.add_mod_right, Nat.mod_eq_of_lt (by omega)]
          rw [e, show x + p - (x - s) = s + p by omega, Nat.add_mod_right, Nat.mod_eq_of_lt hsp]
        · have e : (x + p - s) % p = x + p - s := Nat.mod_eq_of_lt (by omega)
          rw [e, show x + p - (x + p - s) = s by omega, Nat.mod_eq_of_lt hsp])
      rw [hSl, List.length_map, List.length_range] at this
      omega
    obtain ⟨s, hs, hds⟩ := hd
    have hsp := hSlt s hs
    obtain ⟨z, hz, rfl⟩ := List.mem_map.1 hs
    obtain ⟨d, hdd⟩ : ∃ d, d = (x + p - f z) % p := ⟨_, rfl⟩
    rw [← hdd] at hds
    have hc := hf z hz
    obtain ⟨i, hi, hzi⟩ := hc.part
    rw [← hp] at hi hzi
    have hze := hc.eq
    rw [← hp] at hze
    obtain ⟨M, hMM⟩ : ∃ M, M = 2 * m * p := ⟨_, rfl⟩
    obtain ⟨N, hNN⟩ : ∃ N, N = (2 * m - 1) * p := ⟨_, rfl⟩
    rw [← hMM] at hM hi hzi hze
    rw [← hNN] at hM ⊢
    have e1 : win u x (N + t + 1) = win u (f z + d) (N + t + 1) := by
      refine win_mod _ _ _ _ ?_
      rw [← hp, hdd, Nat.add_mod_mod]
      rw [show f z + (x + p - f z) = x + p by omega, Nat.add_mod_right]
    have e2 := win_sub u (f z) M d (N + t + 1) (by omega)
    rw [← hze] at e2
    have e3 := subL_subL l i M d (N + t + 1) (by omega)
    rw [← hzi] at e3
    rw [e1, ← e2, e3]
    exact (mem_LK _).2 ⟨i + d, by omega, rfl⟩

/-! ## counting -/
theorem circ_lt {l u : List UInt8} {k : Nat} (h : Circ l k u) : 1 ≤ k ∧ k < l.length := by
  have h1 := h.pos
  have h2 := h.le
  obtain ⟨i, hi, _⟩ := (mem_LK _).1 (h.all 0 h1)
  omega
theorem pairs_le {l : List UInt8} (h1 : 1 ≤ l.length) {P : List (Nat × List UInt8)} (hn : P.Nodup) (hP : ∀ q ∈ P, Circ l q.1 q.2) : P.length < l.length := by
  have key : ∀ K, K + 1 ≤ l.length → (P.filter fun q => decide (q.1 ≤ K)).length + (LK l 1).length ≤ (LK l (K + 1)).length + K := by
    intro K
    induction K with
    | zero =>
      intro _
      have : (P.filter fun q => decide (q.1 ≤ 0)) = [] := by
        rw [List.filter_eq_nil_iff]
        intro q hq
        have := (circ_lt (hP q hq)).1
        simp; omega
      rw [this]; simp
    | succ K ih =>
      intro hK
      have ih' := ih (by omega)
      have hsplit : ∀ Q : List (Nat × List UInt8), (Q.filter fun q => decide (q.1 ≤ K + 1)).length = (Q.filter fun q => decide (q.1 ≤ K)).length + (Q.filter fun q => decide (q.1 = K + 1)).length := by
        intro Q
        induction Q with
        | nil => rfl
        | cons q Q ihq =>
          rw [List.filter_cons, List.filter_cons, List.filter_cons]
          by_cases a : q.1 ≤ K
          · have b : q.1 ≤ K + 1 := by omega
            have c : ¬ q.1 = K + 1 := by omega
            simp only [a, b, c, decide_true, decide_false, if_true, List.length_cons]
            simp only [Bool.false_eq_true, if_false]
            omega
          · by_cases c : q.1 = K + 1
            · have b : q.1 ≤ K + 1 := by omega
              have a' : decide (q.1 ≤ K) = false := by simpa using a
              have b' : decide (q.1 ≤ K + 1) = true := by simpa using b
              have c' : decide (q.1 = K + 1) = true := by simpa using c
              rw [a', b', c', if_pos rfl, if_pos rfl, if_neg (by simp), List.length_cons, List.length_cons]
              omega
            · have a' : decide (q.1 ≤ K) = false := by simpa using a
              have b' : decide (q.1 ≤ K + 1) = false := by simp; omega
              have c' : decide (q.1 = K + 1) = false := by simpa using c
              rw [a', b', c', if_neg (by simp), if_neg (by simp), if_neg (by simp)]
              exact ihq
      rw [hsplit P]
      have hU : ∀ u ∈ (P.filter fun q => decide (q.1 = K + 1)).map (·.2), Circ l (K + 1) u := fun u hu => by
        obtain ⟨q, hq, rfl⟩ := List.mem_map.1 hu
        obtain ⟨hq1, hq2⟩ := List.mem_filter.1 hq
        have := hP q hq1
        have e : q.1 = K + 1 := by simpa using hq2
        rw [e] at this; exact this
      have hUn : ((P.filter fun q => decide (q.1 = K + 1)).map (·.2)).Nodup := by
        have key2 : ∀ {Q : List (Nat × List UInt8)}, (∀ q ∈ Q, q.1 = K + 1) → Q.Nodup → (Q.map (·.2)).Nodup := by
          intro Q
          induction Q with
          | nil => intro _ _; exact List.nodup_nil
          | cons q Q ihq =>
            intro hq hn
            obtain ⟨n1, n2⟩ := List.nodup_cons.1 hn
            rw [List.map_cons, List.nodup_cons]
            refine ⟨fun hm => ?_, ihq (fun r hr => hq r (List.mem_cons_of_mem _ hr)) n2⟩
            obtain ⟨r, hr, e⟩ := List.mem_map.1 hm
            have e1 := hq q (List.mem_cons_self ..)
            have e2 := hq r (List.mem_cons_of_mem _ hr)
            have : r = q := Prod.ext (by rw [e1, e2]) e
            exact n1 (this ▸ hr)
        exact key2 (fun q hq => by simpa using (List.mem_filter.1 hq).2) (List.Pairwise.filter _ hn)
      have := circ_le (l := l) (k := K + 1) (by omega) (by omega) hUn hU
      rw [List.length_map] at this
      omega
  have hfin := key (l.length - 1) (by omega)
  have hall : (P.filter fun q => decide (q.1 ≤ l.length - 1)) = P := by
    rw [List.filter_eq_self]
    intro q hq
    have := (circ_lt (hP q hq)).2
    simp; omega
  rw [hall, show l.length - 1 + 1 = l.length by omega] at hfin
  have hL1 : 1 ≤ (LK l 1).length := List.length_pos_of_mem ((mem_LK _).2 ⟨0, by omega, rfl⟩)
  have hLn : (LK l l.length).length ≤ 1 := by have := paRow_len l l.length (l.length + 1 - l.length); unfold LK; omega
  omega

/-- F5: fewer different squares than letters. -/
theorem few_squares {l : List UInt8} (h1 : 1 ≤ l.length) : (sqAll l l.length).length < l.length := by
  have hex : ∀ z, ∃ c : List UInt8 × Nat, z ∈ sqAll l l.length → ∃ s, SqC l z c.1 c.2 s := fun z => by
    by_cases hz : z ∈ sqAll l l.length
    · obtain ⟨i, hi, h, hh, hs⟩ := ((sqAll_spec l l.length).2 z).1 hz
      obtain ⟨u, m, s, hc⟩ := sq_class hs (by omega)
      exact ⟨(u, m), fun _ => ⟨s, hc⟩⟩
    · exact ⟨([], 0), fun h => absurd h hz⟩
  let cl : List UInt8 → List UInt8 × Nat := fun z => Classical.choose (hex z)
  have hcl : ∀ z ∈ sqAll l l.length, ∃ s, SqC l z (cl z).1 (cl z).2 s := fun z hz => Classical.choose_spec (hex z) hz
  have main : ∀ Z : List (List UInt8), Z.Nodup → (∀ z ∈ Z, z ∈ sqAll l l.length) →
      ∃ P : List (Nat × List UInt8), P.Nodup ∧ P.length = Z.length ∧ (∀ q ∈ P, Circ l q.1 q.2) ∧
        ∀ q ∈ P, ∃ m t, 1 ≤ m ∧ q.1 = (2 * m - 1) * q.2.length + t ∧ t < q.2.length ∧ t < (Z.filter fun z => decide (cl z = (q.2, m))).length := by
    intro Z
    induction Z with
    | nil => intro _ _; exact ⟨[], List.nodup_nil, rfl, fun q hq => by simp at hq, fun q hq => by simp at hq⟩
    | cons z Z ih =>
      intro hn hz
      obtain ⟨n1, n2⟩ := List.nodup_cons.1 hn
      obtain ⟨P, p1, p2, p3, p4⟩ := ih n2 (fun y hy => hz y (List.mem_cons_of_mem _ hy))
      obtain ⟨s, hc⟩ := hcl z (hz z (List.mem_cons_self ..))
      obtain ⟨u, hu⟩ : ∃ u, u = (cl z).1 := ⟨_, rfl⟩
      obtain ⟨m, hm⟩ : ∃ m, m = (cl z).2 := ⟨_, rfl⟩
      have hcz : cl z = (u, m) := by rw [hu, hm]
      rw [← hu, ← hm] at hc
      obtain ⟨t, ht⟩ : ∃ t, t = (Z.filter fun y => decide (cl y = (u, m))).length := ⟨_, rfl⟩
      have hcirc := circ_of (l := l) (u := u) (m := m) hc.lyn hc.m1 (Z := z :: Z.filter fun y => decide (cl y = (u, m)))
        (List.nodup_cons.2 ⟨fun h => n1 (List.mem_filter.1 h).1, List.Pairwise.filter _ n2⟩)
        (fun y hy => by
          rcases List.mem_cons.1 hy with rfl | hy
          · exact ⟨s, hc⟩
          · obtain ⟨y1, y2⟩ := List.mem_filter.1 hy
            obtain ⟨s', hs'⟩ := hcl y (hz y (List.mem_cons_of_mem _ y1))
            have e : cl y = (u, m) := by simpa using y2
            rw [e] at hs'
            exact ⟨s', hs'⟩) (t := t) (by rw [List.length_cons, ht])
      have hgrow : ∀ c, (Z.filter fun y => decide (cl y = c)).length ≤ ((z :: Z).filter fun y => decide (cl y = c)).length := fun c => by
        rw [List.filter_cons]; split
        · rw [List.length_cons]; omega
        · exact Nat.le_refl _
      refine ⟨((2 * m - 1) * u.length + t, u) :: P, List.nodup_cons.2 ⟨fun hin => ?_, p1⟩, by rw [List.length_cons, List.length_cons, p2], ?_, ?_⟩
      · obtain ⟨m', t', a1, a2, a3, a4⟩ := p4 _ hin
        simp only at a2 a3 a4
        have hd : ∀ b c, c < u.length → (b * u.length + c) / u.length = b ∧ (b * u.length + c) % u.length = c := fun b c hcu => by
          constructor
          · rw [Nat.mul_comm, Nat.mul_add_div (by omega), Nat.div_eq_of_lt hcu, Nat.add_zero]
          · rw [Nat.mul_comm, Nat.mul_add_mod, Nat.mod_eq_of_lt hcu]
        have d1 := hd (2 * m - 1) t hcirc.1
        have d2 := hd (2 * m' - 1) t' a3
        rw [a2] at d1
        have hm1 := hc.m1
        have e1 : m' = m := by omega
        have e2 : t' = t := by omega
        rw [e1, ← ht, e2] at a4
        omega
      · intro q hq
        rcases List.mem_cons.1 hq with rfl | hq
        · exact hcirc.2
        · exact p3 q hq
      · intro q hq
        rcases List.mem_cons.1 hq with rfl | hq
        · refine ⟨m, t, hc.m1, rfl, hcirc.1, ?_⟩
          have : ((z :: Z).filter fun y => decide (cl y = (u, m))).length = t + 1 := by
            rw [List.filter_cons, if_pos (by simpa using hcz), List.length_cons, ht]
          show t < ((z :: Z).filter fun y => decide (cl y = (u, m))).length
          omega
        · obtain ⟨m', t', a1, a2, a3, a4⟩ := p4 q hq
          exact ⟨m', t', a1, a2, a3, Nat.lt_of_lt_of_le a4 (hgrow _)⟩
  obtain ⟨P, p1, p2, p3, _⟩ := main (sqAll l l.length) (sqAll_spec l l.length).1 (fun z hz => hz)
  rw [← p2]
  exact pairs_le h1 p1 p3

theorem squares38f (s : ByteArray) (w : World) (hc : chk s = 0) :
    Calls Try.prog 38 #[.string s] w fun e w' => e = .returned (.tuple #[.int .i64 ((sqAll s.data.toList s.size).length : Nat), .int .i64 0]) ∧ Below w.heap.size w w' := by
  have := squares38 s w hc
  rw [squares_same] at this
  exact this
theorem shares_snoc (R : List RunT) (k : Nat) (hk : k < R.length) : shares (R.take (k + 1)) = shares (R.take k) + share (R.getD k (0, 0, 0)) := by
  unfold shares
  rw [List.take_succ_eq_append_getElem hk, List.map_append, List.sum_append, List.getD_eq_getElem?_getD, List.getElem?_eq_getElem hk]
  simp
theorem shares_take_le (R : List RunT) (k : Nat) : shares (R.take k) ≤ shares R := by
  unfold shares
  conv => rhs; rw [← List.take_append_drop k R, List.map_append, List.sum_append]
  omega

set_option maxHeartbeats 4000000 in
set_option maxRecDepth 100000 in
theorem walk15 (a : Option Addr) (len cap : Nat) (zs : List Int) (w : World) (h : IsRow .u8 w a len cap zs) :
    Calls Try.prog 15 #[.slice a len cap] w fun e w' => e = .returned (.bool true) ∧ Below w.heap.size w w' := by
  go_enter Try.func15, Try.ntmps15
  go_wp2_with fail
  refine (made49 a len cap zs 200 w h (by omega) (by omega)).mono ?_
  rintro e w1 ⟨s, rfl, h1, h2, hg, hb1⟩
  have hc := chk_of h1 h2 hg
  have k35 := Lib.hid (fun w => runs35 s w hc)
  have k38 := Lib.hid (fun w => squares38f s w hc)
  have hfr := few_runs (l := s.data.toList) (by rw [size_len]; exact h1)
  have hfs := few_squares (l := s.data.toList) (by rw [size_len]; exact h1)
  have hsh := few_shares (l := s.data.toList) (by rw [size_len]; exact h1)
  have hmem := Lib.hid (fun x => (mem_rr (l := s.data.toList) x).1)
  rw [size_len] at hfr hfs hsh hmem
  obtain ⟨R, hR⟩ : ∃ R, R = rrAll s.data.toList s.size := ⟨_, rfl⟩
  obtain ⟨N, hN⟩ : ∃ N, N = (sqAll s.data.toList s.size).length := ⟨_, rfl⟩
  rw [← hR] at k35 hfr hsh hmem
  rw [← hN] at k38 hfs
  clear hR hN hc hg
  go_wp2_with fail
  refine (k35.out _).mono ?_
  rintro e w2 ⟨v, rfl, hv, g2⟩
  go_wp2_with fail
  refine (k38.out _).mono ?_
  rintro e w3 ⟨rfl, g3⟩
  obtain ⟨ao, c, rfl, hr⟩ := hv.shape
  obtain ⟨n, hn⟩ : ∃ n, n = R.length := ⟨_, rfl⟩
  have hn' := Lib.hid hn
  rw [← hn] at hr hfr ⊢
  have hr' := Lib.hid hr
  clear hn hr hv
  have q1 : decide ((s.size : Int) ≤ n) = false := by simp; omega
  have q2 : decide ((s.size : Int) ≤ N) = false := by simp; omega
  have q3 : decide (s.size ≤ n) = false := by simp; omega
  have q4 : decide (s.size ≤ N) = false := by simp; omega
  go_wp2_with fail
  refine (lives24 _).mono ?_
  rintro e w4 ⟨rfl, g4⟩
  have gA := below_call (below_call (below_call hb1 g2) g3) g4
  have z3 := g3.size
  have z4 := g4.size
  go_wp2_with fail
  go_loopw [8, 9] (fun sv i wr => ∃ k : Nat, k ≤ n ∧ i = .int .i64 k ∧ sv = .int .i64 (shares (R.take k) : Nat) ∧ Below w4.heap.size w4 wr) (fun _ i _ => n - (intOf i).toNat)
  case atStart => exact ⟨0, Nat.zero_le _, rfl, rfl, Below.refl _ _⟩
  case round =>
    obtain ⟨k, hk, rfl, rfl, hbr⟩ := hrel
    obtain ⟨w5, rfl⟩ : ∃ w5 : World, w5 = wr := ⟨_, rfl⟩
    have hst := shares_take_le R k
    by_cases hlt : k < n
    · have hne : R ≠ [] := fun e => by have := hn'.out; rw [e] at this; simp at this; omega
      obtain ⟨g, rfl, hg2, hfz, hcells⟩ := hr'.out hne
      obtain ⟨c0, c1, c2⟩ := hcells k hlt
      have hkR : k < R.length := by have := hn'.out; omega
      have hrm : R.getD k (0, 0, 0) ∈ R := by rw [List.getD_eq_getElem?_getD, List.getElem?_eq_getElem hkR]; exact List.getElem_mem hkR
      have hsn := Lib.hid (shares_snoc R k hkR)
      have hst2 := shares_take_le R (k + 1)
      rw [hsn.out] at hst2
      obtain ⟨p, i, j, hp, hrk, hM⟩ := hmem.out _ hrm
      rw [hrk] at c0 c1 c2 hsn hst2
      have m1 := hM.two
      have m2 := hM.le
      rw [size_len] at m2
      have hper := per52' s i j p true (by omega) (by omega) m2 (by omega) hM.per
      have hk52 := Lib.hid hper
      have hg3 : g < w3.heap.size := Nat.lt_of_lt_of_le hg2 z3
      have hg4 : g < w4.heap.size := Nat.lt_of_lt_of_le hg3 z4
      have up : ∀ o v, w2.cell? ⟨g, o, none⟩ = some v → w5.cell? ⟨g, o, none⟩ = some v := fun o v hv => ((hbr.cell (p := ⟨g, o, none⟩) hg4).trans ((g4.cell (p := ⟨g, o, none⟩) hg3).trans (g3.cell (p := ⟨g, o, none⟩) hg2))).trans hv
      have d0 := up _ _ c0
      have d1 := up _ _ c1
      have d2 := up _ _ c2
      have hshare : share (i, j, p) = 1000 * (j - i) / p := rfl
      clear c0 c1 c2 hper hM hrk hrm hcells hfz hne up hmem
      have e1 : decide ((p : Int) < 1) = false := by simp; omega
      have e2 : decide ((s.size : Int) < (p : Int)) = false := by simp; omega
      have e3 : decide (s.size < p) = false := by simp; omega
      have e4 : decide ((i : Int) < 0) = false := by simp
      have e5 : decide ((s.size : Int) < (j : Int)) = false := by simp; omega
      have e6 : decide (s.size < j) = false := by simp; omega
      have e7 : IntKind.i64.wrap ((j : Int) - (i : Int)) = (j : Int) - i := IntWalk.i64_in _ (by omega)
      have e8 : IntKind.i64.wrap (2 * (p : Int)) = 2 * (p : Int) := IntWalk.i64_in _ (by omega)
      have e9 : decide ((j : Int) - i < 2 * p) = false := by simp; omega
      have e10 : (i : Int) ≤ j := by omega
      have e11 : (j : Int) ≤ s.size := by omega
      have e12 : i ≤ j := by omega
      have e13 : j ≤ s.size := by omega
      have e14 : ¬ ((p : Int) < 1) := by omega
      have e15 : ¬ ((j : Int) - i < 2 * p) := by omega
      have e16 : (0 : Int) ≤ k := by omega
      have e17 : (k : Int) < n := by omega
      go_wp2_with fail
      go_cut [115] from 57 to 115 (fun r wx => r = .bool false ∧ Below w5.heap.size w5 wx)
      case first =>
        refine wp_region_still_tail 56 (by kernel_rfl) (by kernel_rfl) ?_
        simp only [List.take_succ_cons, List.take_zero, List.drop_succ_cons, List.drop_zero]
        change wpStill _ _ w5.drew (fun a' => wpList _ _ _ _ a' w5.drew) _ _
        obtain ⟨w6, hw6⟩ : ∃ w6, w6 = w5.drew := ⟨_, rfl⟩
        have d0' : w6.cell? ⟨g, k * 3, none⟩ = some (.int .i64 (i : Int)) := by rw [hw6]; exact d0
        have d1' : w6.cell? ⟨g, k * 3 + 1, none⟩ = some (.int .i64 (j : Int)) := by rw [hw6]; exact d1
        rw [← hw6]
        have hw6' := Lib.hid hw6
        clear hw6 d0 d1 d2
        iterate 56 still_step
        refine wpStill_nil ?_
        go_wp2_with (go_at_call 52; refine (hk52.out _).mono ?_; rintro e w7 ⟨rfl, g7⟩)
        go_meet
        rw [hw6'.out] at g7
        exact ⟨rfl, below_seq (Below.refl _ _).drew g7 (Nat.le_refl _)⟩
      case rest =>
        obtain ⟨rfl, g7⟩ := hcut
        obtain ⟨w7, rfl⟩ : ∃ w7 : World, w7 = wc := ⟨_, rfl⟩
        have hg5 : g < w5.heap.size := Nat.lt_of_lt_of_le hg4 hbr.size
        have b0 : w7.cell? ⟨g, k * 3, none⟩ = some (.int .i64 (i : Int)) := (g7.cell (p := ⟨g, k * 3, none⟩) hg5).trans d0
        have b1 : w7.cell? ⟨g, k * 3 + 1, none⟩ = some (.int .i64 (j : Int)) := (g7.cell (p := ⟨g, k * 3 + 1, none⟩) hg5).trans d1
        clear d0 d1 d2
        have p0 : ((p : Int) == 0) = false := by simp; omega
        have p1 : ¬ p = 0 := by omega
        have p2 : (0 : Int) < p := by omega
        have p3 : IntKind.i64.wrap (1000 * ((j : Int) - i)) = 1000 * ((j : Int) - i) := IntWalk.i64_in _ (by omega)
        have p4 : (1000 * ((j : Int) - i)) / (p : Int) = ((share (i, j, p) : Nat) : Int) := by
          rw [hshare, Int.natCast_ediv]; congr 1; omega
        have p5 : IntKind.i64.wrap ((share (i, j, p) : Nat) : Int) = ((share (i, j, p) : Nat) : Int) := IntWalk.i64_in _ (by omega)
        have p6 : IntKind.i64.wrap (((shares (R.take k) : Nat) : Int) + ((share (i, j, p) : Nat) : Int)) = ((shares (R.take k) : Nat) : Int) + ((share (i, j, p) : Nat) : Int) := IntWalk.i64_in _ (by omega)
        have p7 : (0 : Int) ≤ 1000 * ((j : Int) - i) := by omega
        clear hshare
        go_wp2_with fail
        go_quiet (fail)
        go_wp2
        go_roundw
        case rel => exact ⟨k + 1, by omega, by go_num, int_eq (by rw [hsn.out]; push_cast; omega), below_drewN (below_seq hbr g7 (Nat.le_refl _)) _⟩
        case measure => simp [intOf]; omega
    · have hke : R.take k = R := List.take_of_length_le (by have := hn'.out; omega)
      rw [hke]
      have f1 : ((shares R : Nat) : Int) < 3000 * (s.size : Int) := by omega
      go_wp2
      go_ret
      exact ⟨rfl, below_call gA hbr⟩
end Go.Proofs.Ytbcoaiaocfommaa
