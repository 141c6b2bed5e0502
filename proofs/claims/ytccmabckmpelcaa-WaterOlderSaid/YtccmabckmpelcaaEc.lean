import Derived.Test.YtccmabckmpelcaaEa
namespace Go.Proofs.Ytccmabckmpelcaa
open Go.RowKit

/-! ## Uses by rights -/
theorem grow1_grow (us : List Int) (p : Nat) (d : Int) (h : p < us.length) : us.set p (us.getD p 0 + d + 1) = grow1 (us.set p (us.getD p 0 + d)) p := by
  unfold grow1
  rw [List.set_set, List.getD_eq_getElem?_getD (l := us.set p _), List.getElem?_set_self h]
  rfl
theorem L_set (us : List Int) (p : Nat) (x : Int) (h : p < us.length) : L (us.set p x) = up (L us) p (x - L us p) := by
  funext i
  unfold L up
  by_cases e : i = p
  · subst e
    rw [if_pos rfl, List.getD_eq_getElem?_getD, List.getElem?_set_self h]
    show x = us.getD i 0 + (x - us.getD i 0)
    omega
  · rw [if_neg e, List.getD_eq_getElem?_getD, List.getElem?_set_ne (fun h => e h.symm)]
    simp [List.getD_eq_getElem?_getD]
theorem set_same (us : List Int) (p : Nat) : us.set p (us.getD p 0) = us := by
  refine List.ext_getElem (by simp) fun i h1 h2 => ?_
  rw [List.getElem_set]
  split
  · rename_i e; subst e; simp [List.getD_eq_getElem?_getD, h2]
  · rfl
/-- Fewer pieces at one place are possible, too. -/
theorem poss_less {fs us : List Int} {p : Nat} {x y : Int} (hl : us.length = fs.length) (hp : p < us.length) (hxy : x ≤ y) (h : poss 0 fs (us.set p y) = true) : poss 0 fs (us.set p x) = true := by
  rw [poss_L (by simpa using hl)] at h ⊢
  intro k hk
  have := h k hk
  rw [L_set us p y hp, S_up] at this
  rw [L_set us p x hp, S_up]
  split at this <;> rename_i e
  · rw [if_pos e]; omega
  · rw [if_neg e]; exact this

/-- What `serve` returns: the greatest number of pieces that is possible, at most `r` more. -/
theorem serve_eq (fs : List Int) (p : Nat) : ∀ (r : Nat) (us : List Int), us.length = fs.length → p < us.length → poss 0 fs us = true →
    ∃ t : Nat, t ≤ r ∧ serve fs p r us = us.set p (us.getD p 0 + t) ∧ poss 0 fs (us.set p (us.getD p 0 + t)) = true ∧ (t < r → poss 0 fs (us.set p (us.getD p 0 + t + 1)) = false) := by
  intro r
  induction r with
  | zero => intro us hl hp h; exact ⟨0, Nat.le_refl _, by unfold serve; simpa using (set_same us p).symm, by rw [show us.getD p 0 + ((0 : Nat) : Int) = us.getD p 0 by omega, set_same]; exact h, fun h => by omega⟩
  | succ r ih =>
    intro us hl hp h
    unfold serve
    by_cases hg : poss 0 fs (grow1 us p) = true
    · rw [if_pos hg]
      obtain ⟨t, h1, h2, h3, h4⟩ := ih (grow1 us p) (by rw [grow1_len]; exact hl) (by rw [grow1_len]; exact hp) hg
      have e : (grow1 us p).getD p 0 = us.getD p 0 + 1 := by rw [grow1_at us p p hp, if_pos rfl]
      have e2 : ∀ x, (grow1 us p).set p x = us.set p x := fun x => by unfold grow1; rw [List.set_set]
      rw [e, e2] at h2 h3
      rw [e, e2] at h4
      refine ⟨t + 1, by omega, by rw [h2]; congr 1; omega, by rw [show us.getD p 0 + ((t + 1 : Nat) : Int) = us.getD p 0 + 1 + t by omega]; exact h3, fun h => ?_⟩
      rw [show us.getD p 0 + ((t + 1 : Nat) : Int) + 1 = us.getD p 0 + 1 + t + 1 by omega]
      exact h4 (by omega)
    · rw [if_neg hg]
      refine ⟨0, Nat.zero_le _, by simpa using (set_same us p).symm, by rw [show us.getD p 0 + ((0 : Nat) : Int) = us.getD p 0 by omega, set_same]; exact h, fun _ => ?_⟩
      have : us.set p (us.getD p 0 + ((0 : Nat) : Int) + 1) = grow1 us p := by unfold grow1; simp
      rw [this]; simpa using hg

theorem poss_zeros {fs : List Int} (hf : FlowOk fs) : poss 0 fs (List.replicate fs.length 0) = true := by
  rw [poss_L (by simp)]
  intro k hk
  refine S_le fun i hi => ?_
  show (List.replicate fs.length (0 : Int)).getD i 0 ≤ fs.getD i 0
  rw [zeros_at]
  exact (hf.2 i (by omega)).1

/-- The ages are a permutation. -/
theorem place_facts {ag : List Int} {n : Nat} (h : agesB ag n = true) {k : Nat} (hk : k < n) : placeOf ag k < n ∧ ag.getD (placeOf ag k) 0 = (k : Int) ∧ ∀ i, i < n → ag.getD i 0 = (k : Int) → i = placeOf ag k := by
  have h' := h
  unfold agesB at h'
  simp only [Bool.and_eq_true, decide_eq_true_eq] at h'
  obtain ⟨hl, hb⟩ := h'
  rcases idx_cases (k : Nat) ag with ⟨e, _⟩ | ⟨j, j1, j2, j3, j4⟩
  · have := hasB_at hk hb; omega
  · have hp : placeOf ag k = j := by unfold placeOf; rw [j2]; rfl
    rw [hp]
    refine ⟨by omega, j3, fun i hi e => ?_⟩
    rcases Nat.lt_trichotomy i j with c | c | c
    · exact absurd e (j4 i c)
    · exact c
    · exfalso
      have := ages_not hl hi (.inr (by
        rw [e, ← j3, List.getD_eq_getElem?_getD, List.getElem?_eq_getElem j1]
        simp only [Option.getD_some]
        rw [List.mem_iff_getElem]
        exact ⟨j, by rw [List.length_take]; omega, by rw [List.getElem_take]⟩))
      rw [h] at this; simp at this
theorem serve_other (fs : List Int) (p j : Nat) (h : j ≠ p) : ∀ r us, (serve fs p r us).getD j 0 = us.getD j 0 := by
  intro r
  induction r with
  | zero => intro us; rfl
  | succ r ih =>
    intro us
    unfold serve
    split
    · rw [ih]
      unfold grow1
      rw [List.getD_eq_getElem?_getD, List.getElem?_set_ne (fun e => h e.symm), List.getD_eq_getElem?_getD]
    · rfl
theorem served_zero {fs rs ag : List Int} {j : Nat} : ∀ k, (∀ a, a < k → placeOf ag a ≠ j) → (served fs rs ag k).getD j 0 = 0 := by
  intro k
  induction k with
  | zero => intro _; rw [served, zeros_at]
  | succ k ih =>
    intro h
    rw [served, serve_other fs _ _ (fun e => h k (by omega) e.symm)]
    exact ih (fun a ha => h a (by omega))
theorem served_poss {fs rs ag : List Int} (hf : FlowOk fs) (hg : agesB ag fs.length = true) : ∀ k, k ≤ fs.length → poss 0 fs (served fs rs ag k) = true := by
  intro k
  induction k with
  | zero => intro _; exact poss_zeros hf
  | succ k ih =>
    intro hk
    obtain ⟨t, _, h2, h3, _⟩ := serve_eq fs (placeOf ag k) (rs.getD (placeOf ag k) 0).toNat (served fs rs ag k) (served_len _ _ _ _) (by rw [served_len]; exact (place_facts hg (by omega)).1) (ih (by omega))
    rw [served, h2]; exact h3
/-- The pieces of the place that is served next. -/
theorem served_next {fs rs ag : List Int} (hf : FlowOk fs) (hg : agesB ag fs.length = true) {k : Nat} (hk : k < fs.length) :
    ∃ t : Nat, (t : Int) ≤ ((rs.getD (placeOf ag k) 0).toNat : Int) ∧ (served fs rs ag k).getD (placeOf ag k) 0 = 0 ∧ served fs rs ag (k + 1) = (served fs rs ag k).set (placeOf ag k) (t : Int) ∧ poss 0 fs ((served fs rs ag k).set (placeOf ag k) (t : Int)) = true ∧
      ∀ x : Int, (t : Int) < x → x ≤ ((rs.getD (placeOf ag k) 0).toNat : Int) → poss 0 fs ((served fs rs ag k).set (placeOf ag k) x) = false := by
  obtain ⟨p1, p2, _⟩ := place_facts hg hk
  have hz : (served fs rs ag k).getD (placeOf ag k) 0 = 0 := served_zero k (fun a ha e => by
    have := (place_facts hg (k := a) (by omega)).2.1
    rw [e, p2] at this
    omega)
  obtain ⟨t, h1, h2, h3, h4⟩ := serve_eq fs (placeOf ag k) (rs.getD (placeOf ag k) 0).toNat (served fs rs ag k) (served_len _ _ _ _) (by rw [served_len]; exact p1) (served_poss hf hg k (by omega))
  rw [hz, show (0 : Int) + t = t by omega] at h2 h3 h4
  refine ⟨t, by omega, hz, by rw [served, h2], h3, fun x hx1 hx2 => ?_⟩
  cases e : poss 0 fs ((served fs rs ag k).set (placeOf ag k) x) with
  | false => rfl
  | true =>
    have := poss_less (x := (t : Int) + 1) (served_len _ _ _ _) (by rw [served_len]; exact p1) (by omega) e
    rw [h4 (by omega)] at this; simp at this

set_option maxHeartbeats 4000000 in
set_option maxRecDepth 100000 in
theorem calls36 {w : World} {u v z : Value} {fs rs ag : List Int} (hu : Reads w u fs) (hv : Reads w v rs) (hz : Reads w z ag) (hb : rightsB fs rs ag = true) :
    Calls Try.prog 36 #[u, v, z] w fun e w' => ∃ x, e = .returned x ∧ Reads w' x (served fs rs ag fs.length) ∧ Below w.heap.size w w' := by
  unfold rightsB at hb
  simp only [Bool.and_eq_true, decide_eq_true_eq] at hb
  obtain ⟨⟨⟨ha, hl⟩, hr⟩, hg⟩ := hb
  obtain ⟨_, h8, _, hfo⟩ := flowB_facts ha
  have hla : ag.length = fs.length := by
    unfold agesB at hg
    simp only [Bool.and_eq_true, decide_eq_true_eq] at hg
    exact hg.1
  have hu' := Lib.hid hu
  have hv' := Lib.hid hv
  have hz' := Lib.hid hz
  obtain ⟨fo, fc, rfl, _, _⟩ := hu
  obtain ⟨ro, rc, rfl, _, _⟩ := hv
  obtain ⟨ao, ac, rfl, _, _⟩ := hz
  have hnx := Lib.hid (fun k hk => served_next (rs := rs) hfo hg (k := k) hk)
  have hpf := Lib.hid (fun k hk => place_facts hg (k := k) hk)
  obtain ⟨n, hn⟩ : ∃ n, n = fs.length := ⟨_, rfl⟩
  rw [hl] at hv' ⊢
  rw [hla] at hz' ⊢
  rw [← hn] at h8 hu' hv' hz' hnx hpf ⊢
  have hbd := Lib.hid (served_bdd fs rs ag hr)
  have hr' := Lib.hid (fun j => amt_any hr j)
  have hn' := Lib.hid hn
  have hl' := Lib.hid (hl.trans hn.symm)
  have hla' := Lib.hid (hla.trans hn.symm)
  have hfo' := Lib.hid hfo
  clear hn hl hla hfo hr ha hg
  go_enter Try.func36, Try.ntmps36
  go_wp2_with (first | (at_make; refine make_row n (by omega) (Nat.le_refl w.heap.size) rfl _ _ rfl rfl rfl ?_; intro w3 hr3 hb3))
  obtain ⟨g0, hg0⟩ : ∃ g0, g0 = w.heap.size := ⟨_, rfl⟩
  rw [← hg0] at hr3 hb3 ⊢
  have hg0' := Lib.hid hg0
  clear hg0
  go_loopw [8] (fun i wr => ∃ (k : Nat), k ≤ n ∧ i = .int .i64 k ∧ Row wr g0 g0 n (served fs rs ag k) ∧ Below g0 w wr) (fun i _ => n - (intOf i).toNat)
  case atStart => exact ⟨0, Nat.zero_le _, rfl, by rw [served, ← hn'.out]; exact hr3, hb3⟩
  case round =>
    obtain ⟨k, hk, rfl, hrow, hb⟩ := hrel
    obtain ⟨wo, rfl⟩ : ∃ wo : World, wo = wr := ⟨_, rfl⟩
    by_cases hlt : k < n
    · obtain ⟨t, ht, htz, hsv, hpt, hpn⟩ := hnx.out k hlt
      obtain ⟨p1, p2, p3⟩ := hpf.out k hlt
      obtain ⟨p, hp⟩ : ∃ p, p = placeOf ag k := ⟨_, rfl⟩
      rw [← hp] at p1 p2 p3 ht htz hsv hpt hpn
      obtain ⟨r0, r1⟩ := hr'.out p
      obtain ⟨R, hR⟩ : ∃ R : Nat, (R : Int) = rs.getD p 0 := ⟨(rs.getD p 0).toNat, by omega⟩
      rw [← hR, Int.toNat_natCast] at ht hpn
      rw [← hR] at r1
      have hR' := Lib.hid hR
      have p2' := Lib.hid p2
      have p3' := Lib.hid p3
      have hsv' := Lib.hid hsv
      have hpt' := Lib.hid hpt
      have hpn' := Lib.hid hpn
      have hrow' := Lib.hid hrow
      have hsl := Lib.hid (show (served fs rs ag k).length = n by rw [served_len, hn'.out])
      have hnn := Lib.hid (show ∀ x : Int, 0 ≤ x → NonNeg ((served fs rs ag k).set p x) from fun x hx j hj => by
        rw [List.length_set] at hj
        by_cases e : p = j
        · subst e; rw [List.getD_eq_getElem?_getD, List.getElem?_set_self hj]; simpa using hx
        · rw [List.getD_eq_getElem?_getD, List.getElem?_set_ne e, ← List.getD_eq_getElem?_getD]; exact (hbd.out k j hj).1)
      clear hp p2 p3 hsv hpt hpn hrow hR htz
      go_wp2_with fail
      go_loopw [9] (fun i wr => ∃ (j : Nat), j ≤ n ∧ i = .int .i64 j ∧ Row wr g0 g0 n (if j ≤ p then served fs rs ag k else served fs rs ag (k + 1)) ∧ Below g0 w wr) (fun i _ => n - (intOf i).toNat)
      case atStart => exact ⟨0, Nat.zero_le _, rfl, by rw [if_pos (Nat.zero_le _)]; exact hrow'.out, hb⟩
      case round =>
        obtain ⟨j, hj, rfl, hrj, hbj⟩ := hrel
        obtain ⟨wi, rfl⟩ : ∃ wi : World, wi = wr := ⟨_, rfl⟩
        by_cases hlt2 : j < n
        · obtain ⟨g3, o3, rfl, hg3, hc3⟩ := hz'.out.at hla'.out hlt2
          have c3 := (hbj.cell (p := ⟨g3, o3 + j, none⟩) (by rw [hg0'.out]; exact hg3)).trans (hc3 j hlt2)
          by_cases hjp : j = p
          · subst hjp
            rw [p2'.out] at c3
            rw [if_pos (Nat.le_refl _)] at hrj
            obtain ⟨g2, o2, rfl, hg2, hc2⟩ := hv'.out.at hl'.out hlt2
            have c2 := (hbj.cell (p := ⟨g2, o2 + j, none⟩) (by rw [hg0'.out]; exact hg2)).trans (hc2 j hlt2)
            rw [← hR'.out] at c2
            have cb := hrj.cell hlt2
            have fb := hrj.frozen j
            have hrj' := Lib.hid hrj
            have hne : ((k : Int) != (k : Int)) = false := by simp
            clear hc3 hc2 hrj
            go_wp2_with fail
            go_loopw [] (fun wr => ∃ (x : Nat), t ≤ x ∧ x ≤ R ∧ Row wr g0 g0 n ((served fs rs ag k).set j (x : Int)) ∧ Below g0 w wr) (fun wr => (intOf ((wr.cell? ⟨g0, j, none⟩).getD undef)).toNat)
            case atStart => exact ⟨R, by omega, Nat.le_refl _, hrj'.out.set j _, below_set hbj (Nat.le_refl _)⟩
            case round =>
              obtain ⟨x, hx1, hx2, hrx, hbx⟩ := hrel
              have hgj : ((served fs rs ag k).set j (x : Int)).getD j 0 = (x : Int) := by
                rw [List.getD_eq_getElem?_getD, List.getElem?_set_self (by rw [hsl.out]; exact hlt2)]; rfl
              have cb := hrx.cell hlt2
              rw [hgj] at cb
              have fb := hrx.frozen j
              have hrx' := Lib.hid hrx
              have hub := Lib.hid (hu'.out.below (by rw [← hg0'.out]; exact hbx))
              clear hrx hgj
              go_wp2_with fail
              refine (possible19 hub.out hrx'.out.reads (by rw [List.length_set, hsl.out, hn'.out]) hfo'.out (hnn.out x (by omega))).mono ?_
              rintro e w5 ⟨rfl, rfl⟩
              by_cases hxt : x = t
              · rw [hxt, hpt'.out]
                go_wp2_with fail
                go_roundw
                case rel => exact ⟨j + 1, by omega, by go_num, by rw [if_neg (by omega), hsv'.out, ← hxt]; exact hrx'.out, hbx⟩
                case measure => simp [intOf]; omega
              · rw [hpn'.out x (by omega) (by omega)]
                go_wp2_with fail
                go_roundw
                case rel =>
                  refine ⟨x - 1, by omega, by omega, ?_, below_set hbx (Nat.le_refl _)⟩
                  have := hrx'.out.set j ((x : Int) - 1)
                  rw [List.set_set] at this
                  rw [show (((x - 1 : Nat)) : Int) = (x : Int) - 1 by omega]
                  exact this
                case measure =>
                  have h6 := (hrx'.out.set j ((x : Int) - 1)).cell hlt2
                  rw [List.getD_eq_getElem?_getD, List.getElem?_set_self (by rw [List.length_set, hsl.out]; exact hlt2)] at h6
                  simp only [Option.getD_some] at h6
                  simp [intOf, cb, h6]
                  omega
          · have hne : ((ag.getD j 0) != (k : Int)) = true := by
              have h1 : ¬ ag.getD j 0 = (k : Int) := fun e => hjp (p3'.out j hlt2 e)
              simpa using h1
            obtain ⟨q, hq⟩ : ∃ q, q = ag.getD j 0 := ⟨_, rfl⟩
            rw [← hq] at c3 hne
            clear hc3 hq
            have hrj2 := Lib.hid (show Row wi g0 g0 n (if j + 1 ≤ p then served fs rs ag k else served fs rs ag (k + 1)) by
              by_cases e : j ≤ p
              · rw [if_pos e] at hrj; rw [if_pos (by omega)]; exact hrj
              · rw [if_neg e] at hrj; rw [if_neg (by omega)]; exact hrj)
            clear hrj
            go_wp2_with fail
            go_roundw
            case rel => exact ⟨j + 1, by omega, by go_num, hrj2.out, hbj⟩
            case measure => simp [intOf]; omega
        · have hrj2 := Lib.hid (show Row wi g0 g0 n (served fs rs ag (k + 1)) by rw [if_neg (by omega)] at hrj; exact hrj)
          clear hrj
          go_wp2_with fail
          go_roundw
          case rel => exact ⟨k + 1, by omega, by go_num, hrj2.out, hbj⟩
          case measure => simp [intOf]; omega
    · have hkn : n = k := by omega
      subst hkn
      go_wp2_with fail
      go_ret
      exact ⟨_, rfl, hrow.reads, by rw [← hg0'.out]; exact hb⟩
end Go.Proofs.Ytccmabckmpelcaa
