import Derived.Test.YtccmabckmpelcaaRb
import Derived.Test.YtccmabckmpelcaaK
namespace Go.Proofs.Ytccmabckmpelcaa

theorem F_grow {fs : List Int} {i : Nat} (hi : i < fs.length) (k : Nat) : S (L (grow1 fs i)) k = S (L fs) k + if i < k then 1 else 0 := by
  rw [L_grow1 fs i hi, S_up]

/-- What is known of the best use and of the prices. -/
theorem price_facts {fs : List Int} {gs : List (List Int)} (hr : rivB fs gs = true) {i : Nat} (hi : i < gs.length) :
    0 ≤ bestW (grow1 fs i) gs - bestW fs gs ∧
    (∀ j, i < j → j < gs.length → bestW (grow1 fs j) gs ≤ bestW (grow1 fs i) gs) ∧
    (0 < L (bestU fs gs) i → bestW (grow1 fs i) gs - bestW fs gs ≤ mg gs i (L (bestU fs gs) i - 1)) ∧
    mg gs i (L (bestU fs gs) i) ≤ bestW (grow1 fs i) gs - bestW fs gs := by
  obtain ⟨_, h8, hfl, hfo, hok, h30⟩ := rivB_facts hr
  have hgo : ∀ j, FlowOk (grow1 fs j) := fun j => hfo.grow h8 h30
  have hgl : ∀ j, (grow1 fs j).length = gs.length := fun j => by rw [grow1_len]; exact hfl
  obtain ⟨_, _, u1, u2, u3⟩ := best_spec hok hfl hfo
  obtain ⟨_, _, y1, y2, y3⟩ := best_spec hok (hgl i) (hgo i)
  obtain ⟨u, hu⟩ : ∃ u, u = L (bestU fs gs) := ⟨_, rfl⟩
  obtain ⟨y, hy⟩ : ∃ u, u = L (bestU (grow1 fs i) gs) := ⟨_, rfl⟩
  rw [← hu] at u1 u2 u3 ⊢
  rw [← hy] at y1 y2 y3
  have hF : ∀ k, S (L (grow1 fs i)) k = S (L fs) k + if i < k then 1 else 0 := F_grow (by omega)
  refine ⟨?_, fun j hij hj => ?_, fun hui => ?_, ?_⟩
  · have := (y2 u ⟨u1.1, fun k hk => by rw [hF]; have := u1.2 k hk; split <;> omega⟩).1
    omega
  · obtain ⟨_, _, z1, _, z3⟩ := best_spec hok (hgl j) (hgo j)
    have := (y2 _ ⟨z1.1, fun k hk => by
      have h1 := z1.2 k hk
      rw [F_grow (by omega)] at h1
      rw [hF]
      by_cases e : j < k
      · rw [if_pos e] at h1; rw [if_pos (by omega)]; exact h1
      · rw [if_neg e] at h1; split <;> omega⟩).1
    omega
  · by_cases hyf : ∃ p, p ≤ gs.length ∧ S (L fs) p < S y p
    · obtain ⟨p0, hp0⟩ := hyf
      obtain ⟨p, ⟨hpn, hpt⟩, hpl⟩ := least (P := fun p => p ≤ gs.length ∧ S (L fs) p < S y p) p0 hp0
      have hyp := y1.2 p hpn
      rw [hF] at hyp
      have hip : i < p := by
        rcases Nat.lt_or_ge i p with h | h
        · exact h
        · rw [if_neg (by omega)] at hyp; omega
      rw [if_pos hip] at hyp
      obtain ⟨d, hd⟩ : ∃ d, d = up u i (-1) := ⟨_, rfl⟩
      have hSd : ∀ k, S d k = S u k + if i < k then -1 else 0 := fun k => by rw [hd, S_up]
      obtain ⟨j, hj, hdj, htight⟩ := aug (b := y) (d := d) (F := S (L fs)) p
        (fun k hk => by
          have : ¬ S (L fs) k < S y k := fun e => hpl k hk ⟨by omega, e⟩
          omega)
        (fun k hk => by rw [hSd]; have := u1.2 k (by omega); split <;> omega)
        (by rw [hSd, if_pos hip]; have := u1.2 p hpn; omega)
      have hd0 : ∀ q, q < gs.length → 0 ≤ d q := fun q hq => by
        rw [hd]
        by_cases e : q = i
        · subst e; rw [up_self]; omega
        · rw [up_ne _ _ e]; exact u1.1 q hq
      have hdj0 := hd0 j (by omega)
      have hc : Feas gs.length (S (L fs)) (up y j (-1)) := by
        refine ⟨fun q hq => ?_, fun k hk => ?_⟩
        · have := y1.1 q hq
          by_cases e : q = j
          · subst e; rw [up_self]; omega
          · rw [up_ne _ _ e]; exact this
        · rw [S_up]
          have h1 := y1.2 k hk
          rw [hF] at h1
          by_cases hkp : k < p
          · have : ¬ S (L fs) k < S y k := fun e => hpl k hkp ⟨hk, e⟩
            split <;> omega
          · rw [if_pos (by omega)]
            split at h1 <;> omega
      have he : Feas gs.length (S (L fs)) (up d j 1) := by
        refine ⟨fun q hq => ?_, fun k hk => ?_⟩
        · have := hd0 q hq
          by_cases e : q = j
          · subst e; rw [up_self]; omega
          · rw [up_ne _ _ e]; exact this
        · rw [S_up]
          have h1 := u1.2 k hk
          have h2 := hSd k
          by_cases hjk : j < k
          · rw [if_pos hjk]
            by_cases hkp : k < p
            · have := htight k hjk hkp; omega
            · rw [if_pos (by omega)] at h2; omega
          · rw [if_neg hjk]
            split at h2 <;> omega
      have hc1 := (u2 _ hc).1
      have he1 := (u2 _ he).1
      rw [Wf_dn y (by omega) (by omega)] at hc1
      rw [Wf_up d (by omega) hdj0] at he1
      have hwd : Wf gs gs.length d = Wf gs gs.length u - mg gs i (u i - 1) := by rw [hd]; exact Wf_dn u hi (by omega)
      have hm := mg_anti hok j (x := d j) (y := y j - 1) hdj0 (by omega)
      omega
    · have := (u2 y ⟨y1.1, fun k hk => by
        have : ¬ S (L fs) k < S y k := fun e => hyf ⟨k, hk, e⟩
        omega⟩).1
      have := mg_nn hok i (u i - 1)
      omega
  · have := (y2 (up u i 1) ⟨fun q hq => by
      have := u1.1 q hq
      by_cases e : q = i
      · subst e; rw [up_self]; omega
      · rw [up_ne _ _ e]; exact this, fun k hk => by
      rw [S_up, hF]; have := u1.2 k hk; split <;> omega⟩).1
    rw [Wf_up u hi (u1.1 i hi)] at this
    omega
end Go.Proofs.Ytccmabckmpelcaa
