import Derived.Test.YtbcoaiaocfommaaWb
namespace Go.Proofs.Ytbcoaiaocfommaa
open Go.RowKit

/-! ## fewer runs than letters -/
theorem nodup_len3 {xs : List Nat} : ∀ {ys : List Nat}, xs.Nodup → (∀ z, z ∈ xs → z ∈ ys) → xs.length ≤ ys.length := by
  induction xs with
  | nil => intro ys _ _; exact Nat.zero_le _
  | cons x xs ih =>
    intro ys hn hs
    obtain ⟨hx, hn'⟩ := List.nodup_cons.1 hn
    have hxy := hs x (List.mem_cons_self ..)
    have := ih (ys := ys.erase x) hn' (fun z hz => by
      have hzy := hs z (List.mem_cons_of_mem _ hz)
      refine (List.mem_erase_of_ne ?_).2 hzy
      rintro rfl; exact hx hz)
    rw [List.length_erase_of_mem hxy] at this
    have hpos := List.length_pos_of_mem hxy
    rw [List.length_cons]; omega
theorem nats_below {xs : List Nat} {n : Nat} (hn : xs.Nodup) (h : ∀ x ∈ xs, 1 ≤ x ∧ x < n) : xs.length ≤ n - 1 := by
  have := nodup_len3 (ys := (List.range (n - 1)).map (· + 1)) hn (fun z hz => by
    obtain ⟨h1, h2⟩ := h z hz
    exact List.mem_map.2 ⟨z - 1, List.mem_range.2 (by omega), by omega⟩)
  simpa using this
theorem flat_nodup {B : RunT → List Nat} : ∀ {R : List RunT}, R.Nodup → (∀ r ∈ R, (B r).Nodup) → (∀ r ∈ R, ∀ r' ∈ R, ∀ x, x ∈ B r → x ∈ B r' → r = r') → (R.flatMap B).Nodup := by
  intro R
  induction R with
  | nil => intro _ _ _; exact List.nodup_nil
  | cons r R ih =>
    intro hn h1 h2
    obtain ⟨hr, hn'⟩ := List.nodup_cons.1 hn
    rw [List.flatMap_cons, List.nodup_append]
    refine ⟨h1 r (List.mem_cons_self ..), ih hn' (fun s hs => h1 s (List.mem_cons_of_mem _ hs)) (fun s hs s' hs' => h2 s (List.mem_cons_of_mem _ hs) s' (List.mem_cons_of_mem _ hs')), ?_⟩
    intro x hx y hy e
    subst e
    obtain ⟨s, hs, hxs⟩ := List.mem_flatMap.1 hy
    have := h2 r (List.mem_cons_self ..) s (List.mem_cons_of_mem _ hs) x hx hxs
    exact hr (this ▸ hs)
/-- How many periods a run has, less one. -/
def extra (r : RunT) : Nat := (r.2.1 - r.1) / r.2.2 - 1
def extras (R : List RunT) : Nat := (R.map extra).sum
theorem flat_len {f : RunT → Nat} (R : List RunT) : (R.flatMap fun r => (List.range (extra r)).map fun t => f r + t * r.2.2).length = extras R := by
  unfold extras
  induction R with
  | nil => rfl
  | cons r R ih => rw [List.flatMap_cons, List.length_append, ih, List.map_cons, List.sum_cons, List.length_map, List.length_range]
theorem extras_le (l : List UInt8) : extras (rrAll l l.length) ≤ l.length - 1 := by
  have hex : ∀ r : RunT, ∃ a, r ∈ rrAll l l.length → (r.1 < a ∧ 1 ≤ r.2.2 ∧ ∀ t, t < extra r → Root l (ordOf l r.2.1 r.2.2) r.1 r.2.1 r.2.2 (a + t * r.2.2)) := by
    intro r
    by_cases hr : r ∈ rrAll l l.length
    · obtain ⟨p, i, j, hp, rfl, hm⟩ := (mem_rr r).1 hr
      obtain ⟨a, h1, _, h3⟩ := roots_of hm hp
      exact ⟨a, fun _ => ⟨h1, hp, h3⟩⟩
    · exact ⟨0, fun h => absurd h hr⟩
  let f : RunT → Nat := fun r => Classical.choose (hex r)
  have hf : ∀ r ∈ rrAll l l.length, r.1 < f r ∧ 1 ≤ r.2.2 ∧ ∀ t, t < extra r → Root l (ordOf l r.2.1 r.2.2) r.1 r.2.1 r.2.2 (f r + t * r.2.2) := fun r hr => Classical.choose_spec (hex r) hr
  rw [← flat_len (f := f)]
  refine nats_below (flat_nodup (rr_nodup l) ?_ ?_) ?_
  · intro r hr
    obtain ⟨_, hp, _⟩ := hf r hr
    have hpw : ((List.range (extra r)).map fun t => f r + t * r.2.2).Pairwise (· ≠ ·) := by
      rw [List.pairwise_map]
      refine List.Pairwise.imp (fun {a b} hab e => hab ?_) List.nodup_range
      exact Nat.eq_of_mul_eq_mul_right (show 0 < r.2.2 by omega) (by omega)
    exact hpw
  · intro r hr r' hr' x hx hx'
    obtain ⟨t, ht, rfl⟩ := List.mem_map.1 hx
    obtain ⟨t', ht', e⟩ := List.mem_map.1 hx'
    have g1 := (hf r hr).2.2 t (List.mem_range.1 ht)
    have g2 := (hf r' hr').2.2 t' (List.mem_range.1 ht')
    rw [e] at g2
    exact root_one g1 g2
  · intro x hx
    obtain ⟨r, hr, hxr⟩ := List.mem_flatMap.1 hx
    obtain ⟨t, ht, rfl⟩ := List.mem_map.1 hxr
    have g := (hf r hr).2.2 t (List.mem_range.1 ht)
    have a1 := g.lo
    have a2 := g.hi
    have a3 := g.run.le
    have a4 := g.pos
    omega
theorem extra_pos {l : List UInt8} {r : RunT} (h : r ∈ rrAll l l.length) : 1 ≤ extra r ∧ 1 ≤ r.2.2 := by
  obtain ⟨p, i, j, hp, rfl, hm⟩ := (mem_rr r).1 h
  have := hm.two
  have hK2 : 2 ≤ (j - i) / p := (Nat.le_div_iff_mul_le (by omega)).2 (by omega)
  exact ⟨by show 1 ≤ (j - i) / p - 1; omega, hp⟩
theorem len_extras : ∀ R : List RunT, (∀ r ∈ R, 1 ≤ extra r) → R.length ≤ extras R := by
  intro R
  induction R with
  | nil => intro _; exact Nat.le_refl _
  | cons r R ih =>
    intro h
    have := ih (fun s hs => h s (List.mem_cons_of_mem _ hs))
    have := h r (List.mem_cons_self ..)
    unfold extras at *
    rw [List.map_cons, List.sum_cons, List.length_cons]; omega
/-- F4: fewer runs than letters. -/
theorem few_runs {l : List UInt8} (h : 1 ≤ l.length) : (rrAll l l.length).length < l.length := by
  have h1 := len_extras (rrAll l l.length) (fun r hr => (extra_pos hr).1)
  have h2 := extras_le l
  omega
def share (r : RunT) : Nat := 1000 * (r.2.1 - r.1) / r.2.2
def shares (R : List RunT) : Nat := (R.map share).sum
theorem share_le {r : RunT} (h1 : 1 ≤ extra r) (h2 : 1 ≤ r.2.2) : share r ≤ 1000 * extra r + 1999 := by
  unfold share
  have hlt : 1000 * (r.2.1 - r.1) / r.2.2 < 1000 * extra r + 2000 := by
    rw [Nat.div_lt_iff_lt_mul (by omega)]
    unfold extra at h1 ⊢
    obtain ⟨L, hL⟩ : ∃ L, L = r.2.1 - r.1 := ⟨_, rfl⟩
    obtain ⟨p, hp⟩ : ∃ p, p = r.2.2 := ⟨_, rfl⟩
    rw [← hL, ← hp] at h1 ⊢
    rw [← hp] at h2
    obtain ⟨K, hK⟩ : ∃ K, K = L / p := ⟨_, rfl⟩
    have hm := Nat.div_add_mod L p
    have hr := Nat.mod_lt L (show p > 0 by omega)
    rw [← hK] at hm h1 ⊢
    have e : (1000 * (K - 1) + 2000) * p = 1000 * (p * K) + 1000 * p := by
      rw [show 1000 * (K - 1) + 2000 = 1000 * (K + 1) by omega, Nat.mul_assoc, Nat.add_mul, Nat.one_mul, Nat.mul_add, Nat.mul_comm K p]
    omega
  omega
theorem shares_le : ∀ R : List RunT, (∀ r ∈ R, 1 ≤ extra r ∧ 1 ≤ r.2.2) → shares R ≤ 1000 * extras R + 1999 * R.length := by
  intro R
  induction R with
  | nil => intro _; exact Nat.le_refl _
  | cons r R ih =>
    intro h
    have a1 := ih (fun s hs => h s (List.mem_cons_of_mem _ hs))
    have a2 := share_le (h r (List.mem_cons_self ..)).1 (h r (List.mem_cons_self ..)).2
    unfold shares extras at *
    rw [List.map_cons, List.sum_cons, List.map_cons, List.sum_cons, List.length_cons]; omega
/-- F4: the sum of the exponents. -/
theorem few_shares {l : List UInt8} (h : 1 ≤ l.length) : shares (rrAll l l.length) < 3000 * l.length := by
  have h1 := shares_le (rrAll l l.length) (fun r hr => extra_pos hr)
  have h2 := extras_le l
  have h3 := few_runs h
  omega
end Go.Proofs.Ytbcoaiaocfommaa
