import Derived.Test.YtbcoaiaocfommaaT
import Derived.Test.YtbcoaiaocfommaaN
namespace Go.Proofs.Ytbcoaiaocfommaa
open Go.RowKit

/-! ## two periods (Fine and Wilf): plain mathematics -/
theorem per_mod {l : List UInt8} {p : Nat} (hp : 1 ≤ p) (h : perB l p = true) : ∀ t, t < l.length → l[t]? = l[t % p]? := by
  intro t
  induction t using Nat.strongRecOn with
  | _ t ih =>
    intro ht
    by_cases htp : t < p
    · rw [Nat.mod_eq_of_lt htp]
    · have h1 := (perB_iff l p).1 h (t - p) (by omega)
      rw [show t - p + p = t from by omega] at h1
      rw [← h1, ih (t - p) (by omega) (by omega), Nat.mod_eq_sub_mod (a := t) (b := p) (by omega)]

theorem fine_wilf_aux : ∀ (f p q : Nat) (l : List UInt8), p + q ≤ f → 1 ≤ p → p ≤ q → perB l p = true → perB l q = true → p + q ≤ l.length + Nat.gcd p q → perB l (Nat.gcd p q) = true := by
  intro f
  induction f with
  | zero => intro p q l h1 h2 h3; omega
  | succ f ih =>
    intro p q l hf hp hpq h1 h2 hn
    by_cases e : p = q
    · subst e; rw [Nat.gcd_self]; exact h1
    · obtain ⟨g, hg⟩ : ∃ g, g = Nat.gcd p q := ⟨_, rfl⟩
      have hgs : Nat.gcd p (q - p) = g := by rw [hg]; exact Nat.gcd_sub_self_right hpq
      have hgp : g ∣ p := by rw [hg]; exact Nat.gcd_dvd_left p q
      have hgq : g ∣ q - p := by rw [← hgs]; exact Nat.gcd_dvd_right p (q - p)
      have hgle : g ≤ q - p := Nat.le_of_dvd (by omega) hgq
      have hg1 : 1 ≤ g := Nat.pos_of_dvd_of_pos hgp hp
      rw [← hg] at hn ⊢
      obtain ⟨u, hu⟩ : ∃ u, u = l.take (l.length - p) := ⟨_, rfl⟩
      have hul : u.length = l.length - p := by rw [hu, List.length_take]; omega
      have hget : ∀ t, t < l.length - p → u[t]? = l[t]? := fun t ht => by rw [hu, List.getElem?_take, if_pos ht]
      have u1 : perB u p = true := by
        rw [perB_iff]; intro t ht
        rw [hul] at ht
        rw [hget t (by omega), hget (t + p) ht]
        exact (perB_iff l p).1 h1 t (by omega)
      have u2 : perB u (q - p) = true := by
        rw [perB_iff]; intro t ht
        rw [hul] at ht
        rw [hget t (by omega), hget (t + (q - p)) ht, (perB_iff l q).1 h2 t (by omega), (perB_iff l p).1 h1 (t + (q - p)) (by omega), show t + (q - p) + p = t + q from by omega]
      have hu3 : perB u g = true := by
        rcases Nat.le_total p (q - p) with h | h
        · have := ih p (q - p) u (by omega) hp h u1 u2 (by rw [hgs, hul]; omega)
          rw [hgs] at this; exact this
        · have := ih (q - p) p u (by omega) (by omega) h u2 u1 (by rw [Nat.gcd_comm, hgs, hul]; omega)
          rw [Nat.gcd_comm, hgs] at this; exact this
      rw [perB_iff]
      intro t ht
      have hpu : p ≤ u.length := by rw [hul]; omega
      have ha : t % p < p := Nat.mod_lt _ hp
      have hb : (t + g) % p < p := Nat.mod_lt _ hp
      rw [per_mod hp h1 t (by omega), per_mod hp h1 (t + g) ht, ← hget (t % p) (by omega), ← hget ((t + g) % p) (by omega), per_mod hg1 hu3 _ (by omega), per_mod hg1 hu3 ((t + g) % p) (by omega)]
      rw [Nat.mod_mod_of_dvd _ hgp, Nat.mod_mod_of_dvd _ hgp, Nat.add_mod_right]

theorem fine_wilf {p q : Nat} {l : List UInt8} (hp : 1 ≤ p) (hq : 1 ≤ q) (h1 : perB l p = true) (h2 : perB l q = true) (hn : p + q ≤ l.length + Nat.gcd p q) : perB l (Nat.gcd p q) = true := by
  rcases Nat.le_total p q with h | h
  · exact fine_wilf_aux (p + q) p q l (Nat.le_refl _) hp h h1 h2 hn
  · rw [Nat.gcd_comm] at hn ⊢
    exact fine_wilf_aux (q + p) q p l (Nat.le_refl _) hq h h2 h1 (by omega)

theorem pers_mem (l : List UInt8) : ∀ n (x : Int), x ∈ pers l n ↔ ∃ p, 1 ≤ p ∧ p ≤ n ∧ x = (p : Int) ∧ perB l p = true := by
  intro n
  induction n with
  | zero => intro x; constructor
            · intro h; simp [pers] at h
            · rintro ⟨p, h1, h2, _⟩; omega
  | succ n ih =>
    intro x
    by_cases h : perB l (n + 1) = true
    · rw [pers_yes h, List.mem_append, ih]
      constructor
      · rintro (⟨p, h1, h2, h3, h4⟩ | hx)
        · exact ⟨p, h1, by omega, h3, h4⟩
        · rw [List.mem_singleton] at hx; exact ⟨n + 1, by omega, by omega, by rw [hx]; rfl, h⟩
      · rintro ⟨p, h1, h2, h3, h4⟩
        by_cases e : p = n + 1
        · right; rw [List.mem_singleton, h3, e]; rfl
        · left; exact ⟨p, h1, by omega, h3, h4⟩
    · have h' : perB l (n + 1) = false := by simpa using h
      rw [pers_no h', ih]
      constructor
      · rintro ⟨p, h1, h2, h3, h4⟩; exact ⟨p, h1, by omega, h3, h4⟩
      · rintro ⟨p, h1, h2, h3, h4⟩
        by_cases e : p = n + 1
        · subst e; rw [h'] at h4; simp at h4
        · exact ⟨p, h1, by omega, h3, h4⟩
theorem pers_last {l : List UInt8} (h : 1 ≤ l.length) : 1 ≤ (pers l l.length).length ∧ (pers l l.length).getD ((pers l l.length).length - 1) 0 = l.length := by
  obtain ⟨n, hn⟩ : ∃ n, l.length = n + 1 := ⟨l.length - 1, by omega⟩
  have hf := perB_full l
  rw [hn] at hf ⊢
  rw [pers_yes hf, List.length_append, List.length_singleton]
  refine ⟨by omega, ?_⟩
  rw [Nat.add_sub_cancel, List.getD_eq_getElem?_getD, List.getElem?_append_right (Nat.le_refl _)]
  simp

theorem gcd45q (a b : Nat) (w : World) (ha : a ≤ 1000000) (hb : b ≤ 1000000) :
    Calls Try.prog 45 #[.int .i64 a, .int .i64 b] w fun e w' => e = .returned (.int .i64 (Nat.gcd a b)) ∧ ∃ m, w' = w.drewN m := by
  obtain ⟨g, hg⟩ : ∃ g, g = Nat.gcd a b := ⟨_, rfl⟩
  rw [← hg]
  have hg' := Lib.hid hg.symm
  clear hg
  go_enter Try.func45, Try.ntmps45
  go_wp2
  go_loopw [0, 1] (fun x y wr => ∃ u v n : Nat, u ≤ 1000000 ∧ v ≤ 1000000 ∧ x = .int .i64 (u : Int) ∧ y = .int .i64 (v : Int) ∧ Hid (Nat.gcd u v = g) ∧ wr = w.drewN n) (fun _ y _ => (intOf y).toNat)
  case atStart => exact ⟨a, b, 0, ha, hb, rfl, rfl, hg', rfl⟩
  case round =>
    obtain ⟨u, v, n, hu, hv, rfl, rfl, hgg, rfl⟩ := hrel
    by_cases hlt : 0 < v
    · have hne : ((v : Int) == 0) = false := by simp; omega
      have hmod : (u : Int) % (v : Int) = ((u % v : Nat) : Int) := by simp
      have hmlt : u % v < v := Nat.mod_lt _ hlt
      have hpos : (0 : Int) < v := by omega
      have hgg2 := Lib.hid (gcd_step u v g hgg.out)
      obtain ⟨m, hm⟩ : ∃ m, m = u % v := ⟨_, rfl⟩
      rw [← hm] at hmod hmlt hgg2
      have hmod' := Lib.hid hmod
      clear hmod hm
      go_wp2
      go_quiet (fail)
      go_wp2
      exact ⟨⟨v, m, n + nq, hv, by omega, rfl, int_eq hmod'.out, hgg2, by rw [World.drewN_drewN]⟩, by simp [intOf]; have := hmod'.out; omega⟩
    · have h0 : v = 0 := by omega
      have hgu : (u : Int) = (g : Int) := by have := hgg.out; rw [h0, Nat.gcd_zero_right] at this; omega
      have hgu' := Lib.hid hgu
      clear hgu
      go_wp2
      go_ret
      exact ⟨ret_i hgu'.out, n, rfl⟩

def hasB (xs : List Int) (v : Int) : Bool := xs.contains v
theorem hasB_mem {xs : List Int} {v : Int} (h : v ∈ xs) : hasB xs v = true := by unfold hasB; rw [List.contains_iff_mem]; exact h

set_option maxRecDepth 100000 in
/-- The function literal `has`: whether the captured list has v. -/
theorem has50 (v : Int) (bp : Nat) (n c : Nat) (ao : Option Addr) (xs : List Int) (w : World) (hn : n = xs.length) (hl : n ≤ 1000000)
    (hp : w.cell? ⟨bp, 0, none⟩ = some (.slice ao n c)) (hr : xs ≠ [] → ∃ g, ao = some ⟨g, 0, none⟩ ∧ ∀ j, j < n → w.cell? ⟨g, j, none⟩ = some (.int .i64 (xs.getD j 0))) :
    Calls Try.prog 50 #[.int .i64 v, .pointer (some ⟨bp, 0, none⟩)] w fun e w' => e = .returned (.bool (hasB xs v)) ∧ w' = w := by
  have hr' := Lib.hid hr
  have hn' := Lib.hid hn
  clear hr hn
  go_enter Try.func50, Try.ntmps50
  go_wp2
  go_loop [4] (fun i => ∃ k : Nat, k ≤ n ∧ i = .int .i64 (k : Int) ∧ Hid ((xs.take k).contains v = false)) (fun i => n - (intOf i).toNat)
  case atStart => exact ⟨0, Nat.zero_le _, rfl, Lib.hid (by simp)⟩
  case round =>
    obtain ⟨k, hk, rfl, hno⟩ := hrel
    by_cases hlt : k < n
    · obtain ⟨g, rfl, hc⟩ := hr'.out (fun e => by have := hn'.out; rw [e] at this; simp at this; omega)
      have ck := hc k hlt
      have hkx : k < xs.length := by have := hn'.out; omega
      obtain ⟨x, hx⟩ : ∃ x, x = xs.getD k 0 := ⟨_, rfl⟩
      rw [← hx] at ck
      have hsn := Lib.hid (show xs.take (k + 1) = xs.take k ++ [x] by rw [List.take_succ_eq_append_getElem hkx, hx, List.getD_eq_getElem?_getD, List.getElem?_eq_getElem hkx]; rfl)
      clear hc hx
      by_cases hxv : x = v
      · have d : (x == v) = true := by simp [hxv]
        have hyes := Lib.hid (show true = hasB xs v by
          symm
          unfold hasB
          rw [List.contains_iff_mem, ← hxv]
          have : x ∈ xs.take (k + 1) := by rw [hsn.out]; simp
          exact List.mem_of_mem_take this)
        clear hxv
        go_wp2
        go_ret
        exact ⟨ret_b hyes.out, rfl⟩
      · have d : (x == v) = false := by simp [hxv]
        have hstep := Lib.hid (show (xs.take (k + 1)).contains v = false by
          rw [hsn.out, Bool.eq_false_iff]
          intro hc
          rw [List.contains_iff_mem, List.mem_append, List.mem_singleton] at hc
          rcases hc with hc | hc
          · have := hno.out
            rw [← List.contains_iff_mem, this] at hc
            simp at hc
          · exact hxv hc.symm)
        clear hxv
        go_wp2
        go_round
        case rel => exact ⟨k + 1, by omega, by go_num, hstep⟩
        case measure => simp [intOf]; omega
    · have hend := Lib.hid (show false = hasB xs v by
        unfold hasB
        have := hno.out
        rw [List.take_of_length_le (by have := hn'.out; omega)] at this
        exact this.symm)
      go_wp2
      go_ret
      exact ⟨ret_b hend.out, rfl⟩
end Go.Proofs.Ytbcoaiaocfommaa
