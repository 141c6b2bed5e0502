import Derived.Test.YtbcoaiaocfommaaUa
import Derived.Test.YtbcoaiaocfommaaBf
import Derived.Test.YtbcoaiaocfommaaLaw3
import Derived.StillTailTactics
namespace Go.Proofs.Ytbcoaiaocfommaa
open Go.RowKit

def evS (p q : Nat) : ByteArray := ⟨(evenL p q (p + q)).toArray⟩
theorem evS_list (p q : Nat) : (evS p q).data.toList = evenL p q (p + q) := by unfold evS; simp
theorem evS_size (p q : Nat) : (evS p q).size = p + q := by rw [← size_len, evS_list, evenL_len]
theorem evS_chk {p q : Nat} (h1 : 1 ≤ p) (h2 : p + q ≤ 200) : chk (evS p q) = 0 := chk_of (by rw [evS_size]; omega) (by rw [evS_size]; omega) (by rw [evS_list]; exact even_good p q _)
theorem evS_bN {p q : Nat} (hp : 1 ≤ p) : bN (evS p q).data.toList = q := by
  rw [evS_list, bN_even p q hp, Nat.mul_div_cancel_left _ (by omega)]
theorem even44' (p q : Nat) (w : World) (hp : 1 ≤ p) (hq : 1 ≤ q) (h : p + q ≤ 200) (hg : Nat.gcd p q = 1) :
    Calls Try.prog 44 #[.int .i64 p, .int .i64 q] w fun e w' => e = .returned (.tuple #[.string (evS p q), .int .i64 0]) ∧ Below w.heap.size w w' := even44 p q w hp hq h hg

set_option maxHeartbeats 2000000 in
set_option maxRecDepth 100000 in
theorem walk16 (p0 q0 : Int) (w : World) (hp : (Lit.int .u8 p0).wf = true) (hq : (Lit.int .u8 q0).wf = true) :
    Calls Try.prog 16 #[.int .u8 p0, .int .u8 q0] w fun e w' => e = .returned (.bool true) ∧ Below w.heap.size w w' := by
  obtain ⟨x, rfl, hx⟩ : ∃ x : Nat, p0 = x ∧ x ≤ 255 := by have := bounds_u8 hp; exact ⟨p0.toNat, by omega, by omega⟩
  obtain ⟨y, rfl, hy⟩ : ∃ y : Nat, q0 = y ∧ y ≤ 255 := by have := bounds_u8 hq; exact ⟨q0.toNat, by omega, by omega⟩
  clear hp hq
  obtain ⟨P, hP⟩ : ∃ P, P = x % 100 + 1 := ⟨_, rfl⟩
  obtain ⟨Q, hQ⟩ : ∃ Q, Q = y % 100 + 1 := ⟨_, rfl⟩
  have hP1 : ((x : Int) % 100 + 1) = (P : Int) := by omega
  have hQ1 : ((y : Int) % 100 + 1) = (Q : Int) := by omega
  have hPb : 1 ≤ P ∧ P ≤ 100 := by omega
  have hQb : 1 ≤ Q ∧ Q ≤ 100 := by omega
  obtain ⟨g, hg⟩ : ∃ g, g = Nat.gcd P Q := ⟨_, rfl⟩
  have hgp : 1 ≤ g := by rw [hg]; exact Nat.gcd_pos_of_pos_left _ (by omega)
  have hgP : g ∣ P := by rw [hg]; exact Nat.gcd_dvd_left _ _
  have hgQ : g ∣ Q := by rw [hg]; exact Nat.gcd_dvd_right _ _
  obtain ⟨p, hp⟩ := hgP
  obtain ⟨q, hq⟩ := hgQ
  have hdP : P / g = p := by rw [hp, Nat.mul_div_cancel_left _ (by omega)]
  have hdQ : Q / g = q := by rw [hq, Nat.mul_div_cancel_left _ (by omega)]
  have hcop : Nat.gcd p q = 1 := by
    have h1 : g = g * Nat.gcd p q := by rw [← Nat.gcd_mul_left, ← hp, ← hq]; exact hg
    exact Nat.eq_of_mul_eq_mul_left (show 0 < g by omega) (by rw [← h1, Nat.mul_one])
  have hp1 : 1 ≤ p := by
    rcases Nat.eq_zero_or_pos p with h | h
    · rw [h, Nat.mul_zero] at hp; omega
    · exact h
  have hq1 : 1 ≤ q := by
    rcases Nat.eq_zero_or_pos q with h | h
    · rw [h, Nat.mul_zero] at hq; omega
    · exact h
  have hpP : p ≤ P := by rw [hp]; exact Nat.le_mul_of_pos_left _ (by omega)
  have hqQ : q ≤ Q := by rw [hq]; exact Nat.le_mul_of_pos_left _ (by omega)
  have hiP : (P : Int) / (g : Int) = (p : Int) := by rw [← Int.natCast_ediv, hdP]
  have hiQ : (Q : Int) / (g : Int) = (q : Int) := by rw [← Int.natCast_ediv, hdQ]
  have k45 := Lib.hid (fun w => gcd45 P Q w (by omega) (by omega))
  rw [← hg] at k45
  have k44 := Lib.hid (fun w => even44' p q w hp1 hq1 (by omega) hcop)
  have hsc := evS_chk (p := p) (q := q) hp1 (by omega)
  have hss := evS_size p q
  have k53 := Lib.hid (fun w => bs53 (evS p q) w (by omega))
  rw [evS_bN hp1] at k53
  have k42 := Lib.hid (fun w => balanced42 (evS p q) w hsc)
  rw [evS_list, even_bal p q hp1] at k42
  have k27 := Lib.hid (fun w => lyndon27 (evS p q) w hsc)
  rw [evS_list, words_alone (even_lyn hp1 hcop)] at k27
  have hpal := Lib.hid (fun i h1 h2 => even_pal (p := p) (q := q) (i := i) hp1 hcop h1 h2)
  obtain ⟨s, hs⟩ : ∃ s, s = evS p q := ⟨_, rfl⟩
  have hsl := Lib.hid (evS_list p q)
  rw [← hs] at k44 hss k53 k42 k27 hsl
  have hP2 := Lib.hid hP1
  have hQ2 := Lib.hid hQ1
  clear hs hp hq hdP hdQ hcop hg hsc hP hQ hP1 hQ1
  go_enter Try.func16, Try.ntmps16
  go_wp2_with fail
  rw [hP2.out, hQ2.out]
  refine (k45.out _).mono ?_
  rintro e w1 ⟨rfl, g1⟩
  have hg0 : ((g : Int) == 0) = false := by simp; omega
  have hgpos : (0 : Int) < g := by omega
  have hP0 : (0 : Int) ≤ P := by omega
  have hQ0 : (0 : Int) ≤ Q := by omega
  clear k45
  have hwp : IntKind.i64.wrap (p : Int) = p := IntWalk.i64_in _ (by omega)
  have hwq : IntKind.i64.wrap (q : Int) = q := IntWalk.i64_in _ (by omega)
  go_upto_region 3 with fail
  go_cut [8, 9] from 26 to 35 (fun a b wx => a = .string s ∧ b = .int .i64 0 ∧ Below w1.heap.size w1 wx)
  case first =>
    go_region_with (go_at_call 44; refine (k44.out _).mono ?_; rintro e w2 ⟨rfl, g2⟩)
    all_goals
      go_wp2_with fail
      go_meet
      exact ⟨rfl, rfl, below_seq (Below.refl _ _).drew g2 (Nat.le_refl _)⟩
  case rest =>
    obtain ⟨rfl, rfl, g2⟩ := hcut
    have hgn : ¬ g = 0 := by omega
    have hw2 : IntKind.i64.wrap ((p : Int) + (q : Int)) = (p : Int) + q := IntWalk.i64_in _ (by omega)
    have hn1 : ((s.size : Int) != (p : Int) + (q : Int)) = false := by simp; omega
    have hn2 : ((q : Int) != (q : Int)) = false := by simp
    obtain ⟨w2, rfl⟩ : ∃ w2 : World, w2 = wc := ⟨_, rfl⟩
    go_upto_region 4 with fail
    go_cut [61] from 36 to 61 (fun r wx => r = .bool false ∧ Below w2.heap.size w2 wx)
    case first =>
      refine wp_region_still_tail 23 (by kernel_rfl) (by kernel_rfl) ?_
      simp only [List.take_succ_cons, List.take_zero, List.drop_succ_cons, List.drop_zero]
      change wpStill _ _ w2.drew (fun a' => wpList _ _ _ _ a' w2.drew) _ _
      obtain ⟨w3, hw3⟩ : ∃ w3, w3 = w2.drew := ⟨_, rfl⟩
      rw [← hw3]
      have hw3' := Lib.hid hw3
      clear hw3
      iterate 16 still_step
      still_call (k53.out _)
      iterate 6 still_step
      refine wpStill_nil ?_
      go_wp2_with (go_at_call 24; refine (lives24 _).mono ?_; rintro e w4 ⟨rfl, g4⟩)
      go_meet
      rw [hw3'.out] at g4
      exact ⟨rfl, below_seq (Below.refl _ _).drew g4 (Nat.le_refl _)⟩
    case rest =>
      obtain ⟨rfl, g4⟩ := hcut
      obtain ⟨w4, rfl⟩ : ∃ w4 : World, w4 = wc := ⟨_, rfl⟩
      have gA := below_call (below_call g1 g2) g4
      clear hiP hiQ hwp hwq hw2 hn1 hn2 k53 k44 hP2 hQ2
      go_wp2_with fail
      refine (k42.out _).mono ?_
      rintro e w5 ⟨rfl, g5⟩
      go_wp2_with fail
      refine (k27.out _).mono ?_
      rintro e w6 ⟨v, rfl, hv, g6⟩
      obtain ⟨ao, c, rfl, _⟩ := hv.shape
      have gB := below_call (below_call gA g5) g6
      clear hv
      go_wp2_with fail
      go_loopw [14] (fun i wr => ∃ k : Nat, 1 ≤ k ∧ k ≤ s.size ∧ i = .int .i64 (k : Int) ∧ Below w.heap.size w wr) (fun i _ => s.size - (intOf i).toNat)
      case atStart => exact ⟨1, by omega, by omega, rfl, gB⟩
      case round =>
        obtain ⟨k, hk1, hk2, rfl, hb⟩ := hrel
        by_cases hlt : k + 1 < s.size
        · have hps : s.size - 1 - k < s.size := by omega
          have e1 : s.data.toList[k]? = some s[k] := get_some s k (by omega)
          have e2 : s.data.toList[s.size - 1 - k]? = some s[s.size - 1 - k] := get_some s _ hps
          rw [hsl.out, evenL_get _ _ _ _ (by omega)] at e1
          rw [hsl.out, evenL_get _ _ _ _ (by omega)] at e2
          have pal := hpal.out k hk1 (by omega)
          have e3 : s[k] = s[s.size - 1 - k] := by
            have a1 : evc p q k = s[k] := by injection e1
            have a2 : evc p q k = s[s.size - 1 - k] := by rw [pal, ← hss]; injection e2
            rw [← a1, ← a2]
          have hne : ((s[k].toNat : Int) != (s[s.size - 1 - k].toNat : Int)) = false := by rw [e3]; simp
          clear e1 e2 e3 pal
          have f1 : IntKind.i64.wrap ((s.size : Int) - 1) = (s.size : Int) - 1 := IntWalk.i64_in _ (by omega)
          have f2 : IntKind.i64.wrap ((s.size : Int) - 1 - k) = (s.size : Int) - 1 - k := IntWalk.i64_in _ (by omega)
          have f3 : ((s.size : Int) - 1 - k).toNat = s.size - 1 - k := by omega
          have f4 : (0 : Int) ≤ (s.size : Int) - 1 - k := by omega
          have f5 : (s.size : Int) - 1 - k < s.size := by omega
          have f6 : (k : Int) < (s.size : Int) - 1 := by omega
          have f7 : (k : Int) < s.size := by omega
          have f8 : k < s.size := by omega
          have f9 : (k : Int) ≤ (s.size : Int) - 1 := by omega
          have f10 : (k : Int) + 1 ≤ (s.size : Int) := by omega
          have f11 : decide ((s.size : Int) - 1 - k < s.size) = true := by simp; omega
          have hsz200 : s.size ≤ 200 := by omega
          have hss' := Lib.hid hss
          clear hss
          go_wp2
          go_quiet (fail)
          go_wp2
          go_roundw
          case rel => exact ⟨k + 1, by omega, by omega, by go_num, below_drewN hb _⟩
          case measure => simp [intOf]; omega
        · go_wp2
          go_ret
          exact ⟨rfl, hb⟩
end Go.Proofs.Ytbcoaiaocfommaa
