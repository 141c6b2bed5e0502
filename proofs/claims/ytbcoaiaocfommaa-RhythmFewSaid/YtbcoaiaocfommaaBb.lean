import Derived.Test.YtbcoaiaocfommaaBa
namespace Go.Proofs.Ytbcoaiaocfommaa
open Go.RowKit

def cnt (l : List UInt8) (n i : Nat) : Nat := bN ((l.drop i).take n)
theorem cnt_le (l : List UInt8) (n i : Nat) : cnt l n i ≤ n := by
  unfold cnt
  have := bN_le ((l.drop i).take n)
  rw [List.length_take] at this; omega
/-- The least and the greatest number of letters b of the first parts of length n. -/
def lowF (l : List UInt8) (n : Nat) : Nat → Nat
  | 0 => n
  | k + 1 => min (lowF l n k) (cnt l n k)
def highF (l : List UInt8) (n : Nat) : Nat → Nat
  | 0 => 0
  | k + 1 => max (highF l n k) (cnt l n k)
theorem lowF_le (l : List UInt8) (n k : Nat) : lowF l n k ≤ n := by
  induction k with
  | zero => exact Nat.le_refl _
  | succ k ih => unfold lowF; omega
theorem highF_le (l : List UInt8) (n k : Nat) : highF l n k ≤ n := by
  induction k with
  | zero => exact Nat.zero_le _
  | succ k ih => have := cnt_le l n k; unfold highF; omega
def evenB (l : List UInt8) (n : Nat) : Bool := decide ((highF l n (l.length + 1 - n) : Int) - lowF l n (l.length + 1 - n) ≤ 1)
def abB (l : List UInt8) : Bool := l.all fun c => decide (c.toNat ≤ 98)
def evensB (l : List UInt8) : Nat → Bool
  | 0 => true
  | k + 1 => evensB l k && evenB l (k + 1)
def balB (l : List UInt8) : Bool := abB l && evensB l l.length

theorem bal_no {s : ByteArray} {k : Nat} (h : k < s.size) (hc : (98 : Int) < (s[k].toNat : Int)) : balB s.data.toList = false := by
  have : abB s.data.toList = false := by
    unfold abB
    rw [List.all_eq_false]
    refine ⟨s[k], ?_, by simp; omega⟩
    show s.data[k] ∈ _
    simp
  unfold balB; rw [this]; rfl
theorem evens_no {l : List UInt8} {k n : Nat} (h1 : 1 ≤ k) (h2 : k ≤ n) (h : evenB l k = false) : evensB l n = false := by
  induction n with
  | zero => omega
  | succ n ih =>
    unfold evensB
    by_cases e : k = n + 1
    · rw [← e, h, Bool.and_false]
    · rw [ih (by omega), Bool.false_and]
theorem ab_snoc {l : List UInt8} {c : UInt8} (h : abB l = true) (hc : ¬ (98 : Int) < (c.toNat : Int)) : abB (l ++ [c]) = true := by
  unfold abB at *
  rw [List.all_append, h]; simp; omega

set_option maxHeartbeats 1000000 in
set_option maxRecDepth 100000 in
theorem balanced43 (s : ByteArray) (w : World) (hs : s.size ≤ 1000000) :
    Calls Try.prog 43 #[.string s] w fun e w' => e = .returned (.bool (balB s.data.toList)) ∧ Below w.heap.size w w' := by
  go_enter Try.func43, Try.ntmps43
  go_wp2_with fail
  go_loop [3] (fun i => ∃ k : Nat, k ≤ s.size ∧ i = .int .i64 (k : Int) ∧ Hid (abB (s.data.toList.take k) = true)) (fun i => s.size - (intOf i).toNat)
  case atStart => exact ⟨0, by omega, rfl, Lib.hid (by simp [abB])⟩
  case round =>
    obtain ⟨k, hk, rfl, hab⟩ := hrel
    by_cases hlt : k < s.size
    · by_cases hc : (98 : Int) < (s[k].toNat : Int)
      · have hno := Lib.hid (show balB s.data.toList = false from bal_no hlt hc)
        go_wp2
        go_ret
        exact ⟨by rw [hno.out]; rfl, Below.refl _ _⟩
      · have hc2 : (s[k].toNat : Int) ≤ 98 := by omega
        have hab2 := Lib.hid (show abB (s.data.toList.take (k + 1)) = true by rw [take_snoc s k hlt]; exact ab_snoc hab.out hc)
        go_wp2
        go_round
        case rel => exact ⟨k + 1, by omega, by go_num, hab2⟩
        case measure => simp [intOf]; omega
    · have hkl : k = s.size := by omega
      have hall := Lib.hid (show abB s.data.toList = true by rw [← take_all s k (by omega)]; exact hab.out)
      clear hab
      go_wp2_with fail
      go_loopw [4, 5, 6, 7] (fun n _ _ _ wr => ∃ m : Nat, m ≤ s.size ∧ n = .int .i64 ((m : Int) + 1) ∧ Hid (evensB s.data.toList m = true) ∧ Below w.heap.size w wr) (fun n _ _ _ _ => s.size + 1 - (intOf n).toNat)
      case atStart => exact ⟨0, by omega, rfl, Lib.hid rfl, Below.refl _ _⟩
      case round =>
        obtain ⟨m, hm, rfl, hev, hbo⟩ := hrel
        by_cases hlt2 : m < s.size
        · go_wp2_with fail
          go_loopw [5, 6, 7] (fun lo hi i wr => ∃ k : Nat, k + m ≤ s.size ∧ i = .int .i64 (k : Int) ∧ lo = .int .i64 ((lowF s.data.toList (m + 1) k : Nat) : Int) ∧ hi = .int .i64 ((highF s.data.toList (m + 1) k : Nat) : Int) ∧ Below w.heap.size w wr) (fun _ _ i _ => s.size - (intOf i).toNat)
          case atStart => exact ⟨0, by omega, rfl, by simp [lowF], rfl, hbo⟩
          case round =>
            obtain ⟨i, hi, rfl, rfl, rfl, hb⟩ := hrel
            have hl := lowF_le s.data.toList (m + 1) i
            have hh := highF_le s.data.toList (m + 1) i
            obtain ⟨lo, hlo⟩ : ∃ lo, lo = lowF s.data.toList (m + 1) i := ⟨_, rfl⟩
            obtain ⟨hi', hhi⟩ : ∃ hi', hi' = highF s.data.toList (m + 1) i := ⟨_, rfl⟩
            rw [← hlo] at hl ⊢
            rw [← hhi] at hh ⊢
            have hlo' := Lib.hid hlo
            have hhi' := Lib.hid hhi
            clear hlo hhi
            by_cases hrow : (i : Int) + ((m : Int) + 1) ≤ s.size
            · obtain ⟨t, ht⟩ : ∃ t, t = s.extract i (i + (m + 1)) := ⟨_, rfl⟩
              have hts : t.size ≤ 1000000 := by rw [ht, ByteArray.size_extract]; omega
              have hcn := Lib.hid (show bN t.data.toList = cnt s.data.toList (m + 1) i by rw [ht, Lib.extract_data]; unfold cnt; simp)
              obtain ⟨q, hq⟩ : ∃ q, q = cnt s.data.toList (m + 1) i := ⟨_, rfl⟩
              have hql : q ≤ m + 1 := by rw [hq]; exact cnt_le _ _ _
              have hq' := Lib.hid hq
              have ht' := Lib.hid ht
              clear hq ht
              have hsz : i + (m + 1) ≤ s.size := by omega
              have f1 : IntKind.i64.wrap ((i : Int) + ((m : Int) + 1)) = (i : Int) + ((m : Int) + 1) := IntWalk.i64_in _ (by omega)
              have f2 : ((i : Int) + ((m : Int) + 1)).toNat = i + (m + 1) := by omega
              have f3 : (0 : Int) ≤ (i : Int) + ((m : Int) + 1) := by omega
              have f4 : (i : Int) ≤ (i : Int) + ((m : Int) + 1) := by omega
              have hbs := Lib.hid (show ∀ w, Calls Try.prog 53 #[.string (s.extract i (i + (m + 1)))] w fun e w' => e = .returned (.int .i64 (q : Int)) ∧ w' = w from fun w => by rw [← ht'.out]; exact (bs53 t w hts).mono fun e w' h => ⟨by rw [h.1, hcn.out, hq'.out], h.2⟩)
              go_wp2_with fail
              go_quiet ((go_at_call 53; exact Calls.quiet_of_same (hbs.out _)))
              go_wp2
              exact ⟨⟨i + 1, by omega, by go_num, by rw [lowF, ← hlo'.out, ← hq'.out]; exact int_eq (by omega), by rw [highF, ← hhi'.out, ← hq'.out]; exact int_eq (by omega), below_drewN hb _⟩, by simp [intOf]; omega⟩
            · have hie : i = s.size + 1 - (m + 1) := by omega
              have hsz0 := size_len s
              by_cases hsp : (hi' : Int) - lo ≤ 1
              · have dsp : decide (1 < (hi' : Int) - lo) = false := by simp; omega
                have hev2 := Lib.hid (show evensB s.data.toList (m + 1) = true by
                  unfold evensB; rw [hev.out]
                  unfold evenB
                  rw [size_len, ← hie, ← hlo'.out, ← hhi'.out]; simpa using hsp)
                go_wp2
                exact ⟨⟨m + 1, by omega, by go_num, hev2, hb⟩, by simp [intOf]; omega⟩
              · have dsp : decide (1 < (hi' : Int) - lo) = true := by simp; omega
                have hno := Lib.hid (show balB s.data.toList = false by
                  unfold balB
                  rw [evens_no (k := m + 1) (by omega) (by rw [size_len]; omega) (by
                    unfold evenB
                    rw [size_len, ← hie, ← hlo'.out, ← hhi'.out]; simpa using hsp), Bool.and_false])
                go_wp2
                go_ret
                exact ⟨by rw [hno.out]; rfl, hb⟩
        · have hme : m = s.size := by omega
          have hyes := Lib.hid (show balB s.data.toList = true by unfold balB; rw [hall.out, size_len, ← hme, hev.out]; rfl)
          go_wp2
          go_ret
          exact ⟨by rw [hyes.out]; rfl, hbo⟩
end Go.Proofs.Ytbcoaiaocfommaa
