import Derived.Test.YtbcoaiaocfommaaSi
namespace Go.Proofs.Ytbcoaiaocfommaa
open Go.RowKit

/-! ## runs: the reference -/
def preB (l : List UInt8) (i j p : Nat) : Bool := decide (0 < i) && perB (subL l (i - 1) j) p
def sufB (l : List UInt8) (i j p : Nat) : Bool := decide (j < l.length) && perB (subL l i (j + 1)) p
def maxB (l : List UInt8) (i j p : Nat) : Bool := decide (2 * p ≤ j - i) && !preB l i j p && !sufB l i j p
def rrStep (l : List UInt8) (i : Nat) (acc : List RunT) (d : Nat) : List RunT :=
  if maxB l i (i + 2 + d) (leastP (subL l i (i + 2 + d))) then acc ++ [(i, i + 2 + d, leastP (subL l i (i + 2 + d)))] else acc
def rrRow (l : List UInt8) (acc : List RunT) (i k : Nat) : List RunT := (List.range k).foldl (rrStep l i) acc
def rrAll (l : List UInt8) (n : Nat) : List RunT := (List.range n).foldl (fun acc i => rrRow l acc i (l.length - 1 - i)) []
theorem rrRow_succ (l : List UInt8) (acc : List RunT) (i k : Nat) : rrRow l acc i (k + 1) = rrStep l i (rrRow l acc i k) k := by unfold rrRow; rw [List.range_succ]; simp
theorem rrAll_succ (l : List UInt8) (n : Nat) : rrAll l (n + 1) = rrRow l (rrAll l n) n (l.length - 1 - n) := by unfold rrAll; rw [List.range_succ]; simp
theorem rrStep_len (l : List UInt8) (i : Nat) (acc : List RunT) (d : Nat) : (rrStep l i acc d).length ≤ acc.length + 1 := by unfold rrStep; split <;> simp
theorem rrRow_len (l : List UInt8) (acc : List RunT) (i k : Nat) : (rrRow l acc i k).length ≤ acc.length + k := by
  induction k with
  | zero => exact Nat.le_refl _
  | succ k ih => rw [rrRow_succ]; have := rrStep_len l i (rrRow l acc i k) k; omega
theorem rrAll_len (l : List UInt8) (n : Nat) : (rrAll l n).length ≤ n * l.length := by
  induction n with
  | zero => exact Nat.zero_le _
  | succ n ih => rw [rrAll_succ]; have := rrRow_len l (rrAll l n) n (l.length - 1 - n); rw [Nat.succ_mul]; omega
theorem Runs3.lit (w : World) (B : Nat) (hB : B ≤ w.heap.size) : Runs3 (w.alloc (.cells #[] 62)) B (.slice (some ⟨w.heap.size, 0, none⟩) 0 0) [] :=
  World.ownsRow_made w #[] 0 hB (by unfold maxLen; omega) (by simp)

theorem per52' (s : ByteArray) (i j p : Nat) (b : Bool) (hs : s.size ≤ 1000000) (hij : i ≤ j) (hj : j ≤ s.size) (hp : p ≤ j - i) (hb : perB (subL s.data.toList i j) p = b) (w : World) :
    Calls Try.prog 52 #[.string (s.extract i j), .int .i64 (p : Int)] w fun e w' => e = .returned (.bool b) ∧ Below w.heap.size w w' := by
  have h := per52 (s.extract i j) p w (by rw [ByteArray.size_extract]; omega) (by omega) (by rw [ByteArray.size_extract]; omega)
  rw [subL_extract, Int.toNat_natCast, hb] at h
  exact h

def RRel (l : List UInt8) (n : Nat) (w : World) (v i : Value) (wr : World) : Prop :=
  ∃ k : Nat, k ≤ n ∧ i = .int .i64 (k : Int) ∧ Runs3 wr w.heap.size v (rrAll l k) ∧ Below w.heap.size w wr

set_option maxHeartbeats 2000000 in
set_option maxRecDepth 100000 in
theorem runs37 (s : ByteArray) (w : World) (hs : s.size ≤ 1000) :
    Calls Try.prog 37 #[.string s] w (MadeRuns w (rrAll s.data.toList s.size)) := by
  go_enter Try.func37, Try.ntmps37
  go_wp2_with fail
  go_loopw [3, 4] (fun v i wr => RRel s.data.toList s.size w v i wr) (fun _ i _ => s.size - (intOf i).toNat)
  case atStart => exact ⟨0, Nat.zero_le _, rfl, Runs3.lit w _ (Nat.le_refl _), (Below.refl _ _).alloc (Nat.le_refl _) _⟩
  case round =>
    obtain ⟨i, hi, rfl, hv, hb⟩ := hrel
    have hlna := rrAll_len s.data.toList i
    rw [size_len] at hlna
    by_cases hlt : i < s.size
    · have hmul : i * s.size ≤ 999 * 1000 := Nat.mul_le_mul (by omega) hs
      go_wp2_with fail
      go_loopw [3, 5] (fun v j wr => ∃ d : Nat, d ≤ s.size - 1 - i ∧ j = .int .i64 ((i : Int) + 2 + d) ∧ Runs3 wr w.heap.size v (rrRow s.data.toList (rrAll s.data.toList i) i d) ∧ Below w.heap.size w wr) (fun _ j _ => s.size + 2 - (intOf j).toNat)
      case atStart => exact ⟨0, Nat.zero_le _, int_eq (by omega), hv, hb⟩
      case round =>
        obtain ⟨d, hd, rfl, hv, hb⟩ := hrel
        obtain ⟨w1, rfl⟩ : ∃ w1 : World, w1 = wr := ⟨_, rfl⟩
        have hln := rrRow_len s.data.toList (rrAll s.data.toList i) i d
        by_cases hlt2 : d < s.size - 1 - i
        · obtain ⟨xs, hxs⟩ : ∃ xs, xs = rrRow s.data.toList (rrAll s.data.toList i) i d := ⟨_, rfl⟩
          obtain ⟨p, hp⟩ : ∃ p, p = leastP (subL s.data.toList i (i + 2 + d)) := ⟨_, rfl⟩
          have hstep := rrRow_succ s.data.toList (rrAll s.data.toList i) i d
          unfold rrStep at hstep
          rw [← hxs, ← hp] at hstep
          rw [← hxs] at hv hln
          have hss : (s.extract i (i + 2 + d)).size = 2 + d := by rw [ByteArray.size_extract]; omega
          have hsl : (subL s.data.toList i (i + 2 + d)).length = 2 + d := by rw [← subL_extract, size_len, hss]
          have hpsp := leastP_spec (l := subL s.data.toList i (i + 2 + d)) (by omega)
          rw [← hp, hsl] at hpsp
          obtain ⟨hp1, hp2, _, _⟩ := hpsp
          have hfirst := Lib.hid (first26 (s.extract i (i + 2 + d)) w1 (by omega) (by omega))
          rw [subL_extract, ← hp] at hfirst
          have hxl : xs.length ≤ 1000000000 := by omega
          have g1 : IntKind.i64.wrap ((i : Int) + 2) = (i : Int) + 2 := IntWalk.i64_in _ (by omega)
          have g2 : ((i : Int) + 2 + d).toNat = i + 2 + d := by omega
          have g3 : (0 : Int) ≤ (i : Int) + 2 + d := by omega
          have g4 : (i : Int) ≤ (i : Int) + 2 + d := by omega
          have g5 : (i : Int) + 2 + d ≤ s.size := by omega
          have hj : i + 2 + d ≤ s.size := by omega
          have hp3 : p ≤ 2 + d := hp2
          have hxs' := Lib.hid hxs
          have hp' := Lib.hid hp
          have hstep' := Lib.hid hstep
          clear hxs hp hstep hss hsl
          have hbs := hb.size
          have no_of : maxB s.data.toList i (i + 2 + d) p = false → rrRow s.data.toList (rrAll s.data.toList i) i (d + 1) = xs := fun h => by rw [hstep'.out, if_neg (by rw [h]; simp)]
          have yes_of : maxB s.data.toList i (i + 2 + d) p = true → rrRow s.data.toList (rrAll s.data.toList i) i (d + 1) = xs ++ [(i, i + 2 + d, p)] := fun h => by rw [hstep'.out, if_pos h]
          clear hstep'
          by_cases hA : 2 * p ≤ 2 + d
          · have dA : (2 : Int) * p ≤ (i : Int) + 2 + d - i := by omega
            have e1 : IntKind.i64.wrap ((i : Int) + 2 + d - i) = (i : Int) + 2 + d - i := IntWalk.i64_in _ (by omega)
            have e2 : IntKind.i64.wrap ((i : Int) - 1) = (i : Int) - 1 := IntWalk.i64_in _ (by omega)
            have e3 : ((i : Int) - 1).toNat = i - 1 := by omega
            have e4 : IntKind.i64.wrap ((i : Int) + 2 + d + 1) = (i : Int) + 2 + d + 1 := IntWalk.i64_in _ (by omega)
            have e5 : ((i : Int) + 2 + d + 1).toNat = i + 2 + d + 1 := by omega
            cases hP : preB s.data.toList i (i + 2 + d) p
            · cases hS : sufB s.data.toList i (i + 2 + d) p
              · have hst := Lib.hid (yes_of (by unfold maxB; rw [hP, hS]; simp; omega))
                clear no_of yes_of
                by_cases hi0 : 0 < i
                · have hpre := Lib.hid (per52' s (i - 1) (i + 2 + d) p false (by omega) (by omega) hj (by omega) (by unfold preB at hP; simpa [hi0] using hP))
                  have e6 : (0 : Int) < i := by omega
                  have e7 : (0 : Int) ≤ (i : Int) - 1 := by omega
                  have e8 : (i : Int) - 1 ≤ (i : Int) + 2 + d := by omega
                  by_cases hjn : i + 2 + d < s.size
                  · have hsuf := Lib.hid (per52' s i (i + 2 + d + 1) p false (by omega) (by omega) (by omega) (by omega) (by unfold sufB at hS; rw [size_len] at hS; simpa [hjn] using hS))
                    have e9 : (i : Int) + 2 + d < s.size := by omega
                    have e10 : (0 : Int) ≤ (i : Int) + 2 + d + 1 := by omega
                    have e11 : (i : Int) ≤ (i : Int) + 2 + d + 1 := by omega
                    have e12 : (i : Int) + 2 + d + 1 ≤ s.size := by omega
                    clear hP hS
                    go_wp2_with (first | (go_at_call 26; refine hfirst.out.mono ?_; rintro e w2 ⟨g, m, c, rfl, hm, hc, hcc, hb2⟩; have hm2 : (0 : Int) < (m : Int) := (by omega)) | (go_at_call 52; refine (hpre.out _).mono ?_; clear hpre; rintro e w3 ⟨rfl, hb3⟩) | (go_at_call 52; refine (hsuf.out _).mono ?_; clear hsuf; rintro e w4 ⟨rfl, hb4⟩) | (at_builtin; refine app_run (r := (i, i + 2 + d, p)) (((hv.below hb2).below hb3).below hb4) hxl (by have := hb2.size; have := hb3.size; have := hb4.size; omega) rfl _ _ rfl rfl rfl ?_; intro v' w5 hown5 hb5))
                    exact ⟨⟨d + 1, by omega, int_eq (by omega), by rw [hst.out]; exact hown5, (below_seq (below_seq (below_seq hb hb2 (by have := hb2.size; have := hb3.size; have := hb4.size; omega)) hb3 (by have := hb2.size; have := hb3.size; have := hb4.size; omega)) hb4 (by have := hb2.size; have := hb3.size; have := hb4.size; omega)).trans hb5⟩, by simp [intOf]; omega⟩
                  · have e9 : ¬ ((i : Int) + 2 + d < s.size) := by omega
                    clear hP hS
                    go_wp2_with (first | (go_at_call 26; refine hfirst.out.mono ?_; rintro e w2 ⟨g, m, c, rfl, hm, hc, hcc, hb2⟩; have hm2 : (0 : Int) < (m : Int) := (by omega)) | (go_at_call 52; refine (hpre.out _).mono ?_; clear hpre; rintro e w3 ⟨rfl, hb3⟩) | (at_builtin; refine app_run (r := (i, i + 2 + d, p)) ((hv.below hb2).below hb3) hxl (by have := hb2.size; have := hb3.size; omega) rfl _ _ rfl rfl rfl ?_; intro v' w5 hown5 hb5))
                    exact ⟨⟨d + 1, by omega, int_eq (by omega), by rw [hst.out]; exact hown5, (below_seq (below_seq hb hb2 (by have := hb2.size; have := hb3.size; omega)) hb3 (by have := hb2.size; have := hb3.size; omega)).trans hb5⟩, by simp [intOf]; omega⟩
                · have e6 : ¬ ((0 : Int) < i) := by omega
                  by_cases hjn : i + 2 + d < s.size
                  · have hsuf := Lib.hid (per52' s i (i + 2 + d + 1) p false (by omega) (by omega) (by omega) (by omega) (by unfold sufB at hS; rw [size_len] at hS; simpa [hjn] using hS))
                    have e9 : (i : Int) + 2 + d < s.size := by omega
                    have e10 : (0 : Int) ≤ (i : Int) + 2 + d + 1 := by omega
                    have e11 : (i : Int) ≤ (i : Int) + 2 + d + 1 := by omega
                    have e12 : (i : Int) + 2 + d + 1 ≤ s.size := by omega
                    clear hP hS
                    go_wp2_with (first | (go_at_call 26; refine hfirst.out.mono ?_; rintro e w2 ⟨g, m, c, rfl, hm, hc, hcc, hb2⟩; have hm2 : (0 : Int) < (m : Int) := (by omega)) | (go_at_call 52; refine (hsuf.out _).mono ?_; clear hsuf; rintro e w4 ⟨rfl, hb4⟩) | (at_builtin; refine app_run (r := (i, i + 2 + d, p)) ((hv.below hb2).below hb4) hxl (by have := hb2.size; have := hb4.size; omega) rfl _ _ rfl rfl rfl ?_; intro v' w5 hown5 hb5))
                    exact ⟨⟨d + 1, by omega, int_eq (by omega), by rw [hst.out]; exact hown5, (below_seq (below_seq hb hb2 (by have := hb2.size; have := hb4.size; omega)) hb4 (by have := hb2.size; have := hb4.size; omega)).trans hb5⟩, by simp [intOf]; omega⟩
                  · have e9 : ¬ ((i : Int) + 2 + d < s.size) := by omega
                    clear hP hS
                    go_wp2_with (first | (go_at_call 26; refine hfirst.out.mono ?_; rintro e w2 ⟨g, m, c, rfl, hm, hc, hcc, hb2⟩; have hm2 : (0 : Int) < (m : Int) := (by omega)) | (at_builtin; refine app_run (r := (i, i + 2 + d, p)) (hv.below hb2) hxl (by have := hb2.size; omega) rfl _ _ rfl rfl rfl ?_; intro v' w5 hown5 hb5))
                    exact ⟨⟨d + 1, by omega, int_eq (by omega), by rw [hst.out]; exact hown5, (below_seq hb hb2 (by have := hb2.size; omega)).trans hb5⟩, by simp [intOf]; omega⟩
              · have hst := Lib.hid (no_of (by unfold maxB; rw [hS]; simp))
                clear no_of yes_of
                have hjn : i + 2 + d < s.size := by unfold sufB at hS; rw [size_len] at hS; simp at hS; exact hS.1
                by_cases hi0 : 0 < i
                · have hpre := Lib.hid (per52' s (i - 1) (i + 2 + d) p false (by omega) (by omega) hj (by omega) (by unfold preB at hP; simpa [hi0] using hP))
                  have e6 : (0 : Int) < i := by omega
                  have e7 : (0 : Int) ≤ (i : Int) - 1 := by omega
                  have e8 : (i : Int) - 1 ≤ (i : Int) + 2 + d := by omega
                  have hsuf := Lib.hid (per52' s i (i + 2 + d + 1) p true (by omega) (by omega) (by omega) (by omega) (by unfold sufB at hS; rw [size_len] at hS; simpa [hjn] using hS))
                  have e9 : (i : Int) + 2 + d < s.size := by omega
                  have e10 : (0 : Int) ≤ (i : Int) + 2 + d + 1 := by omega
                  have e11 : (i : Int) ≤ (i : Int) + 2 + d + 1 := by omega
                  have e12 : (i : Int) + 2 + d + 1 ≤ s.size := by omega
                  clear hP hS
                  go_wp2_with (first | (go_at_call 26; refine hfirst.out.mono ?_; rintro e w2 ⟨g, m, c, rfl, hm, hc, hcc, hb2⟩; have hm2 : (0 : Int) < (m : Int) := (by omega)) | (go_at_call 52; refine (hpre.out _).mono ?_; clear hpre; rintro e w3 ⟨rfl, hb3⟩) | (go_at_call 52; refine (hsuf.out _).mono ?_; clear hsuf; rintro e w4 ⟨rfl, hb4⟩))
                  exact ⟨⟨d + 1, by omega, int_eq (by omega), by rw [hst.out]; exact (((hv.below hb2).below hb3).below hb4), (below_seq (below_seq (below_seq hb hb2 (by have := hb2.size; have := hb3.size; have := hb4.size; omega)) hb3 (by have := hb2.size; have := hb3.size; have := hb4.size; omega)) hb4 (by have := hb2.size; have := hb3.size; have := hb4.size; omega))⟩, by simp [intOf]; omega⟩
                · have e6 : ¬ ((0 : Int) < i) := by omega
                  have hsuf := Lib.hid (per52' s i (i + 2 + d + 1) p true (by omega) (by omega) (by omega) (by omega) (by unfold sufB at hS; rw [size_len] at hS; simpa [hjn] using hS))
                  have e9 : (i : Int) + 2 + d < s.size := by omega
                  have e10 : (0 : Int) ≤ (i : Int) + 2 + d + 1 := by omega
                  have e11 : (i : Int) ≤ (i : Int) + 2 + d + 1 := by omega
                  have e12 : (i : Int) + 2 + d + 1 ≤ s.size := by omega
                  clear hP hS
                  go_wp2_with (first | (go_at_call 26; refine hfirst.out.mono ?_; rintro e w2 ⟨g, m, c, rfl, hm, hc, hcc, hb2⟩; have hm2 : (0 : Int) < (m : Int) := (by omega)) | (go_at_call 52; refine (hsuf.out _).mono ?_; clear hsuf; rintro e w4 ⟨rfl, hb4⟩))
                  exact ⟨⟨d + 1, by omega, int_eq (by omega), by rw [hst.out]; exact ((hv.below hb2).below hb4), (below_seq (below_seq hb hb2 (by have := hb2.size; have := hb4.size; omega)) hb4 (by have := hb2.size; have := hb4.size; omega))⟩, by simp [intOf]; omega⟩
            · have hst := Lib.hid (no_of (by unfold maxB; rw [hP]; simp))
              clear no_of yes_of
              have hi0 : 0 < i := by unfold preB at hP; simp at hP; exact hP.1
              have hpre := Lib.hid (per52' s (i - 1) (i + 2 + d) p true (by omega) (by omega) hj (by omega) (by unfold preB at hP; simpa [hi0] using hP))
              have e6 : (0 : Int) < i := by omega
              have e7 : (0 : Int) ≤ (i : Int) - 1 := by omega
              have e8 : (i : Int) - 1 ≤ (i : Int) + 2 + d := by omega
              clear hP
              go_wp2_with (first | (go_at_call 26; refine hfirst.out.mono ?_; rintro e w2 ⟨g, m, c, rfl, hm, hc, hcc, hb2⟩; have hm2 : (0 : Int) < (m : Int) := (by omega)) | (go_at_call 52; refine (hpre.out _).mono ?_; clear hpre; rintro e w3 ⟨rfl, hb3⟩))
              exact ⟨⟨d + 1, by omega, int_eq (by omega), by rw [hst.out]; exact ((hv.below hb2).below hb3), (below_seq (below_seq hb hb2 (by have := hb2.size; have := hb3.size; omega)) hb3 (by have := hb2.size; have := hb3.size; omega))⟩, by simp [intOf]; omega⟩
          · have dA : ¬ ((2 : Int) * p ≤ (i : Int) + 2 + d - i) := by omega
            have e1 : IntKind.i64.wrap ((i : Int) + 2 + d - i) = (i : Int) + 2 + d - i := IntWalk.i64_in _ (by omega)
            have hst := Lib.hid (no_of (by unfold maxB; rw [show decide (2 * p ≤ i + 2 + d - i) = false by simp; omega]; rfl))
            clear no_of yes_of
            go_wp2_with (first | (go_at_call 26; refine hfirst.out.mono ?_; rintro e w2 ⟨g, m, c, rfl, hm, hc, hcc, hb2⟩; have hm2 : (0 : Int) < (m : Int) := (by omega)))
            exact ⟨⟨d + 1, by omega, int_eq (by omega), by rw [hst.out]; exact (hv.below hb2), (below_seq hb hb2 (by have := hb2.size; omega))⟩, by simp [intOf]; omega⟩
        · have hde : d = s.size - 1 - i := by omega
          have hstep := rrAll_succ s.data.toList i
          rw [size_len, ← hde] at hstep
          have hstep' := Lib.hid hstep
          clear hstep hde
          go_wp2
          exact ⟨⟨i + 1, by omega, by go_num, by rw [hstep'.out]; exact hv, hb⟩, by simp [intOf]; omega⟩
    · have hie : i = s.size := by omega
      have hie' := Lib.hid hie
      clear hie
      go_wp2
      go_ret
      exact ⟨_, rfl, by rw [← hie'.out]; exact hv, hb⟩
end Go.Proofs.Ytbcoaiaocfommaa
