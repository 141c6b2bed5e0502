import Derived.Test.YtbemlfppekpmjaaKa
namespace Go.Proofs.Ytbemlfppekpmjaa
open Go.RowKit Rng
theorem rel_wk {S : WS} {x : Nat} (hx : x < S.n) (j : Nat) : ((S.rel x).hd j).wk = (S.hd j).wk := by
  unfold WS.rel
  split
  · rfl
  · rw [hd_set _ _ _ _ (by simpa using hx)]
    split
    · rename_i e; subst e; rfl
    · rfl
theorem idleE_wk {S : WS} (hl : S.fl.length < 200) {x : Nat} (hx : x < S.n) (j : Nat) : ((idleE S x).2.hd j).wk = if j = x then false else (S.hd j).wk := by
  unfold idleE
  rw [if_neg (by simp [inB]; omega)]
  simp only [Int.toNat_natCast]
  by_cases h : (S.hd x).wk = false
  · rw [if_pos h]
    split
    · rename_i e; rw [e]; exact h
    · rfl
  · rw [if_neg h, if_neg (by omega)]
    show (((S.set x ⟨false, (S.hd x).par, (S.hd x).owed⟩).rel x).hd j).wk = _
    rw [rel_wk (by simpa using hx), hd_set _ _ _ _ hx]
    split <;> rfl
theorem phi_idleE {S : WS} (h : Inv S) {x : Nat} (hx : x < S.n) : (idleE S x).2.phi + (idleE S x).2.fl.length ≤ S.phi + S.fl.length ∧ S.fl.length ≤ (idleE S x).2.fl.length := by
  unfold idleE
  rw [if_neg (by simp [inB]; omega)]
  simp only [Int.toNat_natCast]
  by_cases hw : (S.hd x).wk = false
  · rw [if_pos hw]; exact ⟨Nat.le_refl _, Nat.le_refl _⟩
  · rw [if_neg hw]
    split
    · exact ⟨Nat.le_refl _, Nat.le_refl _⟩
    · exact phi_idle h hx (by simpa using hw)
theorem idleE_code {S : WS} {x : Nat} (hx : x < S.n) : (idleE S x).1 = 0 ∨ (idleE S x).1 = 5 ∨ (idleE S x).1 = 7 := by
  unfold idleE
  rw [if_neg (by simp [inB]; omega)]
  split
  · exact .inr (.inl rfl)
  · split
    · exact .inr (.inr rfl)
    · exact .inl rfl
theorem WkK.flight {w0 w : World} {b : Nat} {S : WS} (h : WkK w0 b S w) : Calls Try.prog 37 #[.pointer (some ⟨b, 0, none⟩)] w fun e w' => ∃ a c, e = .returned (.slice a S.fl.length c) ∧ WkK w0 b S w' := by
  obtain ⟨hb, hi, hh, c, fv, k⟩ := h
  refine (flight37 k (by have := hi.room; omega)).mono ?_
  rintro e w' ⟨v', rfl, ho, hb2⟩
  obtain ⟨a, c', e, _⟩ := own_cells ho
  exact ⟨a, c', by rw [e], hb.trans (hb2.mono hb.size), hi, hh, c, fv, k.below hb2⟩
theorem WkK.over {w0 w : World} {b : Nat} {S : WS} (h : WkK w0 b S w) (ho : OverOk S) : Calls Try.prog 39 #[.pointer (some ⟨b, 0, none⟩), .int .i64 S.n] w fun e w' => e = .returned (.bool true) ∧ WkK w0 b S w' := by
  obtain ⟨hb, hi, hh, c, fv, k⟩ := h
  refine (over39 k hi.n10 (by have := hi.room; omega) ho).mono ?_
  rintro e w' ⟨rfl, hb2⟩
  exact ⟨rfl, hb.trans (hb2.mono hb.size), hi, hh, c, fv, k.below hb2⟩
theorem WkK.below {w0 w w' : World} {b : Nat} {S : WS} (h : WkK w0 b S w) (hb : Below w.heap.size w w') : WkK w0 b S w' := by
  obtain ⟨hb0, hi, hh, c, fv, k⟩ := h
  exact ⟨hb0.trans (hb.mono hb0.size), hi, hh, c, fv, k.below hb⟩
/-- Everybody is idle, nothing is on the way. -/
theorem done {S : WS} (h : Inv S) (hw : ∀ i, i < S.n → (S.hd i).wk = false) (hf : S.fl.length = 0) : endB S = true ∧ OverOk S := by
  have hf' := List.length_eq_zero_iff.1 hf
  have hq := quiet h hw hf'
  have hn := h.n1
  refine ⟨?_, fun i hi => ⟨hw i hi, (hq i hi).1, (hq i hi).2⟩, fun l hl => by rw [hf'] at hl; simp at hl⟩
  unfold endB
  rw [hw 0 (by omega), (hq 0 (by omega)).2]; rfl
/-- The state of the loop that makes everybody idle. -/
def Calm (S T : WS) (k : Nat) : Prop := T.n = S.n ∧ T.fl.length ≤ k ∧ T.phi + T.fl.length ≤ S.phi ∧ ∀ j, j < k → (T.hd j).wk = false
theorem Calm.next {S T : WS} {k : Nat} (h : Calm S T k) (hv : Inv T) (hk : k < S.n) (hk10 : k ≤ 10) : Calm S (idleE T k).2 (k + 1) := by
  obtain ⟨h1, h2, h3, h4⟩ := h
  have hk' : k < T.n := by omega
  have e := idleE_n T k
  have p := phi_idleE hv hk'
  refine ⟨e.1.trans h1, by omega, by omega, fun j hj => ?_⟩
  rw [idleE_wk (by omega) hk']
  split
  · rfl
  · exact h4 j (by omega)
end Go.Proofs.Ytbemlfppekpmjaa
