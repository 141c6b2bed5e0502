import Derived.Test.YtjkbhdlbomcbeaaZc
namespace Go.Proofs.Ytjkbhdlbomcbeaa
open Go.RowKit Go.Shelf Shf

/-- All jobs need more from `a` up to `b` than there is. -/
def ovB (P : Int) (js : List J) (a b : Int) : Bool := decide (P * (b - a) < needS js a b js.length)
set_option maxHeartbeats 4000000 in
set_option maxRecDepth 100000 in
theorem isOverfull65 {w : World} {v : Value} {P : Int} {js : List J} {os : List (Int × Int)} (h : ShV w v P js os) (h7 : js.length ≤ 7) (hP : 1 ≤ P ∧ P ≤ 20) (hj : ∀ i, i < js.length → JobIn (js.getD i J0)) {a b : Int} (ha : 0 ≤ a ∧ a ≤ 24) (hb : 0 ≤ b ∧ b ≤ 24) (hab : a ≤ b) {d : Bool} (hd : ovB P js a b = d) :
    Calls Try.prog 65 #[v, .int .i64 a, .int .i64 b] w fun e w' => e = .returned (.bool d) ∧ Below w.heap.size w w' := by
  obtain ⟨jv, ov, rfl, rj, ro⟩ := h
  obtain ⟨ja, jn, jc, rfl⟩ : ∃ a n c, jv = .slice a n c := by obtain ⟨a, c, e, _⟩ := rj; exact ⟨_, _, _, e⟩
  obtain ⟨oa, m, oc, rfl⟩ : ∃ a n c, ov = .slice a n c := by obtain ⟨a, c, e, _⟩ := ro; exact ⟨_, _, _, e⟩
  have hb0 := Lib.hid (below_alloc1 w (.cells #[.int .i64 P, .slice ja jn jc, .slice oa m oc] 81))
  have hnd := Lib.hid (fun (W : World) (hb' : Below w.heap.size w W) => needs48 (w := W) (v := .agg #[.int .i64 P, .slice ja jn jc, .slice oa m oc]) ⟨_, _, rfl, rj.below hb', ro.below hb'⟩ h7 hj ha hb hab)
  have hsi := needS_in hj hab (n := js.length) (Nat.le_refl _)
  unfold ovB at hd
  obtain ⟨z, hz⟩ : ∃ z, z = needS js a b js.length := ⟨_, rfl⟩
  rw [← hz] at hd hsi
  have hz' := Lib.hid hz
  have hd' := Lib.hid hd
  obtain ⟨y, hy⟩ : ∃ y, y = P * (b - a) := ⟨_, rfl⟩
  have hyb : 0 ≤ y ∧ y ≤ 480 := by
    have h1 := Int.mul_nonneg (show 0 ≤ P by omega) (show 0 ≤ b - a by omega)
    have h2 := Int.mul_le_mul (show P ≤ 20 by omega) (show b - a ≤ 24 by omega) (by omega) (by omega)
    rw [hy]; omega
  have s1 : IntKind.i64.wrap (b - a) = b - a := IntWalk.i64_in _ (by omega)
  have s2 : IntKind.i64.wrap (P * (b - a)) = P * (b - a) := IntWalk.i64_in _ (by rw [← hy]; omega)
  clear rj ro h7 hj hz hd hyb hy hsi
  go_enter Try.func65, Try.ntmps65
  go_wp2_with fail
  obtain ⟨W, hW⟩ : ∃ W, W = w.alloc (.cells #[.int .i64 P, .slice ja jn jc, .slice oa m oc] 81) := ⟨_, rfl⟩
  have q0 : W.cell? ⟨w.heap.size, 0, none⟩ = some (.int .i64 P) := by rw [hW]; simp
  have q1 : W.cell? ⟨w.heap.size, 1, none⟩ = some (.slice ja jn jc) := by rw [hW]; simp
  have q2 : W.cell? ⟨w.heap.size, 2, none⟩ = some (.slice oa m oc) := by rw [hW]; simp
  have hwW := Lib.hid (show w.heap.size < W.heap.size by rw [hW]; simp)
  rw [← hW] at hb0 ⊢
  clear hW
  refine wp_region_noPanic ?_
  go_region_held3 (fun w' => w'.cell? ⟨w.heap.size, 0, none⟩ = some (.int .i64 P) ∧ w'.cell? ⟨w.heap.size, 1, none⟩ = some (.slice ja jn jc) ∧ w'.cell? ⟨w.heap.size, 2, none⟩ = some (.slice oa m oc))
    (first
      | exact ⟨q0, q1, q2⟩
      | exact ⟨(hbW.cell (p := ⟨w.heap.size, 0, none⟩) hwW.out).trans q0, (hbW.cell (p := ⟨w.heap.size, 1, none⟩) hwW.out).trans q1, (hbW.cell (p := ⟨w.heap.size, 2, none⟩) hwW.out).trans q2⟩)
    ((go_at_call 48; refine (hnd.out _ hb0.out.drew).mono ?_; rintro e wk ⟨rfl, hbk⟩; rw [← hz'.out]; have hbW := (Below.refl W.heap.size W).drew.trans hbk))
  all_goals refine NoPanic.normal ?_
  all_goals go_wp2_with fail
  all_goals go_ret
  all_goals exact ⟨ret_b hd'.out, below_call hb0.out hbW⟩
/-- No pair ahead of `(a, b)` is overfull. -/
def NoneB (P : Int) (js : List J) (a b : Nat) : Prop := ∀ x y : Nat, x < y → y ≤ 24 → (x < a ∨ (x = a ∧ y < b)) → ovB P js x y = false
/-- The first overfull interval, and whether there is one. -/
def OverIs (P : Int) (js : List J) (f t : Int) (ok : Bool) : Prop :=
  (ok = true ∧ ∃ a b : Nat, f = a ∧ t = b ∧ a < b ∧ b ≤ 24 ∧ ovB P js a b = true ∧ NoneB P js a b) ∨ (ok = false ∧ f = 0 ∧ t = 0 ∧ NoneB P js 24 0)
theorem over_only {P : Int} {js : List J} {f t f' t' : Int} {ok ok' : Bool} (h : OverIs P js f t ok) (h' : OverIs P js f' t' ok') : f = f' ∧ t = t' ∧ ok = ok' := by
  rcases h with ⟨rfl, a, b, rfl, rfl, h1, h2, h3, h4⟩ | ⟨rfl, rfl, rfl, h1⟩ <;> rcases h' with ⟨rfl, a', b', rfl, rfl, g1, g2, g3, g4⟩ | ⟨rfl, rfl, rfl, g1⟩
  · have e : a = a' ∧ b = b' := by
      rcases Nat.lt_trichotomy a a' with c | c | c
      · have := g4 a b h1 h2 (.inl c); rw [h3] at this; cases this
      · subst c
        rcases Nat.lt_trichotomy b b' with c | c | c
        · have := g4 a b h1 h2 (.inr ⟨rfl, c⟩); rw [h3] at this; cases this
        · exact ⟨rfl, c⟩
        · have := h4 a b' g1 g2 (.inr ⟨rfl, c⟩); rw [g3] at this; cases this
      · have := h4 a' b' g1 g2 (.inl c); rw [g3] at this; cases this
    rw [e.1, e.2]; exact ⟨rfl, rfl, rfl⟩
  · have := g1 a b h1 h2 (.inl (by omega)); rw [h3] at this; cases this
  · have := h1 a' b' g1 g2 (.inl (by omega)); rw [g3] at this; cases this
  · exact ⟨rfl, rfl, rfl⟩
theorem none_next {P : Int} {js : List J} {a b : Nat} (h : NoneB P js a b) (hv : ovB P js a b = false) : NoneB P js a (b + 1) := fun x y h1 h2 h3 => by
  rcases h3 with h3 | ⟨rfl, h3⟩
  · exact h x y h1 h2 (.inl h3)
  · by_cases e : y = b
    · rw [e]; exact hv
    · exact h x y h1 h2 (.inr ⟨rfl, by omega⟩)
theorem none_row {P : Int} {js : List J} {a : Nat} (h : NoneB P js a 25) : NoneB P js (a + 1) (a + 2) := fun x y h1 h2 h3 => by
  rcases h3 with h3 | ⟨rfl, h3⟩
  · by_cases e : x = a
    · rw [e]; exact h a y (by omega) h2 (.inr ⟨rfl, by omega⟩)
    · exact h x y h1 h2 (.inl (by omega))
  · omega
end Go.Proofs.Ytjkbhdlbomcbeaa
