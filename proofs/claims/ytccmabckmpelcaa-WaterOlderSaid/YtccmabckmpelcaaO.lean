import Derived.Test.YtccmabckmpelcaaN
import Derived.Laws.AppendOwnNone
namespace Go.Proofs.Ytccmabckmpelcaa
open Go.RowKit

/-- A slice of ints that came in. -/
def InRow (w : World) (v : Value) (xs : List Int) : Prop := Reads w v xs ∧ xs.length ≤ maxLen ∧ ∃ ao c, v = .slice ao xs.length c ∧ (ao = none → c = 0)
theorem InRow.below {w w' : World} {v : Value} {xs : List Int} (h : InRow w v xs) (hb : Below w.heap.size w w') : InRow w' v xs := ⟨h.1.below hb, h.2⟩
def InRows (w : World) (v : Value) (xss : List (List Int)) : Prop := ∃ ao c, v = .slice ao xss.length c ∧ xss.length ≤ c ∧ xss.length ≤ maxLen ∧ (xss ≠ [] → ∃ g o, ao = some ⟨g, o, none⟩ ∧ g < w.heap.size ∧ ∀ j, j < xss.length → ∃ u, w.cell? ⟨g, o + j, none⟩ = some u ∧ InRow w u (xss.getD j []))
theorem InRows.below {w w' : World} {v : Value} {xss : List (List Int)} (h : InRows w v xss) (hb : Below w.heap.size w w') : InRows w' v xss := by
  obtain ⟨ao, c, rfl, hc, hm, h⟩ := h
  refine ⟨ao, c, rfl, hc, hm, fun hne => ?_⟩
  obtain ⟨g, o, rfl, hg, hc⟩ := h hne
  refine ⟨g, o, rfl, Nat.lt_of_lt_of_le hg hb.size, fun j hj => ?_⟩
  obtain ⟨u, h1, h2⟩ := hc j hj
  exact ⟨u, (hb.cell (p := ⟨g, o + j, none⟩) hg).trans h1, h2.below hb⟩

/-- append(s, src...) of ints, at the model's operation. -/
theorem app_ints {ops : Array Oper} {rest : List Oper} {o : Oper} {a : Act} {Q : Exit → Act → World → Prop} {w : World} {B : Nat} {v u : Value} {xs ys : List Int}
    (hown : Ints w B v xs) (hu : Reads w u ys) (hs' : u = .slice none 0 0 ∨ ∃ ad l c, u = .slice (some ad) l c) (hlen : xs.length + ys.length ≤ 1000000000) (hB : B ≤ w.heap.size) (hgd : o.guard = none) (s x : Operand)
    (ho : o.op = .call { callee := .builtin .append, args := #[s, x], argTypes := #[22, 22] }) (hs : a.eval s = v) (hx : a.eval x = u)
    (h : ∀ v' w', Ints w' B v' (xs ++ ys) → Below B w w' → wpList Try.prog ops Q rest (a.put o.dst v') w') : wpList Try.prog ops Q (o :: rest) a w := by
  obtain ⟨i0, hi, hz0, hz1, hz2⟩ := info_parts info3
  obtain ⟨ao, c, rfl, hc, hcl⟩ := hu
  rcases hs' with e | ⟨ad, l, c', e⟩
  · have hy : ys = [] := by
      simp only [Value.slice.injEq] at e
      exact List.length_eq_zero_iff.1 e.2.1
    subst hy
    refine wpList_append_own_none hgd s x 22 ho B 3 i0 1 Try.underlying22 hi v xs.length (xs.map (Value.int .i64)) hs hown (hx.trans e) ?_
    exact h v w (by simpa using hown) (Below.refl _ _)
  · have ea : ao = some ad := by cases e; rfl
    subst ea
    refine wpList_append_own _ hgd s x 22 ho B 3 i0 (.int .i64 0) 1 8 Try.underlying22 hi hz0 hz1 hz2 rfl (by decide) v xs.length (xs.map (Value.int .i64)) hs hown ad ys.length c (ys.map (Value.int .i64)) hx (by simp) ?_ ?_ (by unfold maxLen; omega) (by omega) hB ?_
    · intro j z hj
      rw [List.getElem?_map, Option.map_eq_some_iff] at hj
      obtain ⟨y, hy, rfl⟩ := hj
      obtain ⟨hj1, hj2⟩ := List.getElem?_eq_some_iff.1 hy
      obtain ⟨g, o', e1, _, hcell⟩ := hcl (fun e => by rw [e] at hj1; simp at hj1)
      cases e1
      have := hcell j hj1
      rw [show (⟨g, o', none⟩ : Addr).add j = ⟨g, o' + j, none⟩ from by simp [Addr.add], this, List.getD_eq_getElem?_getD, hy]; rfl
    · intro z hz
      rw [List.mem_map] at hz
      obtain ⟨y, _, rfl⟩ := hz
      rfl
    · intro v' w' h2 h3 _
      refine h v' w' ?_ ?_
      · unfold Ints; simpa using h2
      · exact (Below.refl B w).grown h3 hB (fun k hk => (World.ownsRow.lt hown k hk).1)

theorem Reads.take {w : World} {ao : Option Addr} {c n : Nat} {xs : List Int} (hn : xs.length = n) (h : Reads w (.slice ao n c) xs) {m : Nat} (hm : m ≤ n) : Reads w (.slice ao m c) (xs.take m) := by
  subst hn
  obtain ⟨ao', c', e, hc, h⟩ := h
  have e1 : ao = ao' ∧ c = c' := by cases e; exact ⟨rfl, rfl⟩
  obtain ⟨rfl, rfl⟩ := e1
  have hl : (xs.take m).length = m := by rw [List.length_take]; omega
  refine ⟨ao, c, by rw [hl], by omega, fun hne => ?_⟩
  obtain ⟨g, o, rfl, hg, hcell⟩ := h (fun e => hne (by rw [e]; simp))
  refine ⟨g, o, rfl, hg, fun j hj => ?_⟩
  rw [hl] at hj
  rw [hcell j (by omega), List.getD_eq_getElem?_getD, List.getD_eq_getElem?_getD, List.getElem?_take, if_pos hj]

set_option maxHeartbeats 1000000 in
set_option maxRecDepth 100000 in
theorem cut16 {w : World} {u : Value} {xs : List Int} (h : InRow w u xs) (m : Nat) (hm : m ≤ 100) :
    Calls Try.prog 16 #[u, .int .i64 m] w (Made w (xs.take m)) := by
  obtain ⟨hr, hl, ao, c, rfl, hao⟩ := h
  obtain ⟨n, hn⟩ : ∃ n, n = xs.length := ⟨_, rfl⟩
  unfold maxLen at hl
  rw [← hn] at hl hr ⊢
  have hcl : n ≤ c := by obtain ⟨ao', c', e, h2, _⟩ := hr; cases e; omega
  have hr' := Lib.hid hr
  have hao' := Lib.hid hao
  have hlit := Lib.hid (Ints.lit w w.heap.size (Nat.le_refl _))
  have hsh : ∀ k, k ≤ n → (Value.slice ao k c = .slice none 0 0 ∨ ∃ ad l c', Value.slice ao k c = .slice (some ad) l c') := by
    intro k hk
    cases ao with
    | none => have := hao rfl; left; have : n = 0 := by omega
              rw [show k = 0 by omega, show c = 0 by omega]
    | some ad => exact .inr ⟨ad, _, _, rfl⟩
  have hsh' := Lib.hid hsh
  have hb1 := Lib.hid (below_alloc1 w (.cells #[] 3))
  clear hsh hao
  by_cases h1 : n ≤ m
  · have ht := Lib.hid (show xs.take m = xs from List.take_of_length_le (by omega))
    have hrd := Lib.hid (hr.below hb1.out)
    have hn' := Lib.hid hn
    clear hr hn
    go_enter Try.func16, Try.ntmps16
    go_wp2_with (first | (at_builtin; refine app_ints hlit.out hrd.out (hsh'.out n (Nat.le_refl _)) (by rw [← hn'.out]; simp; omega) (by simp) rfl _ _ rfl rfl rfl ?_; intro v' w2 hown2 hb2))
    go_ret
    exact ⟨_, rfl, by rw [ht.out]; exact hown2, hb1.out.trans hb2⟩
  · have hrd := Lib.hid ((hr.take hn.symm (m := m) (by omega)).below hb1.out)
    have htl := Lib.hid (show (xs.take m).length = m by rw [List.length_take]; omega)
    clear hr hn
    go_enter Try.func16, Try.ntmps16
    go_wp2_with (first | (at_builtin; refine app_ints hlit.out hrd.out (hsh'.out m (by omega)) (by rw [htl.out]; simp; omega) (by simp) rfl _ _ rfl rfl rfl ?_; intro v' w2 hown2 hb2))
    go_ret
    exact ⟨_, rfl, hown2, hb1.out.trans hb2⟩

theorem tmod_low (v n : Int) (h : 0 < n) : -n < v.tmod n := by
  rcases Int.le_total 0 v with h1 | h1
  · have := Int.tmod_nonneg n h1; omega
  · have := Int.tmod_lt_of_pos (-v) h
    rw [Int.neg_tmod] at this; omega

def foldZ (v n : Int) : Int := (v.tmod n + n).tmod n
theorem foldZ_bd (v n : Int) (h : 1 ≤ n) : 0 ≤ foldZ v n ∧ foldZ v n < n := by
  unfold foldZ
  have h1 : v.tmod n + n > 0 := by
    have := tmod_low v n (show 0 < n by omega)
    omega
  rw [Int.tmod_eq_emod_of_nonneg (by omega)]
  exact ⟨Int.emod_nonneg _ (by omega), Int.emod_lt_of_pos _ (by omega)⟩

set_option maxRecDepth 100000 in
theorem fold38 (v n : Int) (w : World) (hn : 1 ≤ n) (hn2 : n ≤ 1000000) :
    Calls Try.prog 38 #[.int .i64 v, .int .i64 n] w fun e w' => e = .returned (.int .i64 (foldZ v n)) ∧ w = w' := by
  have h1 := tmod_low v n (show 0 < n by omega)
  have h2 := Int.tmod_lt_of_pos v (show 0 < n by omega)
  have h3 := foldZ_bd v n hn
  have h4 := Lib.hid (show foldZ v n = (v.tmod n + n).tmod n from rfl)
  obtain ⟨y, hy⟩ : ∃ y, y = foldZ v n := ⟨_, rfl⟩
  rw [← hy] at h3 h4 ⊢
  have hn0 : ¬ n = 0 := by omega
  have hnn : n ≠ -1 := by omega
  clear hy
  go_enter Try.func38, Try.ntmps38
  go_wp2
  all_goals go_ret
  all_goals first
    | exact ⟨ret_i h4.out.symm, rfl⟩
    | exact ⟨ret_i (by rw [h4.out, Int.tmod_eq_emod_of_nonneg (a := v.tmod n + n) (by omega)]), rfl⟩
    | exact ⟨ret_i (by rw [h4.out, Int.tmod_eq_emod_of_nonneg (a := v) (by omega), Int.tmod_eq_emod_of_nonneg (a := v % n + n) (by have := Int.emod_nonneg v (show n ≠ 0 by omega); omega)]), rfl⟩
end Go.Proofs.Ytccmabckmpelcaa
