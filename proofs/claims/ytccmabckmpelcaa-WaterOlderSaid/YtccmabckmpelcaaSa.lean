import Derived.Test.YtccmabckmpelcaaQ
import Derived.Test.YtccmabckmpelcaaRc
namespace Go.Proofs.Ytccmabckmpelcaa
open Go.RowKit

theorem riv_of {w : World} {B : Nat} {u v : Value} {fs : List Int} {gs : List (List Int)} (hu : Ints w B u fs) (hv : OwnG w B v gs) (hr : rivB fs gs = true) : Riv w u v fs gs := by
  obtain ⟨h1, h2, h3, h4, h5, h6⟩ := rivB_facts hr
  exact ⟨hu.shape, hv.shape, by omega, by omega, fun j hj => by have := (gain_at (h5.2 j hj)).1; omega⟩

/-- The cells of rows of ints that are read at place `k`. -/
theorem ReadsG.at {w : World} {ao : Option Addr} {n c : Nat} {gs : List (List Int)} (h : ReadsG w (.slice ao n c) gs) (hn : gs.length = n) {k : Nat} (hk : k < n) :
    ∃ g o, ao = some ⟨g, o, none⟩ ∧ g < w.heap.size ∧ ∃ ro rc, w.cell? ⟨g, o + k, none⟩ = some (.slice ro (gs.getD k []).length rc) ∧ Reads w (.slice ro (gs.getD k []).length rc) (gs.getD k []) := by
  obtain ⟨ao', c', e, _, hc⟩ := h
  have e1 : ao = ao' := by cases e; rfl
  subst e1
  obtain ⟨g, o, rfl, hg, hcell⟩ := hc (fun e => by rw [e] at hn; simp at hn; omega)
  obtain ⟨u, h1, h2⟩ := hcell k (by omega)
  obtain ⟨ro, rc, rfl, _⟩ := id h2
  exact ⟨g, o, rfl, hg, ro, rc, h1, h2⟩
theorem Reads.at {w : World} {ao : Option Addr} {n c : Nat} {xs : List Int} (h : Reads w (.slice ao n c) xs) (hn : xs.length = n) {k : Nat} (hk : k < n) :
    ∃ g o, ao = some ⟨g, o, none⟩ ∧ g < w.heap.size ∧ ∀ j, j < n → w.cell? ⟨g, o + j, none⟩ = some (.int .i64 (xs.getD j 0)) := by
  obtain ⟨ao', c', e, _, hc⟩ := h
  have e1 : ao = ao' := by cases e; rfl
  subst e1
  obtain ⟨g, o, rfl, hg, hcell⟩ := hc (fun e => by rw [e] at hn; simp at hn; omega)
  exact ⟨g, o, rfl, hg, fun j hj => hcell j (by omega)⟩

theorem made37' {w : World} {u v : Value} {xs : List Int} {xss : List (List Int)} (hf : InRow w u xs) (hg : InRows w v xss) (most : Nat) (hm1 : 1 ≤ most) (hm8 : most ≤ 8) :
    Calls Try.prog 37 #[.agg #[u, v], .int .i64 most] w fun e w' => ∃ uo uc vo vc fs gs n, e = .returned (.tuple #[.slice uo n uc, .slice vo n vc]) ∧ n = gs.length ∧ fs.length = n ∧ 1 ≤ n ∧ n ≤ most ∧ rivB fs gs = true ∧ Riv w' (.slice uo n uc) (.slice vo n vc) fs gs ∧ Below w.heap.size w w' := by
  refine (made37 hf hg most hm1 hm8).mono ?_
  rintro e w1 ⟨u, v, fs, gs, rfl, hu, hv, hr, hl, hb1⟩
  have hriv := riv_of hu hv hr
  obtain ⟨h1, h8, hfl, hfo, hok, _⟩ := rivB_facts hr
  obtain ⟨uo, uc, rfl, _⟩ := hu.shape
  obtain ⟨vo, vc, rfl, _⟩ := hv.shape
  exact ⟨uo, uc, vo, vc, fs, gs, gs.length, by rw [hfl], rfl, hfl, by omega, by omega, hr, by rw [hfl] at hriv; exact hriv, hb1⟩
theorem best22' {w : World} {u v : Value} {fs : List Int} {gs : List (List Int)} {n : Nat} (h : Riv w u v fs gs) (hr : rivB fs gs = true) (hn : n = gs.length) :
    Calls Try.prog 22 #[u, v] w fun e w' => ∃ xo xc, e = .returned (.tuple #[.slice xo n xc, .int .i64 (bestW fs gs), .int .i64 0]) ∧ Reads w' (.slice xo n xc) (bestU fs gs) ∧ Below w.heap.size w w' := by
  refine (best22 h hr).mono ?_
  rintro e w2 ⟨x, rfl, hx, hb2⟩
  obtain ⟨_, _, hfl, _⟩ := rivB_facts hr
  have hxl : (bestU fs gs).length = n := by rw [(bestU_ok hfl).1, hn]
  obtain ⟨xo, xc, rfl, _⟩ := id hx
  exact ⟨xo, xc, by rw [hxl], by rw [hxl] at hx; exact hx, hb2⟩
theorem prices31' {w : World} {u v : Value} {fs : List Int} {gs : List (List Int)} {n : Nat} (h : Riv w u v fs gs) (hr : rivB fs gs = true) (hn : n = gs.length) :
    Calls Try.prog 31 #[u, v] w fun e w' => ∃ xo xc, e = .returned (.tuple #[.slice xo n xc, .int .i64 0]) ∧ Reads w' (.slice xo n xc) (pricesK fs gs n) ∧ Below w.heap.size w w' := by
  refine (prices31 h hr).mono ?_
  rintro e w2 ⟨x, rfl, hx, hb2⟩
  obtain ⟨_, _, hfl, _⟩ := rivB_facts hr
  have hp := hx.shape
  obtain ⟨xo, xc, rfl, _⟩ := hx.shape
  rw [pricesK_len, hfl, ← hn] at hp ⊢
  exact ⟨xo, xc, rfl, hp, hb2⟩
theorem shares30' {w : World} {u v : Value} {fs : List Int} {gs : List (List Int)} {n : Nat} (h : Riv w u v fs gs) (hr : rivB fs gs = true) (hn : n = gs.length) :
    Calls Try.prog 30 #[u, v] w fun e w' => ∃ xo xc, e = .returned (.tuple #[.slice xo n xc, .int .i64 0]) ∧ Reads w' (.slice xo n xc) (sharesK fs gs n) ∧ Below w.heap.size w w' := by
  refine (shares30 h hr).mono ?_
  rintro e w2 ⟨x, rfl, hx, hb2⟩
  obtain ⟨_, _, hfl, _⟩ := rivB_facts hr
  have hp := hx.shape
  obtain ⟨xo, xc, rfl, _⟩ := hx.shape
  rw [sharesK_len, hfl, ← hn] at hp ⊢
  exact ⟨xo, xc, rfl, hp, hb2⟩
theorem pricesK_at (fs : List Int) (gs : List (List Int)) (n j : Nat) (h : j < n) : (pricesK fs gs n).getD j 0 = bestW (grow1 fs j) gs - bestW fs gs := by
  unfold pricesK; simp [List.getD_eq_getElem?_getD, h]
theorem sharesK_at (fs : List Int) (gs : List (List Int)) (n j : Nat) (h : j < n) : (sharesK fs gs n).getD j 0 = sh fs gs (j + 1) - sh fs gs j := by
  unfold sharesK; simp [List.getD_eq_getElem?_getD, h]
end Go.Proofs.Ytccmabckmpelcaa
