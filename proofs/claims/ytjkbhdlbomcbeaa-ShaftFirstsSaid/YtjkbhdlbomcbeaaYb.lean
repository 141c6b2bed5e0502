import Derived.Test.YtjkbhdlbomcbeaaXm
import Derived.Test.YtjkbhdlbomcbeaaXc
import Derived.Deep.RegionHeld3
import Derived.Deep.Cut
import Derived.Deep.CutRange
namespace Go.Proofs.Ytjkbhdlbomcbeaa
open Go.RowKit Go.Shelf Shf

/-- The greatest of a list. -/
def MaxIs (xs : List Int) (m : Int) : Prop := (∀ i, i < xs.length → xs.getD i 0 ≤ m) ∧ ∃ i, i < xs.length ∧ xs.getD i 0 = m
def MaxEnd (w : World) (xs : List Int) (e : Ending) (w' : World) : Prop := ∃ m, e = .returned (.int .i64 m) ∧ MaxIs xs m ∧ w = w'
set_option maxHeartbeats 2000000 in
set_option maxRecDepth 100000 in
theorem max39 {w : World} {u : Value} {xs : List Int} (hx : Reads w u xs) (hl : xs.length ≤ 1000000) (h0 : 0 < xs.length) : Calls Try.prog 39 #[u] w (MaxEnd w xs) := by
  obtain ⟨xa, xc, rfl, hxc⟩ := hx.len
  obtain ⟨n, hn⟩ : ∃ n, n = xs.length := ⟨_, rfl⟩
  have hat := Lib.hid (fun (k : Nat) (hk : k < n) => (show ∃ g o, xa = some ⟨g, o, none⟩ ∧ w.cell? ⟨g, o + k, none⟩ = some (.int .i64 (xs.getD k 0)) from by
    obtain ⟨g, o, e, hg, h⟩ := hx.at rfl (k := k) (by rw [← hn]; exact hk)
    exact ⟨g, o, e, h k (by rw [← hn]; exact hk)⟩))
  rw [← hn] at hxc hl h0 ⊢
  have hn' := Lib.hid hn
  clear hn hx
  obtain ⟨g, o, rfl, c0⟩ := hat.out 0 h0
  rw [Nat.add_zero] at c0
  obtain ⟨x0, hx0⟩ : ∃ x, x = xs.getD 0 0 := ⟨_, rfl⟩
  rw [← hx0] at c0
  have hx0' := Lib.hid hx0
  have h0I : (0 : Int) < (n : Int) := by omega
  clear hx0
  go_enter Try.func39, Try.ntmps39
  go_wp2_with fail
  go_loop [3, 4] (fun mv iv => ∃ k : Nat, ∃ m : Int, 1 ≤ k ∧ k ≤ n ∧ iv = .int .i64 k ∧ mv = .int .i64 m ∧ Hid ((∀ i, i < k → xs.getD i 0 ≤ m) ∧ ∃ i, i < k ∧ xs.getD i 0 = m)) (fun _ iv => n - (intOf iv).toNat)
  case atStart => exact ⟨1, x0, by omega, by omega, rfl, rfl, Lib.hid ⟨fun i hi => by rw [show i = 0 by omega, hx0'.out]; exact Int.le_refl _, 0, by omega, hx0'.out.symm⟩⟩
  case round =>
    obtain ⟨k, m, hk1, hk, rfl, rfl, hm⟩ := hrel
    by_cases hkn : k < n
    · obtain ⟨g', o', e', c⟩ := hat.out k hkn
      obtain ⟨rfl, rfl⟩ : g = g' ∧ o = o' := by injection e' with e'; injection e' with a b; exact ⟨a, b⟩
      obtain ⟨x, hx⟩ : ∃ x, x = xs.getD k 0 := ⟨_, rfl⟩
      rw [← hx] at c
      have hx' := Lib.hid hx
      have hkI : (k : Int) < (n : Int) := by omega
      have hmx := Lib.hid (show ∀ y, y = max m x → ((∀ i, i < k + 1 → xs.getD i 0 ≤ y) ∧ ∃ i, i < k + 1 ∧ xs.getD i 0 = y) from fun y hy => by
        obtain ⟨h1, j, hj, h2⟩ := hm.out
        refine ⟨fun i hi => ?_, ?_⟩
        · by_cases e : i = k
          · rw [e, ← hx'.out]; omega
          · have := h1 i (by omega); omega
        · by_cases c : m < x
          · exact ⟨k, by omega, by rw [← hx'.out]; omega⟩
          · exact ⟨j, by omega, by rw [h2]; omega⟩)
      clear e' hx
      by_cases hc : m < x
      · have hr := Lib.hid (hmx.out x (by omega))
        go_wp2
        go_round
        case rel => exact ⟨k + 1, x, by omega, by omega, by go_num, rfl, hr⟩
        case measure => simp [intOf]; omega
      · have hr := Lib.hid (hmx.out m (by omega))
        go_wp2
        go_round
        case rel => exact ⟨k + 1, m, by omega, by omega, by go_num, rfl, hr⟩
        case measure => simp [intOf]; omega
    · obtain rfl : k = n := by omega
      go_wp2
      go_ret
      refine ⟨m, rfl, ?_, rfl⟩
      have h := hm.out
      rw [hn'.out] at h
      exact h
end Go.Proofs.Ytjkbhdlbomcbeaa
