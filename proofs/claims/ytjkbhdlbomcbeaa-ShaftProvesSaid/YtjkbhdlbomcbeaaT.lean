import Derived.Test.YtjkbhdlbomcbeaaS
namespace Go.Proofs.Ytjkbhdlbomcbeaa
open Go.RowKit Shf

/-- The least number below `N` at which a test holds; `N` if it holds at none. -/
def Least (p : Nat → Bool) (N m : Nat) : Prop := m ≤ N ∧ (∀ i, i < m → p i = false) ∧ (m < N → p m = true)
def Srchd (p : Nat → Bool) (N : Nat) (w : World) (e : Ending) (w' : World) : Prop := ∃ m : Nat, e = .returned (.int .i64 (m : Int)) ∧ Least p N m ∧ Below w.heap.size w w'

set_option maxHeartbeats 2000000 in
set_option maxRecDepth 100000 in
theorem search59 {w : World} {N : Nat} (hN : N ≤ 1000000) (kf : FuncId) (cap : Array Value) (eg : ∀ args w, (callFunc kf args).run Try.prog w = .ok (.enter kf args) w) (p : Nat → Bool) (hp : ∀ a b, a ≤ b → p a = true → p b = true)
    (hcall : ∀ (W : World) (m : Nat), Below w.heap.size w W → m < N → Calls Try.prog kf (#[.int .i64 m] ++ cap) W fun e W' => e = .returned (.bool (p m)) ∧ Below W.heap.size W W') :
    Calls Try.prog 59 #[.int .i64 N, .func (.func kf) #[] cap] w (Srchd p N w) := by
  have hcall' := Lib.hid hcall
  have hp' := Lib.hid hp
  clear hcall hp
  go_enter Try.func59, Try.ntmps59
  go_wp2
  go_loopw [5, 6] (fun iv jv wr => ∃ (i j : Nat), i ≤ j ∧ j ≤ N ∧ iv = .int .i64 i ∧ jv = .int .i64 j ∧ Hid (∀ x, x < i → p x = false) ∧ Hid (j < N → p j = true) ∧ Hid (Below w.heap.size w wr)) (fun iv jv _ => (intOf jv - intOf iv).toNat)
  case atStart => exact ⟨0, N, Nat.zero_le _, Nat.le_refl _, rfl, rfl, Lib.hid (fun x h => by omega), Lib.hid (fun h => by omega), Lib.hid (Below.refl _ _)⟩
  case round =>
    obtain ⟨i, j, hij, hjN, rfl, rfl, h1, h2, hb⟩ := hrel
    obtain ⟨wo, rfl⟩ : ∃ wo : World, wo = wr := ⟨_, rfl⟩
    by_cases hlt : i < j
    · obtain ⟨h, hh⟩ : ∃ h : Nat, h = (i + j) / 2 := ⟨_, rfl⟩
      have hh2 : ((i : Int) + (j : Int)) / 2 = (h : Int) := by omega
      have hi1 : i ≤ h := by omega
      have hi2 : h < j := by omega
      have hcl := Lib.hid (hcall'.out wo h hb.out (by omega))
      clear hh
      obtain ⟨d, hd⟩ : ∃ d, d = p h := ⟨_, rfl⟩
      rw [← hd] at hcl
      have hd' := Lib.hid hd
      clear hd
      cases d
      · go_wp2_with (first | (refine (hcl.out).mono ?_; rintro e w1 ⟨rfl, hb1⟩))
        go_roundw
        case rel => exact ⟨h + 1, j, by omega, hjN, by go_num, rfl, Lib.hid (fun x hx => by
          cases e : p x with
          | false => rfl
          | true => have := hp'.out x h (by omega) e; rw [← hd'.out] at this; exact absurd this (by decide)), h2, Lib.hid (below_call hb.out hb1)⟩
        case measure => simp [intOf]; omega
      · go_wp2_with (first | (refine (hcl.out).mono ?_; rintro e w1 ⟨rfl, hb1⟩))
        go_roundw
        case rel => exact ⟨i, h, by omega, by omega, rfl, rfl, h1, Lib.hid (fun _ => hd'.out.symm), Lib.hid (below_call hb.out hb1)⟩
        case measure => simp [intOf]; omega
    · obtain rfl : i = j := by omega
      go_wp2
      go_ret
      exact ⟨i, rfl, ⟨hjN, h1.out, h2.out⟩, hb.out⟩

end Go.Proofs.Ytjkbhdlbomcbeaa
