import Derived.Test.YtbcoaiaocfommaaLaw4
namespace Go.Proofs.Ytbcoaiaocfommaa
open Go.RowKit

/-- What a round of a search has found so far. -/
def HasPost (w : World) (xs : List (List UInt8)) (y : List UInt8) (e : Ending) (w' : World) : Prop := e = .returned (.bool (xs.contains y)) ∧ w = w'

theorem take_contains {xs : List (List UInt8)} {y : List UInt8} {k : Nat} (hk : k < xs.length) : (xs.take (k + 1)).contains y = ((xs.take k).contains y || (xs.getD k [] == y)) := by
  rw [List.take_succ_eq_append_getElem hk, List.contains_append]
  have e : xs.getD k [] = xs[k] := by simp [List.getD_eq_getElem?_getD, hk]
  rw [e]
  congr 1
  rw [Bool.eq_iff_iff]
  simp only [List.contains_iff_mem, List.mem_singleton, beq_iff_eq]
  exact ⟨fun h => h.symm, fun h => h.symm⟩

set_option maxHeartbeats 1000000 in
set_option maxRecDepth 100000 in
theorem has68 (v : Value) (xs : List (List UInt8)) (y : ByteArray) (w : World) (hv : ReadsS w v xs) (hl : xs.length ≤ 1000000) :
    Calls Try.prog 68 #[v, .string y] w (HasPost w xs y.data.toList) := by
  obtain ⟨ao, c, rfl, hr⟩ := hv
  obtain ⟨n, hn⟩ : ∃ n, n = xs.length := ⟨_, rfl⟩
  rw [← hn] at hr hl ⊢
  have hn' := Lib.hid hn
  have hr' := Lib.hid hr
  clear hn hr
  go_enter Try.func68, Try.ntmps68
  go_wp2_with fail
  go_loop [5] (fun i => ∃ k : Nat, k ≤ n ∧ i = .int .i64 k ∧ Hid ((xs.take k).contains y.data.toList = false)) (fun i => n - (intOf i).toNat)
  case atStart => exact ⟨0, Nat.zero_le _, rfl, Lib.hid (by simp)⟩
  case round =>
    obtain ⟨k, hk, rfl, hno⟩ := hrel
    by_cases hlt : k < n
    · have hne : xs ≠ [] := fun e => by have := hn'.out; rw [e] at this; simp at this; omega
      obtain ⟨g, rfl, hg, hc1⟩ := hr'.out hne
      obtain ⟨x0, hx0⟩ : ∃ x : ByteArray, Value.string x = strV (xs.getD k []) := ⟨_, rfl⟩
      have cc1 : w.cell? ⟨g, k, none⟩ = some (.string x0) := by rw [hx0]; exact hc1 k hlt
      have hx1 : x0.data.toList = xs.getD k [] := by unfold strV at hx0; injection hx0 with h; rw [h]
      have hstep := take_contains (xs := xs) (y := y.data.toList) (k := k) (by rw [← hn'.out]; exact hlt)
      rw [hno.out, Bool.false_or, ← hx1] at hstep
      clear hx0 hc1 hne hx1 hno
      by_cases hxy : x0.data.toList = y.data.toList
      · have hq : (x0.toList == y.toList) = true := by rw [toList_data, toList_data, hxy]; simp
        have hyes := Lib.hid (show xs.contains y.data.toList = true by
          rw [hxy] at hstep
          have h1 : (xs.take (k + 1)).contains y.data.toList = true := by rw [hstep]; simp
          simp only [List.contains_iff_mem] at h1 ⊢
          exact List.mem_of_mem_take h1)
        clear hstep hxy
        go_wp2
        go_ret
        exact ⟨by rw [hyes.out]; rfl, rfl⟩
      · have hq : (x0.toList == y.toList) = false := by rw [toList_data, toList_data]; simpa using hxy
        have hno2 := Lib.hid (show (xs.take (k + 1)).contains y.data.toList = false by rw [hstep]; simpa using hxy)
        clear hstep hxy
        go_wp2
        go_round
        case rel => exact ⟨k + 1, by omega, by go_num, hno2⟩
        case measure => simp [intOf]; omega
    · have hke : k = n := by omega
      have hyes := Lib.hid (show xs.contains y.data.toList = false by
        have := hno.out; rw [List.take_of_length_le (by rw [← hn'.out]; omega)] at this; exact this)
      clear hke hno
      go_wp2
      go_ret
      exact ⟨by rw [hyes.out]; rfl, rfl⟩
end Go.Proofs.Ytbcoaiaocfommaa
