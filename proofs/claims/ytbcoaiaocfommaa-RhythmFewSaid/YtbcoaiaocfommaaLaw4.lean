import Derived.Test.YtbcoaiaocfommaaO
import Derived.Test.YtbcoaiaocfommaaLaw3
namespace Go.Proofs.Ytbcoaiaocfommaa
open Go.RowKit

/-- `v` reads as the strings `xs`. -/
def ReadsS (w : World) (v : Value) (xs : List (List UInt8)) : Prop := ∃ ao c, v = .slice ao xs.length c ∧ (xs ≠ [] → ∃ g, ao = some ⟨g, 0, none⟩ ∧ g < w.heap.size ∧ ∀ j, j < xs.length → w.cell? ⟨g, j, none⟩ = some (strV (xs.getD j [])))
theorem ReadsS.below {w w' : World} {v : Value} {xs : List (List UInt8)} (h : ReadsS w v xs) (hb : Below w.heap.size w w') : ReadsS w' v xs := by
  obtain ⟨ao, c, rfl, h⟩ := h
  refine ⟨ao, c, rfl, fun hne => ?_⟩
  obtain ⟨g, rfl, hg, hc⟩ := h hne
  exact ⟨g, rfl, Nat.lt_of_lt_of_le hg hb.size, fun j hj => (hb.cell (p := ⟨g, j, none⟩) hg).trans (hc j hj)⟩
theorem Strs.shape {w : World} {B : Nat} {v : Value} {xs : List (List UInt8)} (h : Strs w B v xs) : ReadsS w v xs := by
  have hh := h
  rcases h.2 with ⟨rfl, h0⟩ | ⟨g, cap, cur, rfl, hB, hg, _⟩
  · refine ⟨none, 0, by rw [h0], fun hne => absurd (List.length_eq_zero_iff.1 h0) hne⟩
  · refine ⟨_, cap, rfl, fun _ => ⟨g, rfl, (Array.getElem?_eq_some_iff.1 hg).1, fun j hj => ?_⟩⟩
    rw [hh.cellAt j (by omega)]
    simp [List.getD_eq_getElem?_getD, hj]

theorem words_len (l : List UInt8) : (words l).length ≤ l.length := wordsF_len _ _

set_option maxHeartbeats 1000000 in
set_option maxRecDepth 100000 in
theorem walk4 (x : ByteArray) (w : World) (hx : x.size ≤ maxLen) :
    Calls Try.prog 4 #[.string x] w fun e w' => e = .returned (.bool true) ∧ Below w.heap.size w w' := by
  go_enter Try.func4, Try.ntmps4
  go_wp2_with fail
  refine (cut_any x 200 w hx (by omega) (by omega)).mono ?_
  rintro e w1 ⟨s, hs, rfl, rfl⟩
  have hm : s.size ≤ maxLen := by unfold maxLen; omega
  by_cases hc : chk s = 0
  · have hc1 : (chk s != 0) = false := by simpa using hc
    obtain ⟨h1, h2, _⟩ := chk_size hc
    go_wp2_with fail
    refine (lyndon27 s w hc).mono ?_
    rintro e w1 ⟨v, rfl, hv, hb1⟩
    go_wp2_with fail
    refine (check23 s w1 hm).mono ?_
    rintro e w2 ⟨rfl, rfl⟩
    go_wp2_with fail
    refine (lyndon28 s w1 (by omega)).mono ?_
    rintro e w2 ⟨u, rfl, hu, hb2⟩
    have hwl := words_len s.data.toList
    rw [size_len] at hwl
    have hv' := hv.shape.below hb2
    have hu' := hu.shape
    obtain ⟨ao, c, rfl, hr1⟩ := hv'
    obtain ⟨bo, d, rfl, hr2⟩ := hu'
    obtain ⟨n, hn⟩ : ∃ n, n = (words s.data.toList).length := ⟨_, rfl⟩
    rw [← hn] at hr1 hr2 hwl ⊢
    have hn' := Lib.hid hn
    have hr1' := Lib.hid hr1
    have hr2' := Lib.hid hr2
    clear hn hr1 hr2 hv hu
    have hnn : ((n : Int) != (n : Int)) = false := by simp
    go_wp2_with fail
    refine (lives24 w2).mono ?_
    rintro e w3 ⟨rfl, hb3⟩
    go_wp2_with fail
    have hbb := below_call (below_call hb1 hb2) hb3
    go_loopw [8] (fun i wr => ∃ k : Nat, k ≤ n ∧ i = .int .i64 k ∧ Below w3.heap.size w3 wr) (fun i _ => n - (intOf i).toNat)
    case atStart => exact ⟨0, Nat.zero_le _, rfl, Below.refl _ _⟩
    case round =>
      obtain ⟨k, hk, rfl, hb⟩ := hrel
      by_cases hlt : k < n
      · have hne : words s.data.toList ≠ [] := fun e => by have := hn'.out; rw [e] at this; simp at this; omega
        obtain ⟨g, rfl, hg, hc1⟩ := hr1'.out hne
        obtain ⟨f, rfl, hf, hc2⟩ := hr2'.out hne
        have hs3 := hb3.size
        obtain ⟨x0, hx0⟩ : ∃ x : ByteArray, Value.string x = strV ((words s.data.toList).getD k []) := ⟨_, rfl⟩
        have cc1 : wr.cell? ⟨g, k, none⟩ = some (.string x0) := by rw [hx0]; exact ((hb.cell (p := ⟨g, k, none⟩) (Nat.lt_of_lt_of_le hg hs3)).trans (hb3.cell (p := ⟨g, k, none⟩) hg)).trans (hc1 k hlt)
        have cc2 : wr.cell? ⟨f, k, none⟩ = some (.string x0) := by rw [hx0]; exact ((hb.cell (p := ⟨f, k, none⟩) (Nat.lt_of_lt_of_le hf hs3)).trans (hb3.cell (p := ⟨f, k, none⟩) hf)).trans (hc2 k hlt)
        have hxx : (!x0.toList == x0.toList) = false := by simp
        clear hx0 hc1 hc2 hne
        go_wp2
        go_quiet (fail)
        go_wp2
        go_roundw
        case rel => exact ⟨k + 1, by omega, by go_num, below_drewN hb _⟩
        case measure => simp [intOf]; omega
      · go_wp2
        go_ret
        exact ⟨rfl, below_call hbb hb⟩
  · have hc1 : (chk s != 0) = true := by simpa using hc
    go_wp2_with fail
    refine (lyndon27_bad s w hm hc).mono ?_
    rintro e w1 ⟨v, rfl, hv, hb1⟩
    obtain ⟨ao, c, rfl, _⟩ := hv.shape
    go_wp2_with fail
    refine (check23 s w1 hm).mono ?_
    rintro e w2 ⟨rfl, rfl⟩
    go_wp2_with fail
    refine (lives24 w1).mono ?_
    rintro e w4 ⟨rfl, hb4⟩
    go_wp2_with fail
    go_ret
    exact ⟨rfl, below_call hb1 hb4⟩
end Go.Proofs.Ytbcoaiaocfommaa
