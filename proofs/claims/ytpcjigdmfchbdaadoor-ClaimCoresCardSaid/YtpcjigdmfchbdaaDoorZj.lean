import Derived.Test.YtpcjigdmfchbdaaDoorZg
import Derived.BigQuiet
namespace Go.Proofs.YtpcjigdmfchbdaaDoor
open Go.RowKit Go.Shelf Cl

def inB (xs ys : List Int) : Bool := xs.all fun x => ys.any fun y => x == y
theorem any_snoc {ys : List Int} {j : Nat} (h : j < ys.length) (x : Int) : ((ys.take (j + 1)).any fun y => x == y) = (((ys.take j).any fun y => x == y) || x == ys.getD j 0) := by
  rw [List.take_succ_eq_append_getElem h, List.any_append, List.getD_eq_getElem?_getD, List.getElem?_eq_getElem h]; simp
set_option maxRecDepth 100000 in
set_option maxHeartbeats 4000000 in
theorem within44 {w : World} {u v : Value} {xs ys : List Int} (hu : Reads w u xs) (hv : Reads w v ys) (hl : xs.length ≤ 1000000) (hl2 : ys.length ≤ 1000000) :
    Calls Tryd.prog 44 #[u, v] w (BoolEnd w (inB xs ys)) := by
  obtain ⟨ao, c, rfl, _, h1⟩ := hu
  obtain ⟨bo, d, rfl, _, h2⟩ := hv
  obtain ⟨n, hn⟩ : ∃ n, n = xs.length := ⟨_, rfl⟩
  obtain ⟨m, hm⟩ : ∃ n, n = ys.length := ⟨_, rfl⟩
  rw [← hn] at hl ⊢
  rw [← hm] at hl2 ⊢
  have hn' := Lib.hid hn
  have hm' := Lib.hid hm
  have h1' := Lib.hid h1
  have h2' := Lib.hid h2
  clear hn hm h1 h2
  go_enter Tryd.func44, Tryd.ntmps44
  go_wp2
  go_loopw [5] (fun i wr => ∃ k : Nat, k ≤ n ∧ i = .int .i64 k ∧ Hid (∀ j, j < k → (ys.any fun y => xs.getD j 0 == y) = true) ∧ Hid (Below w.heap.size w wr)) (fun i _ => n - (intOf i).toNat)
  case atStart => exact ⟨0, Nat.zero_le _, rfl, Lib.hid (fun j hj => absurd hj (Nat.not_lt_zero j)), Lib.hid (Below.refl _ _)⟩
  case round =>
    obtain ⟨k, hk, rfl, hall, hbk⟩ := hrel
    by_cases hlt : k < n
    · obtain ⟨g, o, rfl, hg0, hc1⟩ := h1'.out (fun e => by have e1 := hn'.out; rw [e] at e1; simp at e1; omega)
      have hcx := hc1 k (by rw [← hn'.out]; exact hlt)
      have hmx := Lib.hid (show xs.getD k 0 ∈ xs from by rw [List.getD_eq_getElem?_getD, List.getElem?_eq_getElem (by rw [← hn'.out]; exact hlt)]; exact List.getElem_mem _)
      obtain ⟨wz, hwz⟩ : ∃ wz, wz = wr := ⟨_, rfl⟩
      subst hwz
      have hki : (k : Int) < n := by omega
      generalize hxq : xs.getD k 0 = x at hcx hmx
      have hxq' := Lib.hid hxq
      have hcx' := Lib.hid hcx
      clear hxq hcx hc1
      go_wp2_with fail
      go_loopw [6, 7] (fun b i wr => ∃ j : Nat, j ≤ m ∧ i = .int .i64 j ∧ b = .bool ((ys.take j).any fun y => x == y) ∧ Hid (Below w.heap.size w wr)) (fun _ i _ => m - (intOf i).toNat)
      case atStart => exact ⟨0, Nat.zero_le _, rfl, rfl, hbk⟩
      case round =>
        obtain ⟨j, hj, rfl, rfl, hb⟩ := hrel
        by_cases hjt : j < m
        · obtain ⟨f, q, rfl, hf0, hc2⟩ := h2'.out (fun e => by have e1 := hm'.out; rw [e] at e1; simp at e1; omega)
          have hjl : j < ys.length := by rw [← hm'.out]; exact hjt
          have hcy := hc2 j hjl
          have hsn := any_snoc hjl x
          have cx := (hb.out.cell (p := ⟨g, o + k, none⟩) hg0).trans hcx'.out
          have cy := (hb.out.cell (p := ⟨f, q + j, none⟩) hf0).trans hcy
          generalize ys.getD j 0 = y at cy hcy hsn
          have hanx := Lib.hid hsn
          have hji : (j : Int) < m := by omega
          have hcx2 := cx
          have hcy2 := cy
          generalize ((ys.take j).any fun y => x == y) = A at hanx ⊢
          clear hsn hcy hc2
          cases A
          · by_cases hxy : x = y
            · have hfin := Lib.hid (show ((ys.take (j + 1)).any fun y => x == y) = true from by rw [hanx.out]; simp [hxy])
              subst hxy
              go_wp2
              go_quiet (fail)
              go_wp2_with fail
              go_roundw
              case rel => exact ⟨j + 1, by omega, by go_num, by rw [hfin.out], Lib.hid (below_drewN hb.out _)⟩
              case measure => simp [intOf]; omega
            · have hfin := Lib.hid (show ((ys.take (j + 1)).any fun y => x == y) = false from by rw [hanx.out]; simp [hxy])
              have ht : (x == y) = false := by simp [hxy]
              go_wp2
              go_quiet (fail)
              go_wp2_with fail
              go_roundw
              case rel => exact ⟨j + 1, by omega, by go_num, by rw [hfin.out], Lib.hid (below_drewN hb.out _)⟩
              case measure => simp [intOf]; omega
          · have hfin := Lib.hid (show ((ys.take (j + 1)).any fun y => x == y) = true from by rw [hanx.out]; rfl)
            go_wp2
            go_quiet (fail)
            go_wp2_with fail
            go_roundw
            case rel => exact ⟨j + 1, by omega, by go_num, by rw [hfin.out], Lib.hid (below_drewN hb.out _)⟩
            case measure => simp [intOf]; omega
        · obtain rfl : j = m := by omega
          have hta : (ys.take j) = ys := List.take_of_length_le (by rw [← hm'.out]; exact Nat.le_refl _)
          rw [hta]
          cases hA : (ys.any fun y => x == y)
          · have hno := Lib.hid (show false = inB xs ys from by
              symm
              unfold inB
              rw [List.all_eq_false]
              exact ⟨x, hmx.out, by rw [hA]; decide⟩)
            clear hA hta
            go_wp2
            go_ret
            exact ⟨ret_b hno.out, hb.out⟩
          · have hall2 := Lib.hid (show ∀ i, i < k + 1 → (ys.any fun y => xs.getD i 0 == y) = true from fun i h => by
              rcases Nat.lt_succ_iff_lt_or_eq.1 h with h | h
              · exact hall.out i h
              · rw [h, hxq'.out]; exact hA)
            clear hA hta
            go_wp2
            go_roundw
            case rel => exact ⟨k + 1, by omega, by go_num, hall2, hb⟩
            case measure => simp [intOf]; omega
    · obtain rfl : k = n := by omega
      have hyes := Lib.hid (show true = inB xs ys from by
        symm
        unfold inB
        rw [List.all_eq_true]
        intro x hx
        obtain ⟨i, hi, rfl⟩ := List.getElem_of_mem hx
        have := hall.out i (by rw [hn'.out]; exact hi)
        rw [List.getD_eq_getElem?_getD, List.getElem?_eq_getElem hi] at this
        simpa using this)
      go_wp2
      go_ret
      exact ⟨ret_b hyes.out, hbk.out⟩
end Go.Proofs.YtpcjigdmfchbdaaDoor
