import Derived.Test.YtjkbhdlbomcbeaaL
namespace Go.Proofs.Ytjkbhdlbomcbeaa
open Go.RowKit Shf

def nextO (E : Nat → Int) (u : Nat) (o : Nat × Nat) : Bool := !(decide (o.2 = u) && decide (E o.1 = 0))
theorem osI_at {s : Sh} {j : Nat} : (osI s).getD j (0, 0) = (((s.os.getD j (0, 0)).1 : Int), ((s.os.getD j (0, 0)).2 : Int)) := by
  unfold osI
  rw [List.getD_eq_getElem?_getD, List.getElem?_map, List.getD_eq_getElem?_getD]
  cases s.os[j]? <;> rfl
theorem osI_len (s : Sh) : (osI s).length = s.os.length := by simp [osI]
def NextEnd (w0 w : World) (b ge c : Nat) (jv ov : Value) (s : Sh) (U E : Nat → Int) (v : Bool) (e : Ending) (w' : World) : Prop := e = .returned (.bool v) ∧ Lay w0 w' b ge c jv ov s U E ∧ Below w.heap.size w w'
set_option maxHeartbeats 4000000 in
set_option maxRecDepth 100000 in
theorem isNext74 {w0 w : World} {b ge c : Nat} {jv ov : Value} {s : Sh} {U E : Nat → Int} (h : Lay w0 w b ge c jv ov s U E) (u : Nat) (h20 : s.os.length ≤ 20) (hos : ∀ j, j < s.os.length → (s.os.getD j (0, 0)).1 < s.n) :
    Calls Try.prog 74 #[.pointer (some ⟨b, 0, none⟩), .int .i64 u] w (NextEnd w0 w b ge c jv ov s U E (s.os.all (nextO E u))) := by
  obtain ⟨oa, oc, rfl, hoc, hoat⟩ := h.ro.at
  obtain ⟨m, hm⟩ : ∃ m, m = s.os.length := ⟨_, rfl⟩
  rw [osI_len, ← hm] at h hoc hoat ⊢
  have hm' := Lib.hid hm
  have h' := Lib.hid h
  have hoat' := Lib.hid hoat
  have hos' := Lib.hid hos
  rw [← hm] at h20
  obtain ⟨r, hr⟩ : ∃ r, r = s.os.all (nextO E u) := ⟨_, rfl⟩
  rw [← hr]
  have hr' := Lib.hid hr
  have hn7 := Lib.hid h.hc
  have y2 := h.h2
  clear h hm hoat hos hr
  go_enter Try.func74, Try.ntmps74
  go_wp2_with fail
  go_loopw [13] (fun iv wr => ∃ j : Nat, j ≤ m ∧ iv = .int .i64 j ∧ Hid ((s.os.take j).all (nextO E u) = true) ∧ Hid (Lay w0 wr b ge c jv (.slice oa m oc) s U E) ∧ Hid (Below w.heap.size w wr)) (fun iv _ => m - (intOf iv).toNat)
  case atStart => exact ⟨0, Nat.zero_le _, rfl, Lib.hid rfl, h', Lib.hid (Below.refl _ _)⟩
  case round =>
    clear y2
    obtain ⟨j, hj, rfl, hall, hL, hbw⟩ := hrel
    by_cases hjm : j < m
    · obtain ⟨g, rfl, hg, c0, c1⟩ := hoat'.out j hjm
      have d0 := (hL.out.below.cell (p := ⟨g, j * 2, none⟩) hg).trans c0
      have d1 := (hL.out.below.cell (p := ⟨g, j * 2 + 1, none⟩) hg).trans c1
      rw [osI_at] at d0 d1
      have hon := hos'.out j (by rw [← hm'.out]; exact hjm)
      obtain ⟨⟨p, q⟩, hpq⟩ : ∃ o, o = s.os.getD j (0, 0) := ⟨_, rfl⟩
      rw [← hpq] at d0 d1 hon
      simp only at d0 d1 hon
      have hpq' := Lib.hid hpq
      have hnx := Lib.hid (fun (h : nextO E u (p, q) = true) => (show (s.os.take (j + 1)).all (nextO E u) = true from by
        rw [List.take_succ_eq_append_getElem (by rw [← hm'.out]; exact hjm), List.all_append, hall.out]
        have := hpq'.out
        rw [List.getD_eq_getElem?_getD, List.getElem?_eq_getElem (by rw [← hm'.out]; exact hjm)] at this
        simp only [Option.getD_some] at this
        rw [← this]; simp [h]))
      have hno := Lib.hid (fun (h : nextO E u (p, q) = false) => (show r = false from by
        rw [hr'.out, List.all_eq_false]
        have := hpq'.out
        rw [List.getD_eq_getElem?_getD, List.getElem?_eq_getElem (by rw [← hm'.out]; exact hjm)] at this
        simp only [Option.getD_some] at this
        exact ⟨_, List.getElem_mem (by rw [← hm'.out]; exact hjm), by rw [← this, h]; simp⟩))
      have hL2 := Lib.hid (hL.out.keep (below_alloc1 wr (.cells #[.int .i64 p, .int .i64 q] 78)))
      have hb2 := Lib.hid (below_call hbw.out (below_alloc1 wr (.cells #[.int .i64 p, .int .i64 q] 78)))
      have x3 := hL2.out.h3
      have e1 := hL2.out.ends p hon
      clear c0 c1 hpq hall
      have hpn : (p : Int) < (s.n : Int) := by omega
      by_cases hq : q = u
      · subst hq
        by_cases he : E p = 0
        · have hf := hno.out (by simp [nextO, he])
          subst hf
          rw [he] at e1
          clear hno hnx
          go_wp2_with fail
          go_quiet (fail)
          go_wp2_with fail
          go_ret
          exact ⟨rfl, hL2.out.keep (below_drewN (Below.refl _ _) _), below_drewN hb2.out _⟩
        · have hd : decide (E p = 0) = false := by simpa using he
          have hok := Lib.hid (hnx.out (by simp [nextO, he]))
          clear hno hnx
          go_wp2_with fail
          go_quiet (fail)
          go_wp2_with fail
          go_roundw
          case rel => exact ⟨j + 1, by omega, by go_num, hok, Lib.hid (hL2.out.keep (below_drewN (Below.refl _ _) _)), Lib.hid (below_drewN hb2.out _)⟩
          case measure => simp [intOf]; omega
      · have hd : ((q : Int) == (u : Int)) = false := by simp; omega
        have hok := Lib.hid (hnx.out (by simp [nextO, hq]))
        clear hno hnx
        go_wp2_with fail
        go_quiet (fail)
        go_wp2_with fail
        go_roundw
        case rel => exact ⟨j + 1, by omega, by go_num, hok, Lib.hid (hL2.out.keep (below_drewN (Below.refl _ _) _)), Lib.hid (below_drewN hb2.out _)⟩
        case measure => simp [intOf]; omega
    · obtain rfl : j = m := by omega
      obtain rfl : r = true := by rw [hr'.out]; have := hall.out; rwa [List.take_of_length_le (by rw [← hm'.out]; omega)] at this
      go_wp2_with fail
      go_ret
      exact ⟨rfl, hL.out, hbw.out⟩
end Go.Proofs.Ytjkbhdlbomcbeaa
