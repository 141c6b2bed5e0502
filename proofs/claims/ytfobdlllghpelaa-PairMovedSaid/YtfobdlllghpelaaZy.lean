import Derived.Test.YtfobdlllghpelaaZx
import Derived.Test.YtfobdlllghpelaaShB
namespace Go.Proofs.Ytfobdlllghpelaa
open Go.RowKit Go.Shelf Pair
attribute [local go_sem] Oper.semAt_some

theorem grow77 {w : World} (n : Nat) (h1 : 1 ≤ n) (hn : n ≤ 1000) :
    Calls Try.prog 77 #[.slice none 0 0, .int .i64 n] w fun e w' => ∃ v, e = .returned v ∧ Ints w' w.heap.size v [] ∧ Below w.heap.size w w' := by
  obtain ⟨i0, hi, hz0, hz1, hz2⟩ := info_parts info3
  refine (Any8.slices_Grow_grow Try.grow i0 (.int .i64 0) hi hz0 (by omega) none 0 0 n [] w (Nat.le_refl _) (by omega) (by rw [hz2]; omega) (by omega) (by simp) (fun _ => rfl) (fun a h => by cases h)).mono ?_
  rintro e w' ⟨rfl, rfl⟩
  have hcm : grownCap w (0 + n) 0 3 ≤ maxLen := grownCap_le_maxLen w (0 + n) 0 3 (by unfold maxLen; omega)
  have hge : 0 + n ≤ grownCap w (0 + n) 0 3 := grownCap_ge w _ _ _
  refine ⟨_, rfl, ?_, (Below.refl w.heap.size w).drew.alloc (Nat.le_refl _) _⟩
  refine World.ownsRow_made (base := w.heap.size) (size := 1) (e := 3) w.drew _ _ (Nat.le_refl _) hcm ?_
  simp only [Array.size_append, Builtin.zeroCells, Array.size_map, Array.size_range, Value.cells, List.size_toArray, List.length_nil, List.length_cons]
  show _ = grownCap w (0 + n) 0 3 * 1
  have : (Try.grow_ren.t 25) = 3 := rfl
  rw [this]
  omega

/-- The costs of the first rows, one after the other. -/
def catT (cs : List (List Int)) (k : Nat) : List Int := (cs.take k).flatten
theorem catT_succ (cs : List (List Int)) (k : Nat) (h : k < cs.length) : catT cs (k + 1) = catT cs k ++ cs.getD k [] := by
  unfold catT
  rw [List.take_succ_eq_append_getElem h, List.flatten_append]
  simp [List.getD_eq_getElem?_getD, h]
theorem catT_len {cs : List (List Int)} {n : Nat} (hl : cs.length = n) (hr : ∀ i, i < n → (cs.getD i []).length = n) : ∀ k, k ≤ n → (catT cs k).length = k * n
  | 0, _ => by simp [catT]
  | k + 1, h => by rw [catT_succ cs k (by omega), List.length_append, catT_len hl hr k (by omega), hr k (by omega), Nat.succ_mul]

set_option maxHeartbeats 2000000 in
set_option maxRecDepth 100000 in
theorem concat50 {w : World} {v : Value} {cs : List (List Int)} {n : Nat} (h : Sq w v cs n) (hn1 : 1 ≤ n) (hn8 : n ≤ 8) :
    Calls Try.prog 50 #[v] w fun e w' => ∃ v', e = .returned v' ∧ Ints w' w.heap.size v' (catT cs n) ∧ Below w.heap.size w w' := by
  obtain ⟨ao, c, rfl⟩ := h.val
  have h' := Lib.hid h
  have hlen := Lib.hid (catT_len h.len h.row)
  have hsn := Lib.hid (fun k (hk : k < n) => catT_succ cs k (by rw [h.len]; exact hk))
  have hrow := Lib.hid h.row
  have hlc := Lib.hid h.len
  have hb8 : n * n ≤ 64 := Nat.mul_le_mul hn8 hn8
  have hn0 : 1 ≤ n * n := Nat.mul_le_mul hn1 hn1
  clear h
  go_enter Try.func50, Try.ntmps50
  go_wp2_with fail
  go_loop [3, 11] (fun sv iv => ∃ k s : Nat, k ≤ n ∧ iv = .int .i64 k ∧ sv = .int .i64 s ∧ s ≤ 8 * k ∧ Hid (s = k * n)) (fun _ iv => n - (intOf iv).toNat)
  case atStart => exact ⟨0, 0, Nat.zero_le _, rfl, rfl, by omega, Lib.hid (by omega)⟩
  case round =>
    obtain ⟨k, s, hk, rfl, rfl, hs, hse⟩ := hrel
    by_cases hkn : k < n
    · obtain ⟨g, o, rfl, hg, g2, o2, rc, c1, hg2, _⟩ := h'.out.at hkn
      have hse2 := Lib.hid (show s + n = (k + 1) * n by rw [hse.out, Nat.succ_mul])
      clear hse
      go_wp2_with fail
      go_round
      case rel => exact ⟨k + 1, s + n, by omega, by go_num, by go_num, by omega, hse2⟩
      case measure => simp [intOf]; omega
    · obtain rfl : n = k := by omega
      have hs1 : s = n * n := hse.out
      have hgr := Lib.hid (fun (w : World) => grow77 (w := w) s (by omega) (by omega))
      clear hse hs1
      go_wp2_with fail
      refine (hgr.out _).mono ?_
      rintro e w1 ⟨v1, rfl, hv1, hb1⟩
      have hv1' := Lib.hid hv1
      have hb1' := Lib.hid hb1
      obtain ⟨a1, d1, rfl, _⟩ := hv1.shape
      clear hv1 hb1 hgr
      go_wp2_with fail
      go_loopw [6, 27] (fun rv iv wr => ∃ k : Nat, k ≤ n ∧ iv = .int .i64 k ∧ Hid (Ints wr w.heap.size rv (catT cs k)) ∧ Hid (Below w.heap.size w wr)) (fun _ iv _ => n - (intOf iv).toNat)
      case atStart => exact ⟨0, Nat.zero_le _, rfl, hv1', hb1'⟩
      case round =>
        obtain ⟨k, hk, rfl, hown, hbw⟩ := hrel
        clear hv1' hb1'
        by_cases hkn : k < n
        · obtain ⟨g, o, rfl, hg, ro, rc, c1, hr⟩ := h'.out.reads.at hlc.out hkn
          rw [hrow.out k hkn] at c1 hr
          have cc := (hbw.out.cell (p := ⟨g, o + k, none⟩) hg).trans c1
          have hr2 := Lib.hid (hr.below hbw.out)
          obtain ⟨ad, l2, c2, e2⟩ := reads_addr hr (hrow.out k hkn) hn1
          have hl9 := Lib.hid (show (catT cs k).length + (cs.getD k []).length ≤ 1000000000 by
            rw [hlen.out k (by omega), hrow.out k hkn]; have := Nat.mul_le_mul (show k ≤ 8 by omega) hn8; omega)
          have hs2 := Lib.hid hbw.out.size
          have hsn2 := Lib.hid (hsn.out k hkn)
          have hor := Lib.hid (show Value.slice ro n rc = .slice none 0 0 ∨ ∃ ad l c, Value.slice ro n rc = .slice (some ad) l c from .inr ⟨_, _, _, e2⟩)
          clear c1 hr e2
          go_wp2_with (first | (at_builtin; refine app_ints hown.out hr2.out hor.out hl9.out hs2.out rfl _ _ rfl rfl rfl ?_; intro v' w2 hown2 hb2))
          go_roundw
          case rel => exact ⟨k + 1, by omega, by go_num, Lib.hid (by rw [hsn2.out]; exact hown2), Lib.hid (hbw.out.trans hb2)⟩
          case measure => simp [intOf]; omega
        · obtain rfl : n = k := by omega
          go_wp2_with fail
          go_ret
          exact ⟨_, rfl, hown.out, hbw.out⟩
end Go.Proofs.Ytfobdlllghpelaa
