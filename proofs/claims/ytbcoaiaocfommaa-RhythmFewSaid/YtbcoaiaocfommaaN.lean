import Derived.Test.YtbcoaiaocfommaaI
import Derived.OpenShut
namespace Go.Proofs.Ytbcoaiaocfommaa
open Go.RowKit

/-- What is known of a slice of numbers that came in: nil, or a row of `cap` cells, the numbers `zs`, each fitting its kind. -/
def IsRow (k : IntKind) (w : World) (a : Option Addr) (len cap : Nat) (zs : List Int) : Prop :=
  (a = none ∧ len = 0 ∧ cap = 0 ∧ zs = []) ∨
  ∃ x, a = some x ∧ len ≤ cap ∧ cap ≤ maxLen ∧ zs.length = cap ∧ (∀ i, i < zs.length → w.cell? (x.add i) = some (.int k (zs.getD i 0))) ∧ ∀ n ∈ zs, (Lit.int k n).wf = true

/-- What `made` returns: a rhythm of at most `most` letters. -/
def MadeR1 (most : Nat) (w : World) (e : Ending) (w' : World) : Prop := ∃ s : ByteArray, e = .returned (.string s) ∧ 1 ≤ s.size ∧ s.size ≤ most ∧ goodL s.data.toList = true ∧ Below w.heap.size w w'

/-- In a world: the bytes at the places. -/
theorem IsRow.at {w : World} {a : Option Addr} {len cap : Nat} {zs : List Int} (h : IsRow .u8 w a len cap zs) (h0 : 0 < len) :
    ∃ b off, a = some ⟨b, off, none⟩ ∧ b < w.heap.size ∧ len ≤ 9223372036854775807 ∧ ∀ i, i < len → w.cell? ⟨b, off + i, none⟩ = some (.int .u8 (zs.getD i 0)) ∧ 0 ≤ zs.getD i 0 ∧ zs.getD i 0 ≤ 255 := by
  rcases h with ⟨_, h1, _⟩ | ⟨x, rfl, hl, hm, hz, hc, hw⟩
  · omega
  · obtain ⟨b, off, spot⟩ := x
    have c0 := hc 0 (by omega)
    have hs : spot = none := by simpa [Addr.add] using World.cell?_spot c0
    subst hs
    unfold maxLen at hm
    refine ⟨b, off, rfl, ?_, by omega, fun i hi => ?_⟩
    · have := World.block_lt_of_cell? w _ c0
      simpa [Addr.add] using this
    · have ci := hc i (by omega)
      have e : (⟨b, off, none⟩ : Addr).add i = ⟨b, off + i, none⟩ := by simp [Addr.add]
      rw [e] at ci
      refine ⟨ci, ?_⟩
      have hmem : zs.getD i 0 ∈ zs := by
        rw [List.getD_eq_getElem?_getD, List.getElem?_eq_getElem (show i < zs.length by omega)]
        exact List.getElem_mem _
      exact bounds_u8 (hw _ hmem)

theorem good_push (s : ByteArray) (c : UInt8) (h : goodL s.data.toList = true) (hc : okc c = true) : goodL (s ++ ⟨#[c]⟩).data.toList = true := by
  have : (s ++ ⟨#[c]⟩).data.toList = s.data.toList ++ [c] := by simp [ByteArray.data_append]
  rw [this, good_snoc, h, hc]; rfl

theorem abcd_cut (r : Nat) (hr : r < 4) : ∃ c : UInt8, (⟨#[97, 98, 99, 100]⟩ : ByteArray).extract r (r + 1) = ⟨#[c]⟩ ∧ okc c = true := by
  rcases (show r = 0 ∨ r = 1 ∨ r = 2 ∨ r = 3 by omega) with rfl | rfl | rfl | rfl
  · exact ⟨97, by decide, by decide⟩
  · exact ⟨98, by decide, by decide⟩
  · exact ⟨99, by decide, by decide⟩
  · exact ⟨100, by decide, by decide⟩

set_option maxHeartbeats 1000000 in
set_option maxRecDepth 100000 in
theorem made49 (a : Option Addr) (len cap : Nat) (zs : List Int) (most : Nat) (w : World) (h : IsRow .u8 w a len cap zs) (hm1 : 1 ≤ most) (hm : most ≤ 200) :
    Calls Try.prog 49 #[.slice a len cap, .int .i64 most] w (MadeR1 most w) := by
  have hrow := Lib.hid (fun h0 => h.at h0)
  have hlen : len ≤ 9223372036854775807 := by
    rcases h with ⟨_, h1, _⟩ | ⟨x, rfl, hl, hm, _⟩
    · omega
    · unfold maxLen at hm; omega
  clear h
  go_enter Try.func49, Try.ntmps49
  go_wp2_with fail
  go_loopw [5, 6] (fun sv i wr => ∃ (s : ByteArray) (k : Nat), k ≤ len ∧ k ≤ most ∧ i = .int .i64 k ∧ sv = .string s ∧ Hid (s.size = k) ∧ s.size ≤ k ∧ Hid (goodL s.data.toList = true) ∧ Below w.heap.size w wr) (fun _ i _ => most - (intOf i).toNat)
  case atStart => exact ⟨⟨#[]⟩, 0, by omega, by omega, rfl, rfl, rfl, Nat.le_refl _, rfl, Below.refl _ _⟩
  case round =>
    obtain ⟨s, k, hk1, hk2, rfl, rfl, hsz, hsz2, hg, hb⟩ := hrel
    by_cases hgo : k < len ∧ k < most
    · obtain ⟨hkl, hkm⟩ := hgo
      have hd1 : decide (k < len) = true := by simpa using hkl
      have hd2 : decide (k < most) = true := by simpa using hkm
      obtain ⟨b, off, rfl, hbl, _, hcells⟩ := hrow.out (by omega)
      obtain ⟨hc, hx0, hx1⟩ := hcells k hkl
      clear hcells
      have hc2 : wr.cell? ⟨b, off + k, none⟩ = some (.int .u8 (zs.getD k 0)) := (hb.cell (p := ⟨b, off + k, none⟩) hbl).trans hc
      clear hc
      obtain ⟨x, hx⟩ : ∃ x, x = zs.getD k 0 := ⟨_, rfl⟩
      rw [← hx] at hc2 hx0 hx1
      clear hx
      obtain ⟨y, rfl⟩ : ∃ y : Nat, x = y := ⟨x.toNat, by omega⟩
      have hr4 : y % 4 < 4 := by omega
      obtain ⟨c, hcut, hok⟩ := abcd_cut (y % 4) hr4
      have e1 : IntKind.u8.wrap ((y : Int) % 4 + 1) = (y : Int) % 4 + 1 := IntWalk.u8_in _ (by omega)
      have e2 : ((y : Int) % 4 + 1).toNat = y % 4 + 1 := by omega
      have e3 : ((y : Int) % 4).toNat = y % 4 := by omega
      have e4 : 0 ≤ (y : Int) % 4 := by omega
      have e5 : (y : Int) % 4 ≤ 3 := by omega
      have e6 : (y : Int) % 4 + 1 ≤ 4 := by omega
      have hcut' := Lib.hid hcut
      have hok' := Lib.hid hok
      clear hcut hok
      go_wp2
      go_quiet (fail)
      have hs1 := Lib.hid (show (s ++ ⟨#[c]⟩).size = k + 1 by rw [ByteArray.size_append, hsz.out]; rfl)
      go_wp2
      go_roundw
      case rel =>
        rw [hcut'.out]
        exact ⟨s ++ ⟨#[c]⟩, k + 1, by omega, by omega, by go_num, rfl, hs1, by rw [hs1.out]; exact Nat.le_refl _, Lib.hid (good_push s c hg.out hok'.out), below_drewN hb _⟩
      case measure => simp [intOf]; omega
    · have hend : len ≤ k ∨ most ≤ k := by omega
      clear hgo
      have hem := Lib.hid (empty_iff s)
      by_cases h0 : k = 0
      · have he : s.toList.isEmpty = true := by rw [hem.out, hsz.out]; simp [h0]
        clear h0
        rcases hend with h1 | h1
        · have hd1 : decide (k < len) = false := by simp; omega
          go_wp2
          go_ret
          exact ⟨⟨#[97]⟩, rfl, by decide, hm1, by decide, hb⟩
        · have hd2 : decide (k < most) = false := by simp; omega
          by_cases h3 : k < len
          · have hd1 : decide (k < len) = true := by simpa using h3
            go_wp2
            go_ret
            exact ⟨⟨#[97]⟩, rfl, by decide, hm1, by decide, hb⟩
          · have hd1 : decide (k < len) = false := by simpa using h3
            go_wp2
            go_ret
            exact ⟨⟨#[97]⟩, rfl, by decide, hm1, by decide, hb⟩
      · have he : s.toList.isEmpty = false := by rw [hem.out, hsz.out]; simp [h0]
        have h0' := Lib.hid h0
        clear h0
        rcases hend with h1 | h1
        · have hd1 : decide (k < len) = false := by simp; omega
          go_wp2
          go_ret
          exact ⟨s, rfl, by have := hsz.out; have := h0'.out; omega, by omega, hg.out, hb⟩
        · have hd2 : decide (k < most) = false := by simp; omega
          by_cases h3 : k < len
          · have hd1 : decide (k < len) = true := by simpa using h3
            go_wp2
            go_ret
            exact ⟨s, rfl, by have := hsz.out; have := h0'.out; omega, by omega, hg.out, hb⟩
          · have hd1 : decide (k < len) = false := by simpa using h3
            go_wp2
            go_ret
            exact ⟨s, rfl, by have := hsz.out; have := h0'.out; omega, by omega, hg.out, hb⟩

theorem chk_of {s : ByteArray} (h1 : 1 ≤ s.size) (h2 : s.size ≤ 200) (hg : goodL s.data.toList = true) : chk s = 0 := by
  unfold chk; rw [if_neg (by omega), if_neg (by omega), if_pos hg]
end Go.Proofs.Ytbcoaiaocfommaa
