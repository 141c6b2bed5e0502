import Derived.Test.YtbcoaiaocfommaaW
import Derived.Test.YtbcoaiaocfommaaLaw14
namespace Go.Proofs.Ytbcoaiaocfommaa
open Go.RowKit

theorem pts_take (s n c k : Nat) (h : k ≤ c) : (pts s n c).take k = pts s n k := by
  unfold pts
  rw [← List.map_take, List.take_range, Nat.min_eq_left h]
theorem pts_get (s n c k : Nat) (h : k < c) : (pts s n c).getD k 0 = ((pt s n k : Nat) : Int) := by
  unfold pts
  rw [List.getD_eq_getElem?_getD, List.getElem?_map, List.getElem?_range h]; rfl
theorem nodup_le {s n c k : Nat} (h : k ≤ c) (hn : (pts s n c).Nodup) : (pts s n k).Nodup := by
  rw [← pts_take s n c k h]; exact List.Sublist.nodup (List.take_sublist _ _) hn
theorem nodup_snoc {s n k : Nat} (h1 : (pts s n k).Nodup) (h2 : (pts s n k).contains ((pt s n k : Nat) : Int) = false) : (pts s n (k + 1)).Nodup := by
  rw [pts_snoc, List.nodup_append]
  refine ⟨h1, by simp, fun a ha b hb e => ?_⟩
  rw [List.mem_singleton] at hb
  subst hb; subst e
  rw [← List.contains_iff_mem, h2] at ha
  simp at ha
theorem dup_snoc {s n c k : Nat} (hk : k < c) (h2 : (pts s n k).contains ((pt s n k : Nat) : Int) = true) : ¬ (pts s n c).Nodup := by
  intro hn
  have := nodup_le (k := k + 1) (by omega) hn
  rw [pts_snoc, List.nodup_append] at this
  exact this.2.2 _ (List.contains_iff_mem.1 h2) _ (List.mem_singleton.2 rfl) rfl

/-- What the reference's scan has gathered up to k. -/
def scan (s n c : Nat) : Nat → List Int × Nat
  | 0 => ([], 0)
  | k + 1 => if k + 1 = n ∨ ((k + 1 : Nat) : Int) ∈ pts s n c then ((scan s n c k).1 ++ [((k + 1 : Nat) : Int) - ((scan s n c k).2 : Int)], k + 1) else scan s n c k
theorem scan_yes {s n c k : Nat} (h : k + 1 = n ∨ ((k + 1 : Nat) : Int) ∈ pts s n c) : scan s n c (k + 1) = ((scan s n c k).1 ++ [(k : Int) + 1 - ((scan s n c k).2 : Int)], k + 1) := by rw [scan, if_pos h]; rfl
theorem scan_no {s n c k : Nat} (h : ¬ (k + 1 = n ∨ ((k + 1 : Nat) : Int) ∈ pts s n c)) : scan s n c (k + 1) = scan s n c k := by rw [scan, if_neg h]
theorem scan_bd (s n c : Nat) : ∀ k, (scan s n c k).1.length ≤ k ∧ (scan s n c k).2 ≤ k := by
  intro k
  induction k with
  | zero => exact ⟨Nat.le_refl _, Nat.le_refl _⟩
  | succ k ih =>
    unfold scan
    split
    · refine ⟨?_, Nat.le_refl _⟩
      show ((scan s n c k).1 ++ [_]).length ≤ k + 1
      rw [List.length_append, List.length_singleton]; omega
    · omega

set_option maxHeartbeats 4000000 in
set_option maxRecDepth 100000 in
theorem gaps48 (s c n : Nat) (w : World) (hn1 : 1 ≤ n) (hn2 : n ≤ 1000) (hs : s < n) (hc1 : 1 ≤ c) (hc2 : c ≤ n) (R : Ending → World → Prop)
    (hR1 : (pts s n c).Nodup → ∀ v w', Ints w' w.heap.size v (scan s n c n).1 → Below w.heap.size w w' → R (.returned (.tuple #[v, .bool true])) w')
    (hR2 : ¬ (pts s n c).Nodup → ∀ w', Below w.heap.size w w' → R (.returned (.tuple #[.slice none 0 0, .bool false])) w') :
    Calls Try.prog 48 #[.int .i64 s, .int .i64 c, .int .i64 n] w R := by
  obtain ⟨i0, hi, hz0, hz1, hz2⟩ := info_parts info4
  have hR1' := Lib.hid hR1
  have hR2' := Lib.hid hR2
  clear hR1 hR2
  obtain ⟨xs, hxs⟩ : ∃ xs, xs = pts s n c := ⟨_, rfl⟩
  have hxs' := Lib.hid hxs
  clear hxs
  go_enter Try.func48, Try.ntmps48
  go_wp2_with (first | (at_make; refine wpList_make_full _ rfl _ _ 60 rfl w.heap.size 4 i0 (.bool false) 1 Try.underlying60 hi hz0 hz1 .i64 .i64 _ _ n rfl rfl rfl rfl (by rw [hz2]; omega) (by unfold maxLen; omega) (Nat.le_refl _) ?_; intro w1 hown hgr))
  have hb1 : Below w.heap.size w w1 := (Below.refl _ _).grown hgr (Nat.le_refl _) (fun k hk => by simp at hk)
  rw [bool_mk _ xs] at hown
  obtain ⟨g, hg⟩ : ∃ g, g = w.heap.size := ⟨_, rfl⟩
  rw [← hg] at hown ⊢
  have hg' := Lib.hid hg
  have hgB : w.heap.size ≤ g := by omega
  clear hgr hg
  go_loopw [9] (fun i wr => ∃ k : Nat, k ≤ c ∧ i = .int .i64 (k : Int) ∧ Hid ((pts s n k).Nodup) ∧ wr.ownsRow g 4 1 (.slice (some ⟨g, 0, none⟩) n n) n (marks n xs k) ∧ Below w.heap.size w wr) (fun i _ => c - (intOf i).toNat)
  case atStart => exact ⟨0, by omega, rfl, Lib.hid (by simp [pts]), hown, hb1⟩
  case round =>
    obtain ⟨k, hk, rfl, hnd, ho, hb⟩ := hrel
    by_cases hlt : k < c
    · have hmul : k * s ≤ 1000 * 1000 := Nat.mul_le_mul (by omega) (by omega)
      have hm1 : 0 ≤ (k : Int) * (s : Int) := by rw [← Int.natCast_mul]; omega
      have hm2 : (k : Int) * (s : Int) ≤ 1000000 := by rw [← Int.natCast_mul]; omega
      have hpl : pt s n k < n := by unfold pt; exact Nat.mod_lt _ (by omega)
      obtain ⟨y, hy⟩ : ∃ y, y = pt s n k := ⟨_, rfl⟩
      have hmod : (k : Int) * (s : Int) % (n : Int) = (y : Int) := by rw [hy]; unfold pt; rw [← Int.natCast_mul, Int.natCast_emod]
      rw [← hy] at hpl
      have hpos : (0 : Int) < n := by omega
      have hpos1 : (1 : Int) ≤ n := by omega
      obtain ⟨bv, hbv⟩ : ∃ bv, bv = (pts s n k).contains (y : Int) := ⟨_, rfl⟩
      have c1 : wr.cell? ⟨g, y, none⟩ = some (.bool bv) := by
        rw [ho.cellAt y (by omega), marks_get _ _ _ _ hpl, hbv, hxs'.out, pts_take _ _ _ _ hk]
      have c2 : wr.frozen? ⟨g, y, none⟩ = false := ho.frozenAt y
      have hset := Lib.hid (marks_set n xs k y (by rw [hxs'.out, pts_len]; exact hlt) (by rw [hxs'.out, pts_get _ _ _ _ hlt, hy]))
      have ho' := Lib.hid ho
      have hy' := Lib.hid hy
      have hbv' := Lib.hid hbv
      clear ho hmul hy hbv
      cases bv
      · go_wp2
        refine ⟨⟨k + 1, by omega, by go_num, Lib.hid (nodup_snoc hnd.out (by rw [← hy'.out]; exact hbv'.out.symm)), ?_, below_set hb hgB⟩, by simp [intOf]; omega⟩
        rw [← hset.out]
        exact (ho'.out.stored y _).1
      · go_wp2
        exact hR2'.out (dup_snoc hlt (by rw [← hy'.out]; exact hbv'.out.symm)) _ hb
    · have hkc : k = c := by omega
      have hdone := Lib.hid (show (pts s n c).Nodup by rw [← hkc]; exact hnd.out)
      have hgl : g < wr.heap.size := (World.ownsRow.lt ho g rfl).2
      have hcells := Lib.hid (show ∀ j, j < n → wr.cell? ⟨g, j, none⟩ = some (.bool ((pts s n c).contains (j : Int))) from fun j hj => by
        rw [ho.cellAt j (by omega), marks_get _ _ _ _ hj, hxs'.out, pts_take _ _ _ _ hk, hkc])
      obtain ⟨w2, hw2⟩ : ∃ w2, w2 = wr := ⟨_, rfl⟩
      subst hw2
      clear ho hnd hkc
      have hb' := Lib.hid hb
      have hsz := hb.size
      clear hb
      go_wp2_with fail
      go_loopw [10, 11, 12] (fun v l i wr => ∃ k : Nat, k ≤ n ∧ i = .int .i64 ((k : Int) + 1) ∧ l = .int .i64 ((scan s n c k).2 : Int) ∧ Ints wr w2.heap.size v (scan s n c k).1 ∧ Below w2.heap.size w2 wr) (fun _ _ i _ => n + 1 - (intOf i).toNat)
      case atStart => exact ⟨0, by omega, rfl, rfl, Ints.lit _ _ (Nat.le_refl _), (Below.refl _ _).alloc (Nat.le_refl _) _⟩
      case round =>
        obtain ⟨k, hk2, rfl, rfl, hown2, hb2⟩ := hrel
        have hbd := scan_bd s n c k
        obtain ⟨hb_1, hb_2⟩ := hbd
        have hsz2 := hb2.size
        obtain ⟨L, hL⟩ : ∃ L, L = (scan s n c k).2 := ⟨_, rfl⟩
        rw [← hL] at hb_2 ⊢
        have hL' := Lib.hid hL
        clear hL
        by_cases hlt2 : k < n
        · by_cases hyes : k + 1 = n ∨ ((k + 1 : Nat) : Int) ∈ pts s n c
          · have hsy := Lib.hid (scan_yes hyes)
            by_cases hend : k + 1 = n
            · have d1 : ((k : Int) + 1 == (n : Int)) = true := by simp; omega
              have hend' := Lib.hid hend
              clear hyes hend
              go_wp2_with (first | (at_builtin; refine app_int hown2 (by omega) hsz2 rfl _ _ rfl rfl rfl ?_; intro v' w3 hown3 hb3))
              go_roundw
              case rel => exact ⟨k + 1, by omega, by go_num, by rw [hsy.out]; exact int_eq (by omega), by rw [hsy.out, ← hL'.out]; exact hown3, hb2.trans hb3⟩
              case measure => simp [intOf]; omega
            · have d1 : ((k : Int) + 1 == (n : Int)) = false := by simp; omega
              have hmem : ((k + 1 : Nat) : Int) ∈ pts s n c := by rcases hyes with e | e; exact absurd e hend; exact e
              have c1 : wr.cell? ⟨g, k + 1, none⟩ = some (.bool true) := by
                rw [hb2.cell (p := ⟨g, k + 1, none⟩) hgl, hcells.out (k + 1) (by omega), List.contains_iff_mem.2 hmem]
              have hkn : k + 1 < n := by omega
              clear hyes hend hmem
              go_wp2_with (first | (at_builtin; refine app_int hown2 (by omega) hsz2 rfl _ _ rfl rfl rfl ?_; intro v' w3 hown3 hb3))
              go_roundw
              case rel => exact ⟨k + 1, by omega, by go_num, by rw [hsy.out]; exact int_eq (by omega), by rw [hsy.out, ← hL'.out]; exact hown3, hb2.trans hb3⟩
              case measure => simp [intOf]; omega
          · have hsn := Lib.hid (scan_no hyes)
            have hend : ¬ k + 1 = n := fun e => hyes (.inl e)
            have hmem : ¬ ((k + 1 : Nat) : Int) ∈ pts s n c := fun e => hyes (.inr e)
            have d1 : ((k : Int) + 1 == (n : Int)) = false := by simp; omega
            have c1 : wr.cell? ⟨g, k + 1, none⟩ = some (.bool false) := by
              rw [hb2.cell (p := ⟨g, k + 1, none⟩) hgl, hcells.out (k + 1) (by omega)]
              congr 2
              rw [Bool.eq_false_iff]
              intro e; exact hmem (List.contains_iff_mem.1 e)
            have hkn : k + 1 < n := by omega
            clear hyes hend hmem
            go_wp2
            go_roundw
            case rel => exact ⟨k + 1, by omega, by go_num, by rw [hsn.out, hL'.out], by rw [hsn.out]; exact hown2, hb2⟩
            case measure => simp [intOf]; omega
        · have hkn : k = n := by omega
          have hkn' := Lib.hid hkn
          clear hkn
          go_wp2
          exact hR1'.out hdone.out _ _ (by
            have e := hkn'.out
            clear hkn'
            subst e
            exact hown2.base hsz) (below_seq hb'.out hb2 (Nat.le_refl _))
end Go.Proofs.Ytbcoaiaocfommaa
