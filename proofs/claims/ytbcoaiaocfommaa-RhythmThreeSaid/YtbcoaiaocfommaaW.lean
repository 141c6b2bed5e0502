import Derived.Test.YtbcoaiaocfommaaV
import Derived.Test.YtbcoaiaocfommaaLaw10
namespace Go.Proofs.Ytbcoaiaocfommaa
open Go.RowKit

/-- The distances. -/
def diffs (q : List Int) (k : Nat) : List Int := (List.range k).map fun (i : Nat) => q.getD (i + 1) 0 - q.getD i 0
theorem diffs_len (q : List Int) (k : Nat) : (diffs q k).length = k := by unfold diffs; simp
theorem diffs_snoc (q : List Int) (k : Nat) : diffs q (k + 1) = diffs q k ++ [q.getD (k + 1) 0 - q.getD k 0] := by unfold diffs; rw [List.range_succ]; simp
def circle (s n c : Nat) : List Int := sorted (pts s n c) ++ [(n : Int)]
theorem circle_len (s n c : Nat) : (circle s n c).length = c + 1 := by unfold circle; rw [List.length_append, sorted_len, pts_len]; rfl
theorem circle_bd (s n c : Nat) (hn : 1 ≤ n) : ∀ j, j < c + 1 → 0 ≤ (circle s n c).getD j 0 ∧ (circle s n c).getD j 0 ≤ n := by
  intro j hj
  have hm : (circle s n c).getD j 0 ∈ circle s n c := by
    rw [List.getD_eq_getElem?_getD, List.getElem?_eq_getElem (by rw [circle_len]; exact hj)]; exact List.getElem_mem _
  generalize (circle s n c).getD j 0 = x at hm ⊢
  unfold circle at hm
  rw [List.mem_append, List.mem_singleton] at hm
  rcases hm with hm | hm
  · unfold sorted at hm
    rw [List.mem_mergeSort] at hm
    unfold pts at hm
    rw [List.mem_map] at hm
    obtain ⟨i, _, rfl⟩ := hm
    have : pt s n i < n := by unfold pt; exact Nat.mod_lt _ (by omega)
    omega
  · omega
/-- Whether two points are the same: a distance of 0. -/
def zeroB (q : List Int) (k : Nat) : Bool := (diffs q k).contains 0

theorem zeroB_mono {q : List Int} {j k : Nat} (h : j ≤ k) (hz : zeroB q j = true) : zeroB q k = true := by
  unfold zeroB diffs at *
  rw [List.contains_iff_mem, List.mem_map] at *
  obtain ⟨i, hi, he⟩ := hz
  exact ⟨i, by rw [List.mem_range] at *; omega, he⟩

set_option maxHeartbeats 4000000 in
set_option maxRecDepth 100000 in
theorem gaps47_head (s c n : Nat) (w : World) (hn1 : 1 ≤ n) (hn2 : n ≤ 1000) (hs : s < n) (hc1 : 1 ≤ c) (hc2 : c ≤ n) (R : Ending → World → Prop)
    (hR1 : zeroB (circle s n c) c = false → ∀ v w', Ints w' w.heap.size v (diffs (circle s n c) c) → Below w.heap.size w w' → R (.returned (.tuple #[v, .int .i64 0])) w')
    (hR2 : zeroB (circle s n c) c = true → ∀ w', Below w.heap.size w w' → R (.returned (.tuple #[.slice none 0 0, .int .i64 5])) w') :
    Calls Try.prog 47 #[.int .i64 s, .int .i64 c, .int .i64 n] w R := by
  have d1 : decide ((n : Int) < 1) = false := by simp; omega
  have d2 : decide ((1000 : Int) < n) = false := by simp; omega
  have d3 : decide ((s : Int) < 0) = false := by simp
  have d4 : decide (n ≤ s) = false := by simp; omega
  have d5 : decide ((c : Int) < 1) = false := by simp; omega
  have d6 : decide (n < c) = false := by simp; omega
  have hR1' := Lib.hid hR1
  have hR2' := Lib.hid hR2
  clear hR1 hR2
  go_enter Try.func47, Try.ntmps47
  go_wp2_with (first | (at_make; refine make_ints c (c + 1) (by omega) (by omega) (Nat.le_refl w.heap.size) rfl _ _ rfl rfl (by simp [Act.eval]) ?_; intro w1 hown hgr))
  have hb1 : Below w.heap.size w w1 := (Below.refl _ _).grown hgr (Nat.le_refl _) (fun k hk => by simp at hk)
  obtain ⟨g, hg⟩ : ∃ g, g = w.heap.size := ⟨_, rfl⟩
  rw [← hg] at hown ⊢
  have hg' := Lib.hid hg
  have hgB : w.heap.size ≤ g := by omega
  clear hgr hg
  go_loopw [9, 42] (fun _ i wr => ∃ k : Nat, k ≤ c ∧ i = .int .i64 (k : Int) ∧ wr.ownsRow g 3 1 (.slice (some ⟨g, 0, none⟩) c (c + 1)) c (fillC (pts s n k) c) ∧ Below w.heap.size w wr) (fun _ i _ => c - (intOf i).toNat)
  case atStart => exact ⟨0, by omega, rfl, hown, hb1⟩
  case round =>
    obtain ⟨k, hk, rfl, ho, hb⟩ := hrel
    by_cases hlt : k < c
    · have hmul : k * s ≤ 1000 * 1000 := Nat.mul_le_mul (by omega) (by omega)
      have hm1 : 0 ≤ (k : Int) * (s : Int) := by rw [← Int.natCast_mul]; omega
      have hm2 : (k : Int) * (s : Int) ≤ 1000000 := by rw [← Int.natCast_mul]; omega
      have hmod : (k : Int) * (s : Int) % (n : Int) = ((pt s n k : Nat) : Int) := by unfold pt; rw [← Int.natCast_mul, Int.natCast_emod]
      have hpos : (0 : Int) < n := by omega
      have hpos1 : (1 : Int) ≤ n := by omega
      have hlen := pts_len s n k
      have c1 : wr.cell? ⟨g, k, none⟩ = some (.int .i64 0) := by
        have := fillC_at (pts s n k) c (by omega)
        rw [hlen] at this
        rw [ho.cellAt k (by omega), this]
      have c2 : wr.frozen? ⟨g, k, none⟩ = false := ho.frozenAt k
      have hset := Lib.hid (show (fillC (pts s n k) c).set k (.int .i64 ((pt s n k : Nat) : Int)) = fillC (pts s n (k + 1)) c by
        have := fillC_set (pts s n k) c ((pt s n k : Nat) : Int) (by omega)
        rw [hlen] at this
        rw [this, pts_snoc])
      have ho' := Lib.hid ho
      clear ho hlen hmul
      go_wp2
      refine ⟨⟨k + 1, by omega, by go_num, ?_, below_set hb hgB⟩, by simp [intOf]; omega⟩
      rw [← hset.out]
      exact (ho'.out.stored k _).1
    · have hkc : k = c := by omega
      subst hkc
      have hof : wr.ownsRow g 3 1 (.slice (some ⟨g, 0, none⟩) k (k + 1)) k ((pts s n k).map (Value.int .i64)) := by
        have := ho
        rw [fillC_full _ _ (by rw [pts_len]; exact Nat.le_refl _)] at this
        exact this
      have hof' := Lib.hid hof
      clear ho hof hlt
      go_wp2_with fail
      refine (sort72 hof'.out (by rw [pts_len]) (by omega)).mono ?_
      rintro e w2 ⟨rfl, hso, hb2⟩
      have hb2' : Below w.heap.size w w2 := hb.trans (hb2.mono hgB)
      have hgl : g < wr.heap.size := (World.ownsRow.lt hof'.out g rfl).2
      have hso' : Ints w2 g (.slice (some ⟨g, 0, none⟩) k (k + 1)) (sorted (pts s n k)) := by
        unfold Ints; rw [sorted_len, pts_len]; exact hso
      have hgl2 : g ≤ w2.heap.size := Nat.le_of_lt (World.ownsRow.lt hso g rfl).2
      clear hso hb hb2
      go_wp2_with (first | (at_builtin; refine app_int hso' (by rw [sorted_len, pts_len]; omega) hgl2 rfl _ _ rfl rfl rfl ?_; intro v' w3 hown3 hb3) | (at_make; refine make_ints k k (Nat.le_refl _) (by omega) (Nat.le_refl _) rfl _ _ rfl rfl rfl ?_; intro w4 hown4 hgr4))
      have hb3' : Below w.heap.size w w3 := hb2'.trans (hb3.mono hgB)
      have hb4 : Below w3.heap.size w3 w4 := (Below.refl _ _).grown hgr4 (Nat.le_refl _) (fun k hk => by simp at hk)
      obtain ⟨Q, hQ⟩ : ∃ Q, Q = circle s n k := ⟨_, rfl⟩
      have hown3' : Ints w3 g v' Q := by rw [hQ]; exact hown3
      have hQl := circle_len s n k
      have hQb := circle_bd s n k hn1
      rw [← hQ] at hQl hQb
      obtain ⟨ao, cc, rfl, hr⟩ := hown3'.shape.below hb4
      rw [hQl] at hr ⊢
      obtain ⟨gq, rfl, hgq, _, hcq⟩ := hr (fun e => by rw [e] at hQl; simp at hQl)
      have hgq3 : gq < w3.heap.size := by
        obtain ⟨ao', cc', e1, hr'⟩ := hown3'.shape
        obtain ⟨g'', e2, hg'', _⟩ := hr' (fun e => by rw [e] at hQl; simp at hQl)
        cases e1; cases e2; exact hg''
      obtain ⟨gg, hgg⟩ : ∃ gg, gg = w3.heap.size := ⟨_, rfl⟩
      rw [← hgg] at hown4 hgq3 ⊢
      have hggB : w3.heap.size ≤ gg := by omega
      have hb44 : Below gg w3 w4 := hb4.mono (by omega)
      have hb34 : Below w.heap.size w w4 := below_call hb3' hb4
      have hwgg : w.heap.size ≤ gg := by have := hb3'.size; omega
      have hcq' := Lib.hid hcq
      have hQ' := Lib.hid hQ
      have hQb' := Lib.hid hQb
      have hgg' := Lib.hid hgg
      have hQl' := Lib.hid hQl
      clear hcq hQ hQb hgr4 hb4 hr hown3 hown3' hb3 hb3' hb2' hgg hQl hof' hso'
      go_wp2_with fail
      go_loopw [11, 64] (fun _ i wr => ∃ j : Nat, j ≤ k ∧ i = .int .i64 (j : Int) ∧ Hid (zeroB Q j = false) ∧ wr.ownsRow gg 3 1 (.slice (some ⟨gg, 0, none⟩) k k) k (fillC (diffs Q j) k) ∧ Below gg w4 wr) (fun _ i _ => k - (intOf i).toNat)
      case atStart => exact ⟨0, by omega, rfl, rfl, hown4, Below.refl _ _⟩
      case round =>
        obtain ⟨j, hj, rfl, hnz, ho, hb⟩ := hrel
        by_cases hlt : j < k
        · obtain ⟨a, ha⟩ : ∃ a, a = Q.getD j 0 := ⟨_, rfl⟩
          obtain ⟨b, hb'⟩ : ∃ b, b = Q.getD (j + 1) 0 := ⟨_, rfl⟩
          have hab := hQb'.out j (by omega)
          have hbb := hQb'.out (j + 1) (by omega)
          rw [← ha] at hab
          rw [← hb'] at hbb
          obtain ⟨a1, a2⟩ := hab
          obtain ⟨b1, b2⟩ := hbb
          have c1 : wr.cell? ⟨gq, j, none⟩ = some (.int .i64 a) := by rw [hb.cell (p := ⟨gq, j, none⟩) hgq3, hcq'.out j (by omega), ha]
          have c2 : wr.cell? ⟨gq, j + 1, none⟩ = some (.int .i64 b) := by rw [hb.cell (p := ⟨gq, j + 1, none⟩) hgq3, hcq'.out (j + 1) (by omega), hb']
          have hlen := diffs_len Q j
          have c3 : wr.cell? ⟨gg, j, none⟩ = some (.int .i64 0) := by
            have := fillC_at (diffs Q j) k (by omega)
            rw [hlen] at this
            rw [ho.cellAt j (by omega), this]
          have c4 : wr.frozen? ⟨gg, j, none⟩ = false := ho.frozenAt j
          have hset := Lib.hid (show (fillC (diffs Q j) k).set j (.int .i64 (b - a)) = fillC (diffs Q (j + 1)) k by
            have := fillC_set (diffs Q j) k (b - a) (by omega)
            rw [hlen] at this
            rw [this, diffs_snoc, ← ha, ← hb'])
          have hz := Lib.hid (show zeroB Q (j + 1) = (zeroB Q j || (0 == b - a)) by
            unfold zeroB; rw [diffs_snoc, ← ha, ← hb', Bool.eq_iff_iff]; simp)
          have ho' := Lib.hid ho
          clear ho hlen ha hb'
          have hne : gq ≠ gg := by omega
          have e1 : IntKind.i64.wrap ((j : Int) + 1) = (j : Int) + 1 := IntWalk.i64_in _ (by omega)
          have e2 : ((j : Int) + 1).toNat = j + 1 := by omega
          have e3 : 0 ≤ (j : Int) + 1 := by omega
          have e4 : (j : Int) + 1 < (k : Int) + 1 := by omega
          have e5 : j + 1 < k + 1 := by omega
          by_cases hba : b - a = 0
          · have d7 : (b - a == 0) = true := by simpa using hba
            have hba' := Lib.hid hba
            clear hba
            go_wp2
            go_region
            all_goals go_wp2
            all_goals exact hR2'.out (by
              rw [← hQ'.out]
              exact zeroB_mono (j := j + 1) (by omega) (by rw [hz.out, hba'.out]; simp)) _ ((hb34.trans (hb.mono hwgg)).trans (below_set (Below.refl _ _) hwgg).drew)
          · have d7 : (b - a == 0) = false := by simpa using hba
            have hba' := Lib.hid hba
            clear hba
            go_wp2
            go_region
            all_goals go_wp2
            all_goals
              refine ⟨⟨j + 1, by omega, by go_num, Lib.hid (by rw [hz.out, hnz.out, Bool.false_or, beq_eq_false_iff_ne]; exact fun e => hba'.out e.symm), ?_, (below_set hb (Nat.le_refl _)).drew⟩, by simp [intOf]; omega⟩
              rw [← hset.out]
              exact (ho'.out.stored j _).1
        · have hjk : j = k := by omega
          have hjk' := Lib.hid hjk
          clear hjk
          have hfull : wr.ownsRow gg 3 1 (.slice (some ⟨gg, 0, none⟩) k k) k ((diffs Q k).map (Value.int .i64)) := by
            have := ho
            rw [hjk'.out, fillC_full _ _ (by rw [diffs_len]; exact Nat.le_refl _)] at this
            exact this
          have hfull' := Lib.hid hfull
          have hnz2 := Lib.hid (show zeroB (circle s n k) k = false by rw [← hQ'.out, ← hjk'.out]; exact hnz.out)
          clear ho hfull hnz
          go_wp2
          exact hR1'.out hnz2.out _ _ (by rw [← hQ'.out]; unfold Ints; rw [diffs_len]; exact own_base hfull'.out hwgg) (hb34.trans (hb.mono hwgg))
end Go.Proofs.Ytbcoaiaocfommaa
