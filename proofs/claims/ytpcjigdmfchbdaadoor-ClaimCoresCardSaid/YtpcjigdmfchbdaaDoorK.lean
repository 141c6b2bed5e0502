import Derived.Test.YtpcjigdmfchbdaaDoorJ
namespace Go.Proofs.YtpcjigdmfchbdaaDoor
open Go.RowKit Go.Shelf Cl

theorem bitsNat (a b : Nat) (ha : a < 18446744073709551616) (hb : b < 18446744073709551616) : bits .andNot .u64 (a : Int) (b : Int) = ((a &&& (18446744073709551615 - b) : Nat) : Int) := by
  have h1 : (BitVec.ofInt 64 (a : Int)).toNat = a := by
    rw [BitVec.ofInt_natCast, BitVec.toNat_ofNat]; exact Nat.mod_eq_of_lt (by omega)
  have h2 : (BitVec.ofInt 64 (b : Int)).toNat = b := by
    rw [BitVec.ofInt_natCast, BitVec.toNat_ofNat]; exact Nat.mod_eq_of_lt (by omega)
  have hx : a &&& (18446744073709551615 - b) < 18446744073709551616 := Nat.lt_of_le_of_lt Nat.and_le_left ha
  show IntKind.u64.wrap ((BitVec.ofInt 64 (a : Int) &&& ~~~ (BitVec.ofInt 64 (b : Int))).toNat : Int) = _
  rw [BitVec.toNat_and, BitVec.toNat_not, h1, h2, IntKind.wrap_u64]
  show (((a &&& (2 ^ 64 - 1 - b) : Nat) : Int)) % 18446744073709551616 = _
  rw [show (2 ^ 64 - 1 - b : Nat) = 18446744073709551615 - b by omega]
  omega
theorem andNot_all {n S : Nat} (hn : n ≤ 12) (hS : S < 2 ^ n) : bits BinOp.andNot IntKind.u64 ((2 ^ n - 1 : Nat) : Int) (S : Int) = ((2 ^ n - 1 - S : Nat) : Int) := by
  have h4 := lt12 hn hS
  have hp : 2 ^ n ≤ 2 ^ 12 := Nat.pow_le_pow_right (by decide) hn
  rw [bitsNat _ _ (by omega) (by omega)]
  congr 1
  apply bits_eq
  intro j
  have e : (18446744073709551615 - S) = 2 ^ 64 - 1 - S := by omega
  rw [Nat.testBit_and, all_bit, sub_bit hS, e, sub_bit (n := 64) (by omega)]
  simp only [Bool.and_eq_true, decide_eq_true_eq, Bool.not_eq_true']
  constructor
  · rintro ⟨h1, _, h2⟩; exact ⟨h1, h2⟩
  · rintro ⟨h1, h2⟩; exact ⟨h1, by omega, h2⟩
set_option maxRecDepth 100000 in
set_option maxHeartbeats 1000000 in
theorem stable56 {w : World} (hT : Tab w) {n : Nat} {L : Atts} (hD : OkD n L) {S : Nat} (hS : S < 2 ^ n) :
    Calls Tryd.prog 56 #[.agg (csD n L), .int .u64 (S : Int)] w (BoolEnd w (staB n L S)) := by
  have hb1 := below_alloc1 w (.cells (csD n L) 74)
  have hf := Lib.hid (fun (W : World) (h : Below w.heap.size w W) => attacked59 (hT.call h) hD (lt12 hD.nn hS))
  have hal := Lib.hid (fun (W : World) => all64 (w := W) hD)
  have hd0 := DAt.new w n L 74
  have hB : staB n L S = (hit L S == 2 ^ n - 1 - S) := rfl
  have hand := andNot_all hD.nn hS
  have hbq := Lib.hid (cast_beq (hit L S) (2 ^ n - 1 - S))
  rw [hB]
  clear hT hD hB
  generalize hit L S = H at hf hbq ⊢
  generalize hA : 2 ^ n - 1 = A at hal hand hbq ⊢
  clear hA
  generalize hAS : A - S = AS at hand hbq ⊢
  clear hAS
  go_enter Tryd.func56, Tryd.ntmps56
  go_upto_region 1 with fail
  obtain ⟨W, hW⟩ : ∃ W, W = w.alloc (.cells (csD n L) 74) := ⟨_, rfl⟩
  obtain ⟨b, hb⟩ : ∃ b, b = w.heap.size := ⟨_, rfl⟩
  rw [← hW] at hd0 hb1 ⊢
  rw [← hb] at hd0 ⊢
  have hd0' := Lib.hid hd0
  have hb1' := Lib.hid hb1
  clear hW hd0 hb1 hb
  refine wp_region_noPanic ?_
  refine wp_region_any (by kernel_rfl) (wpAny_of_held (S := fun w' => DAt w' b n L ∧ Below W.heap.size W w') _ _ _ _ ?_)
  have hHeld : DAt W.drew b n L ∧ Below W.heap.size W W.drew := ⟨hd0'.out.below (Below.refl _ _).drew, (Below.refl _ _).drew⟩
  change wpAnyH _ _ _ _ _ _ _ _ W.drew
  simp only [List.size_toArray, List.length_cons, List.length_nil, Nat.reduceAdd, Array.replicate_succ, Array.replicate_zero, List.push_toArray, List.nil_append, List.cons_append]
  refine wpAnyH_take (i := 0) (v := .agg (csD n L)) rfl (by kernel_rfl) (by kernel_rfl) (by kernel_rfl) (fun _ _ _ h => h) (yieldsIf_load_mid (by rfl) 74 (.tmp 2) rfl b 0 rfl (csD n L).toList _ (fun w' hw' j v hj => by rw [Nat.zero_add]; exact hw'.1.2 j v (by simpa using hj)) Tryd.underlying74 rfl size74) hHeld ?_
  simp only [Act.put, List.setIfInBounds_toArray, List.set_cons_zero, List.set_cons_succ, List.getElem_toArray, List.getElem_cons_zero]
  refine wpAnyH_take (i := 1) (v := .int .u64 (S : Int)) rfl (by kernel_rfl) (by kernel_rfl) (by kernel_rfl) (fun _ _ _ h => h) (Or.inl ⟨by rfl, ?_⟩) hHeld ?_
  · intro w' hSw; go_simp
  simp only [Act.put, List.setIfInBounds_toArray, List.set_cons_zero, List.set_cons_succ, List.getElem_toArray, List.getElem_cons_succ, List.getElem_cons_zero]
  refine wpAnyH_take (i := 3) (v := .agg (csD n L)) rfl (by kernel_rfl) (by kernel_rfl) (by kernel_rfl) (fun _ _ _ h => h) (yieldsIf_load_mid (by rfl) 74 (.tmp 2) rfl b 0 rfl (csD n L).toList _ (fun w' hw' j v hj => by rw [Nat.zero_add]; exact hw'.1.2 j v (by simpa using hj)) Tryd.underlying74 rfl size74) hHeld ?_
  simp only [Act.put, List.setIfInBounds_toArray, List.set_cons_zero, List.set_cons_succ, List.getElem_toArray, List.getElem_cons_succ, List.getElem_cons_zero]
  refine wpAnyH_take (i := 5) (v := .int .u64 (S : Int)) rfl (by kernel_rfl) (by kernel_rfl) (by kernel_rfl) (fun _ _ _ h => h) (Or.inl ⟨by rfl, ?_⟩) hHeld ?_
  · intro w' hSw; go_simp
  simp only [Act.put, List.setIfInBounds_toArray, List.set_cons_zero, List.set_cons_succ, List.getElem_toArray, List.getElem_cons_succ, List.getElem_cons_zero]
  refine wpAnyH_ready (rs := [2]) (by kernel_rfl) (by simp) ?_
  refine AllReadyH.cons rfl (fun K hK => ?_) AllReadyH.nil
  have hV := Lib.hid (hf.out W.drew (hb1'.out.trans (hHeld.2.mono hb1'.out.size)))
  go_simp
  refine hV.out.mono ?_
  rintro e w1 ⟨rfl, hbq1⟩
  refine hK.out _ _ ⟨hHeld.1.below hbq1, hHeld.2.trans (hbq1.mono hHeld.2.size)⟩ (fun hHeld => ?_)
  clear hK K hV hbq1
  simp only [List.setIfInBounds_toArray, List.set_cons_zero, List.set_cons_succ]
  refine wpAnyH_ready (rs := [4]) (by kernel_rfl) (by simp) ?_
  refine AllReadyH.cons rfl (fun K hK => ?_) AllReadyH.nil
  have hV := Lib.hid (hal.out w1)
  go_simp
  refine hV.out.mono ?_
  rintro e w2 ⟨rfl, hbq1⟩
  refine hK.out _ _ ⟨hHeld.1.below hbq1, hHeld.2.trans (hbq1.mono hHeld.2.size)⟩ (fun hHeld => ?_)
  clear hK K hV hbq1
  simp only [List.setIfInBounds_toArray, List.set_cons_zero, List.set_cons_succ]
  refine wpAnyH_take (i := 6) (v := .int .u64 (AS : Int)) rfl (by kernel_rfl) (by kernel_rfl) (by kernel_rfl) (fun _ _ _ h => h) (Or.inl ⟨by rfl, ?_⟩) hHeld ?_
  · intro w' hSw; go_simp
  simp only [Act.put, List.setIfInBounds_toArray, List.set_cons_zero, List.set_cons_succ, List.getElem_toArray, List.getElem_cons_succ, List.getElem_cons_zero]
  refine wpAnyH_take (i := 7) (v := .bool ((H : Int) == (AS : Int))) rfl (by kernel_rfl) (by kernel_rfl) (by kernel_rfl) (fun _ _ _ h => h) (Or.inl ⟨by rfl, ?_⟩) hHeld ?_
  · intro w' hSw; go_simp
  simp only [Act.put, List.setIfInBounds_toArray, List.set_cons_zero, List.set_cons_succ, List.getElem_toArray, List.getElem_cons_succ, List.getElem_cons_zero]
  refine wpAnyH_take (i := 8) (v := .bool ((H : Int) == (AS : Int))) rfl (by kernel_rfl) (by kernel_rfl) (by kernel_rfl) (fun _ _ _ h => h) (Or.inl ⟨by rfl, ?_⟩) hHeld ?_
  · intro w' hSw; go_simp
  simp only [Act.put, List.setIfInBounds_toArray, List.set_cons_zero, List.set_cons_succ, List.getElem_toArray, List.getElem_cons_succ, List.getElem_cons_zero]
  refine wpAnyH_done (by kernel_rfl) ?_ _
  have hfin := Lib.hid hHeld.2
  clear hHeld
  refine NoPanic.normal ?_
  go_wp2_with fail
  go_ret
  exact ⟨ret_b hbq.out, hb1'.out.trans (hfin.out.mono hb1'.out.size)⟩
end Go.Proofs.YtpcjigdmfchbdaaDoor
