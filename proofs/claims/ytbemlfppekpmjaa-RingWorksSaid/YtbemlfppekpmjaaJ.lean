import Derived.Test.YtbemlfppekpmjaaI
namespace Go.Proofs.Ytbemlfppekpmjaa
open Go.RowKit Rng
set_option maxHeartbeats 4000000 in
set_option maxRecDepth 100000 in
theorem mul84 {w : World} (y : Int) (h : 1 ≤ y ∧ y ≤ 10) : Calls Try.prog 84 #[.int .u64 1, .int .u64 y] w fun e w' => e = .returned (.tuple #[.int .u64 0, .int .u64 y]) ∧ w = w' := by
  rcases (show y = 1 ∨ y = 2 ∨ y = 3 ∨ y = 4 ∨ y = 5 ∨ y = 6 ∨ y = 7 ∨ y = 8 ∨ y = 9 ∨ y = 10 by omega) with rfl | rfl | rfl | rfl | rfl | rfl | rfl | rfl | rfl | rfl
  all_goals clear h
  all_goals (go_enter Try.func84, Try.ntmps84; go_wp2; go_ret2; exact ⟨rfl, rfl⟩)
set_option maxHeartbeats 4000000 in
set_option maxRecDepth 100000 in
theorem mul76 {w : World} (y : Int) (h : 1 ≤ y ∧ y ≤ 10) : Calls Try.prog 76 #[.int .u64 1, .int .u64 y] w fun e w' => e = .returned (.tuple #[.int .u64 0, .int .u64 y]) ∧ w = w' := by
  have hm := Lib.hid (fun (W : World) => mul84 (w := W) y h)
  obtain ⟨h1, h2⟩ := h
  go_enter Try.func76, Try.ntmps76
  go_wp2_with (go_at_call 84; refine (hm.out _).mono ?_; rintro e wj ⟨rfl, rfl⟩)
  go_ret2
  exact ⟨rfl, rfl⟩
def Z1 : Hd := ⟨false, 1, 0⟩
/-- The first `c` of `n` hands are there. -/
def rc (n c : Nat) : List Hd := List.replicate c H0 ++ List.replicate (n - c) Z1
theorem rc_len {n c : Nat} (h : c ≤ n) : (rc n c).length = n := by simp [rc]; omega
theorem rc_put {n c k : Nat} (h : c + k ≤ n) : putAt (flat encH (rc n c)) (c * 3) (flat encH (List.replicate k H0)) = flat encH (rc n (c + k)) := by
  have e1 : (rc n c).take c = List.replicate c H0 := by
    unfold rc; rw [List.take_append_of_le_length (by simp), List.take_of_length_le (by simp)]
  have e2 : (rc n c).drop (c + k) = List.replicate (n - (c + k)) Z1 := by
    unfold rc; rw [List.drop_append, List.drop_of_length_le (by simp), List.nil_append, List.length_replicate, List.drop_replicate, show n - c - (c + k - c) = n - (c + k) by omega]
  have hl : (flat encH (List.replicate k H0)).length = k * 3 := by rw [flat_len encH_len, List.length_replicate]
  rw [putAt_eq _ _ _ (by rw [hl, flat_len encH_len, rc_len (by omega)]; omega), hl, ← Nat.add_mul, ← flat_take encH_len, ← flat_drop encH_len, e1, e2, ← flat_app, ← flat_app]
  congr 1
  unfold rc
  rw [List.replicate_append_replicate]
theorem madeH (n : Nat) : (madeCells #[.bool false, .int .i64 0, .int .i64 0] (n * 3)).toList = flat encH (List.replicate n Z1) := by
  apply List.ext_getElem?
  intro i
  by_cases h : i < n * 3
  · have e : i = (i / 3) * 3 + i % 3 := by omega
    have h3 : i / 3 < n := by omega
    have hm : i % 3 < 3 := by omega
    rw [e, flat_at encH_len (List.replicate n Z1) (i / 3) (i % 3) (by simpa using h3) hm, ← e, List.getElem_replicate]
    simp only [madeCells, Array.getElem?_toList]
    rcases (show i % 3 = 0 ∨ i % 3 = 1 ∨ i % 3 = 2 by omega) with e | e | e <;> simp [h, e, encH, Z1]
  · rw [List.getElem?_eq_none (by rw [Array.length_toList, size_madeCells]; omega), List.getElem?_eq_none (by rw [flat_len encH_len, List.length_replicate]; omega)]
theorem make_hands {ops : Array Oper} {rest : List Oper} {o : Oper} {a : Act} {Q : Exit → Act → World → Prop} {w : World} {B : Nat}
    (n : Nat) (hC : n ≤ 1000000) (hB : B ≤ w.heap.size) (hg : o.guard = none) (l c : Operand) (hop : o.op = Op.makeSlice 82 l c)
    (hl : a.eval l = .int .i64 (n : Int)) (hc : a.eval c = .int .i64 (n : Int))
    (hK : ∀ w', OwnH w' B (.slice (some ⟨w.heap.size, 0, none⟩) n n) (rc n 0) → Below B w w' → w'.heap.size = w.heap.size + 1 → (∀ k, k < w.heap.size → w'.heap[k]? = w.heap[k]?) → wpList Try.prog ops Q rest (a.put o.dst (.slice (some ⟨w.heap.size, 0, none⟩) n n)) w') :
    wpList Try.prog ops Q (o :: rest) a w := by
  obtain ⟨i0, hi, hz0, hz1, hz2⟩ := info_parts info98
  refine wpList_plain hg fun K hK' => ?_
  have hr := run_make (P := Try.prog) w 82 98 i0 (.agg #[.bool false, .int .i64 0, .int .i64 0]) Try.underlying82 hi hz0 .i64 .i64 (n : Int) (n : Int) (by omega) (by omega) (by rw [hz2]; omega) (by omega)
  simp only [Int.toNat_natCast, hz1] at hr
  unfold Oper.wp
  simp [execOp, hop, hl, hc, hr, Result.andThen]
  refine hK' _ _ (hK _ ?_ ((Below.refl _ _).alloc hB _) (by simp) (fun k hk => (below_alloc1 w _).block k hk))
  have e0 : rc n 0 = List.replicate n Z1 := by simp [rc]
  unfold OwnH
  rw [e0, List.length_replicate]
  refine ⟨by rw [flat_len encH_len, List.length_replicate], .inr ⟨w.heap.size, n, _, rfl, hB, heap_alloc_new w _, Nat.le_refl _, by unfold maxLen; omega, by show (madeCells #[.bool false, .int .i64 0, .int .i64 0] (n * 3)).size = _; rw [size_madeCells], ?_⟩⟩
  show (madeCells #[.bool false, .int .i64 0, .int .i64 0] (n * 3)).toList.take (n * 3) = _
  rw [madeH, List.take_of_length_le (by rw [flat_len encH_len, List.length_replicate]; omega)]
/-- copy of structs. -/
theorem run_copy_z (w : World) (dT sT ty elem : TypeId) (z b o dLen dCap : Nat) (a : Addr) (sLen sCap : Nat) (cs : List Value)
    (hu : Try.prog.underlying dT = some (.slice elem)) (hs : (Try.prog.info? elem).map (·.size) = some z) (hn : cs.length = Nat.min sLen dLen * z)
    (hsrc : ∀ j v, cs[j]? = some v → w.cell? (a.add j) = some v) (hc : ∀ j, j < cs.length → (w.cell? ⟨b, o + j, none⟩).isSome = true) (hf : ∀ j, j < cs.length → w.frozen? ⟨b, o + j, none⟩ = false) (h1 : ∀ v ∈ cs, v.oneCell' = true) :
    (Builtin.copy_ #[dT, sT] ty #[.slice (some ⟨b, o, none⟩) dLen dCap, .slice (some a) sLen sCap]).run Try.prog w = .ok (goInt (Nat.min sLen dLen)) (w.setCells b o cs) := by
  have hl := run_loadCells_list (P := Try.prog) w a cs hsrc
  have hst := run_storeCells_cells (P := Try.prog) b o cs 0 w (by simpa using hc) (by simpa using hf) h1
  cases hq : Try.prog.info? elem with
  | none => simp [hq] at hs
  | some i =>
    have hi : i.size = z := by simpa [hq] using hs
    simp [Builtin.copy_, run_underlying hu, Builtin.lenOf, Builtin.firstCells, sizeOf, typeInfo, hq, hi, ← hn, hl, hst]
theorem copy_hands {w : World} {B g n c k sLen sCap dCap o : Nat} {ad : Addr} {ty : TypeId} (hO : OwnH w B (.slice (some ⟨g, 0, none⟩) n n) (rc n c)) (ho : o = c * 3) (hck : c + k ≤ n) (hk : Nat.min sLen (n - c) = k)
    (hsrc : ∀ j v, (flat encH (List.replicate k H0))[j]? = some v → w.cell? (ad.add j) = some v) :
    (Builtin.copy_ #[82, 82] ty #[.slice (some ⟨g, o, none⟩) (n - c) dCap, .slice (some ad) sLen sCap]).run Try.prog w = .ok (goInt k) (w.setCells g o (flat encH (List.replicate k H0))) ∧
    OwnH (w.setCells g o (flat encH (List.replicate k H0))) B (.slice (some ⟨g, 0, none⟩) n n) (rc n (c + k)) := by
  subst ho
  have hl : (flat encH (List.replicate k H0)).length = k * 3 := by rw [flat_len encH_len, List.length_replicate]
  have hcl : ∀ j, j < n * 3 → ∃ u, w.cell? ⟨g, j, none⟩ = some u := fun j hj => by
    obtain ⟨_, _, e, _, h⟩ := own_cells hO
    obtain ⟨g', e2, _, _, hc⟩ := h (by rw [rc_len (by omega)]; omega)
    obtain rfl : g = g' := by
      injection e with e _ _
      rw [← e] at e2; injection e2 with e2; injection e2
    exact ⟨_, hc j _ (List.getElem?_eq_getElem (by rw [flat_len encH_len, rc_len (by omega)]; omega))⟩
  refine ⟨?_, ?_⟩
  · have := run_copy_z w 82 82 ty 98 3 g (c * 3) (n - c) dCap ad sLen sCap (flat encH (List.replicate k H0)) Try.underlying82 (by kernel_rfl) (by rw [hl, hk]) hsrc (fun j hj => by
      rw [hl] at hj
      obtain ⟨u, hu⟩ := hcl (c * 3 + j) (by omega)
      rw [hu]; rfl) (fun j hj => by unfold OwnH at hO; rw [rc_len (by omega)] at hO; exact World.ownsRow.frozenAt hO _) (one_flatH _)
    rw [hk] at this
    exact this
  · unfold OwnH at hO ⊢
    rw [rc_len (by omega)] at hO ⊢
    rw [← rc_put hck]
    exact own_setCells _ _ _ _ hO
theorem below_setCells {w0 w : World} {B g : Nat} (hg : B ≤ g) : ∀ (vs : List Value) (o : Nat), Below B w0 w → Below B w0 (w.setCells g o vs) := fun vs => by
  induction vs generalizing w with
  | nil => exact fun _ h => h
  | cons v r ih => exact fun o h => ih (o + 1) (below_set h hg)
theorem wpList_copy_hands {ops : Array Oper} {rest : List Oper} {o : Oper} {a : Act} {Q : Exit → Act → World → Prop} {w : World} {B g n c k sLen sCap dCap p : Nat} {ad : Addr} (hgd : o.guard = none) (d s : Operand)
    (hop : o.op = .call { callee := .builtin .copy, args := #[d, s], argTypes := #[82, 82] }) (hO : OwnH w B (.slice (some ⟨g, 0, none⟩) n n) (rc n c)) (ho : p = c * 3) (hck : c + k ≤ n) (hk : Nat.min sLen (n - c) = k)
    (hsrc : ∀ j v, (flat encH (List.replicate k H0))[j]? = some v → w.cell? (ad.add j) = some v) (hd : a.eval d = .slice (some ⟨g, p, none⟩) (n - c) dCap) (hs : a.eval s = .slice (some ad) sLen sCap)
    (h : ∀ w', w' = w.setCells g p (flat encH (List.replicate k H0)) → OwnH w' B (.slice (some ⟨g, 0, none⟩) n n) (rc n (c + k)) → wpList Try.prog ops Q rest (a.put o.dst (goInt k)) w') : wpList Try.prog ops Q (o :: rest) a w := by
  refine wpList_plain hgd fun K hK => ?_
  obtain ⟨hrun, hO'⟩ := copy_hands (ty := o.type) (sCap := sCap) (dCap := dCap) hO ho hck hk hsrc
  unfold Oper.wp
  simp [execOp, hop, resolve, invoke, builtin, hd, hs, hrun, Result.andThen]
  exact hK _ _ (h _ rfl hO')
theorem step_copy_hands {ops : Array Oper} {o : Oper} {a : Act} {w : World} {K : Act → World → Prop} {Q : Exit → Act → World → Prop} {E : Prop} {B g n c k sLen sCap dCap p : Nat} {ad : Addr} (hgd : o.guard = none) (d s : Operand)
    (hop : o.op = Op.call { callee := Callee.builtin Builtin.copy, args := #[d, s], argTypes := #[82, 82] }) (hO : OwnH w B (.slice (some ⟨g, 0, none⟩) n n) (rc n c)) (ho : p = c * 3) (hck : c + k ≤ n) (hk : Nat.min sLen (n - c) = k)
    (hsrc : ∀ j v, (flat encH (List.replicate k H0))[j]? = some v → w.cell? (ad.add j) = some v) (hd : a.eval d = .slice (some ⟨g, p, none⟩) (n - c) dCap) (hs : a.eval s = .slice (some ad) sLen sCap)
    (h : ∀ w', w' = w.setCells g p (flat encH (List.replicate k H0)) → OwnH w' B (.slice (some ⟨g, 0, none⟩) n n) (rc n (c + k)) → K (a.put o.dst (goInt k)) w') :
    if Region.wanted o (yielded ops a.tmps) = true then Oper.wp Try.prog o a w K Q else E := by
  have hw : Region.wanted o (yielded ops a.tmps) = true := by simp [Region.wanted, hgd]
  rw [if_pos hw]
  obtain ⟨hrun, hO'⟩ := copy_hands (ty := o.type) (sCap := sCap) (dCap := dCap) hO ho hck hk hsrc
  unfold Oper.wp
  simp [execOp, hop, resolve, invoke, builtin, hd, hs, hrun, Result.andThen]
  exact h _ rfl hO'
end Go.Proofs.Ytbemlfppekpmjaa
