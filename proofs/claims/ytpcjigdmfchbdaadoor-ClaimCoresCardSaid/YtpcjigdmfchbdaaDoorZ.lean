import Derived.Test.YtpcjigdmfchbdaaDoorY
namespace Go.Proofs.YtpcjigdmfchbdaaDoor
open Go.RowKit Go.Shelf Cl

/-! ## Ways around -/
def asD (L : Atts) : Array Value := #[.int .u64 (ag L 0 : Int), .int .u64 (ag L 1 : Int), .int .u64 (ag L 2 : Int), .int .u64 (ag L 3 : Int), .int .u64 (ag L 4 : Int), .int .u64 (ag L 5 : Int), .int .u64 (ag L 6 : Int), .int .u64 (ag L 7 : Int), .int .u64 (ag L 8 : Int), .int .u64 (ag L 9 : Int), .int .u64 (ag L 10 : Int), .int .u64 (ag L 11 : Int)]
theorem asD_at (L : Atts) (i : Nat) (hi : i < 12) : (asD L)[i]? = some (.int .u64 (ag L i : Int)) := by
  match i, hi with
  | 0, _ => rfl
  | 1, _ => rfl
  | 2, _ => rfl
  | 3, _ => rfl
  | 4, _ => rfl
  | 5, _ => rfl
  | 6, _ => rfl
  | 7, _ => rfl
  | 8, _ => rfl
  | 9, _ => rfl
  | 10, _ => rfl
  | 11, _ => rfl
/-- The rest of a way around, where `k` steps are left behind the next one. -/
def arP (L : Atts) (s : Nat) : Nat → Nat → List Nat
  | 0, _ => []
  | k + 1, x => low (tg L x &&& frm L s (k + 1)) :: arP L s k (low (tg L x &&& frm L s (k + 1)))
theorem low_mem {S : Nat} (hS : S < 4096) (h0 : S ≠ 0) : S.testBit (low S) = true ∧ low S < 12 := by
  obtain ⟨h1, h2⟩ := bl_tab S hS h0
  have : low S ∈ bl S := by rw [h1]; simp
  exact ⟨(mem_bl.1 this).2, h2⟩
/-- From where the start can be reached there is a next one. -/
theorem ar_next {n : Nat} {L : Atts} (hD : OkD n L) {s k x : Nat} (hs : s < n) (h : (frm L s (k + 1)).testBit x = true) : tg L x &&& frm L s k ≠ 0 ∧ (frm L s k).testBit (low (tg L x &&& frm L s k)) = true ∧ low (tg L x &&& frm L s k) < 12 := by
  obtain ⟨c, hc, hw⟩ := (frm_bit hD.nn hD.within hs (k + 1) x).1 h
  have h1 := (frm_bit hD.nn hD.within hs k c).2 hw
  have h2 : (tg L x &&& frm L s k).testBit c = true := by rw [Nat.testBit_and, h1, tg_bit.2 hc]; rfl
  have hne : tg L x &&& frm L s k ≠ 0 := fun e => by rw [e, Nat.zero_testBit] at h2; cases h2
  obtain ⟨h3, h4⟩ := low_mem (and_lt (frm L s k) (hD.tlt x)) hne
  rw [Nat.testBit_and, Bool.and_eq_true] at h3
  exact ⟨hne, h3.2, h4⟩
def AroundEnd (w : World) (L : Atts) (s len : Nat) (e : Ending) (w' : World) : Prop :=
  (((frm L s len).testBit s = false ∧ e = .returned (.slice none 0 0)) ∨ ((frm L s len).testBit s = true ∧ ∃ g c, e = .returned (.slice (some ⟨g, 0, none⟩) len c) ∧ Ints w' w.heap.size (.slice (some ⟨g, 0, none⟩) len c) (natI (s :: arP L s (len - 1) s)))) ∧ Below w.heap.size w w'
theorem arP_len (L : Atts) (s : Nat) : ∀ k x, (arP L s k x).length = k
  | 0, _ => rfl
  | k + 1, x => by show (arP L s k _).length + 1 = k + 1; rw [arP_len]
/-- The way so far. -/
def arT (L : Atts) (s len j : Nat) : List Nat := (s :: arP L s (len - 1) s).take (j + 1)
def arX (L : Atts) (s len j : Nat) : Nat := (s :: arP L s (len - 1) s).getD j 0
theorem arP_getD (L : Atts) (s : Nat) : ∀ (k x j : Nat), j < k → (x :: arP L s k x).getD (j + 1) 0 = low (tg L ((x :: arP L s k x).getD j 0) &&& frm L s (k - j))
  | 0, _, _, h => by omega
  | k + 1, x, 0, _ => rfl
  | k + 1, x, j + 1, h => by
    have := arP_getD L s k (low (tg L x &&& frm L s (k + 1))) j (by omega)
    rw [show k + 1 - (j + 1) = k - j by omega]
    exact this
theorem arX_next (L : Atts) (s len j : Nat) (h : j + 1 < len) : arX L s len (j + 1) = low (tg L (arX L s len j) &&& frm L s (len - 1 - j)) := arP_getD L s (len - 1) s j (by omega)
theorem arT_next (L : Atts) (s len j : Nat) (h : j + 1 < len) : arT L s len (j + 1) = arT L s len j ++ [arX L s len (j + 1)] := take_snoc _ _ (by simp [arP_len]; omega)
theorem arT_all (L : Atts) (s len : Nat) : arT L s len (len - 1) = s :: arP L s (len - 1) s := List.take_of_length_le (by simp [arP_len])
theorem ar_inv {n : Nat} {L : Atts} (hD : OkD n L) {s len : Nat} (hs : s < n) (h : (frm L s len).testBit s = true) : ∀ j, j < len → (frm L s (len - j)).testBit (arX L s len j) = true ∧ arX L s len j < 12
  | 0, _ => ⟨h, Nat.lt_of_lt_of_le hs hD.nn⟩
  | j + 1, hj => by
    obtain ⟨h1, h2⟩ := ar_inv hD hs h j (by omega)
    rw [show len - j = (len - 1 - j) + 1 by omega] at h1
    obtain ⟨_, h3, h4⟩ := ar_next hD hs h1
    rw [arX_next L s len j hj, show len - (j + 1) = len - 1 - j by omega]
    exact ⟨h3, h4⟩
def frT (L : Atts) (s k : Nat) : List Nat := (List.range k).map (frm L s)
theorem frT_succ (L : Atts) (s k : Nat) : frT L s (k + 1) = frT L s k ++ [frm L s k] := by unfold frT; rw [List.range_succ, List.map_append]; rfl
theorem frT_len (L : Atts) (s k : Nat) : (frT L s k).length = k := by simp [frT]
theorem frT_at (L : Atts) (s k j : Nat) (h : j < k) : (frT L s k).getD j 0 = frm L s j := by simp [frT, List.getD_eq_getElem?_getD, h]
theorem own_full (w : World) {B : Nat} (e : TypeId) (cur : Array Value) (hb : B ≤ w.heap.size) (hm : cur.size ≤ maxLen) : (w.alloc (.cells cur e)).ownsRow B e 1 (.slice (some ⟨w.heap.size, 0, none⟩) cur.size cur.size) cur.size cur.toList :=
  ⟨by simp, .inr ⟨w.heap.size, cur.size, cur, rfl, hb, heap_alloc_new w _, Nat.le_refl _, hm, by simp, by rw [Nat.mul_one, List.take_of_length_le (by simp)]⟩⟩
set_option maxRecDepth 100000 in
/-- What lay in the row lies there still behind an append. -/
theorem app_keep {w w' : World} {B n cap bytes g j : Nat} {xs : List Value} {t e ty : TypeId} {i0 : TypeInfo} {zv v' y u : Value} {ad : Addr} (ht : Tryd.prog.underlying t = some (.slice e)) (hi : Tryd.prog.info? e = some i0) (hz0 : i0.zero = some zv) (hz1 : i0.size = 1) (hz2 : i0.bytes = bytes) (hby : bytes ≤ 100)
    (hown : w.ownsRow B e 1 (.slice (some ⟨g, 0, none⟩) n cap) n xs) (hc : ∀ j u, ([y] : List Value)[j]? = some u → w.cell? (ad.add j) = some u) (h1 : y.oneCell' = true) (hlen : n ≤ 999999)
    (hr : (Builtin.append_ #[t, t] ty #[.slice (some ⟨g, 0, none⟩) n cap, .slice (some ad) 1 1]).run Tryd.prog w = .ok v' w') (h2 : w'.ownsRow B e 1 v' (n + 1) (xs ++ [y])) (hj : j < n) (hu : w.cell? ⟨g, j, none⟩ = some u) : w'.cell? ⟨g, j, none⟩ = some u := by
  have hxl : xs.length = n := by have := hown.1; omega
  have hold := World.ownsRow.cells (g := g) hown rfl
  rcases hown.2 with ⟨e0, _⟩ | ⟨g', cap', cur, e0, hbg, hg, hnc, hcm, hcs, htake⟩
  · cases e0
  · injection e0 with e1 _ e3
    injection e1 with e1
    injection e1 with e1
    obtain rfl : g = g' := e1
    obtain rfl : cap = cap' := e3
    by_cases hroom : n + 1 ≤ cap
    · have hr2 := run_append_room (P := Tryd.prog) w t ty e i0 ht hi g n cap cur hg ad 1 1 [y] (by rw [hz1]; rfl) hc (by intro z hz; simp at hz; subst hz; exact h1) hroom (by rw [hz1, hcs]; simp; omega)
      rw [hr] at hr2
      simp only [Result.ok.injEq] at hr2
      obtain ⟨rfl, _⟩ := hr2
      have h3 := h2.cellAt j (by simp; omega)
      have h4 := hown.cellAt j (by omega)
      rw [hu] at h4
      rw [h3, List.getElem?_append_left (by omega), ← h4]
    · have hr2 := run_append_grow (P := Tryd.prog) w t ty e i0 zv ht hi hz0 ⟨g, 0, none⟩ n cap xs (by rw [hz1, hxl]; omega) hold ad 1 1 [y] (by rw [hz1]; rfl) hc (by omega) (by omega) (growslice_fits (by omega) (by rw [hz2]; have := Nat.mul_le_mul (show n + 1 ≤ 1000000 by omega) hby; omega))
      rw [hr] at hr2
      simp only [Result.ok.injEq] at hr2
      obtain ⟨_, rfl⟩ := hr2
      have hgl : g < w.heap.size := (Array.getElem?_eq_some_iff.1 hg).1
      exact ((Below.refl w.heap.size w).drew.alloc (Nat.le_refl _) _).cell (p := ⟨g, j, none⟩) hgl |>.trans hu
/-- append(s, y) of one cell, at a step of a drawn region. -/
theorem step_one {ops : Array Oper} {o : Oper} {a : Act} {w : World} {K : Act → World → Prop} {Q : Exit → Act → World → Prop} {E : Prop} {B n bytes : Nat} {v : Value} {xs : List Value} {t e : TypeId} {i0 : TypeInfo} {zv : Value}
    (ht : Tryd.prog.underlying t = some (.slice e)) (hi : Tryd.prog.info? e = some i0) (hz0 : i0.zero = some zv) (hz1 : i0.size = 1) (hz2 : i0.bytes = bytes) (hzc : zv.cells.size = 1) (hby : bytes ≤ 100)
    (hg : o.guard = none) (s x : Operand) (hop : o.op = Op.call { callee := Callee.builtin Builtin.append, args := #[s, x], argTypes := #[t, t] })
    (hown : w.ownsRow B e 1 v n xs) (hs : a.eval s = v) (g : Nat) (hx : a.eval x = .slice (some ⟨g, 0, none⟩) 1 1) (y : Value) (hy : w.cell? ⟨g, 0, none⟩ = some y) (h1 : y.oneCell' = true) (hlen : n ≤ 999999) (hB : B ≤ w.heap.size)
    (hK : ∀ v' w', w'.ownsRow B e 1 v' (n + 1) (xs ++ [y]) → Below B w w' → (∀ g cap j u, v = .slice (some ⟨g, 0, none⟩) n cap → j < n → w.cell? ⟨g, j, none⟩ = some u → w'.cell? ⟨g, j, none⟩ = some u) → K (a.put o.dst v') w') :
    if Region.wanted o (yielded ops a.tmps) = true then Oper.wp Tryd.prog o a w K Q else E := by
  have hw : Region.wanted o (yielded ops a.tmps) = true := by simp [Region.wanted, hg]
  rw [if_pos hw]
  have hc : ∀ j u, ([y] : List Value)[j]? = some u → w.cell? ((⟨g, 0, none⟩ : Addr).add j) = some u := by
    intro j u hj
    cases j with
    | zero => simp at hj; subst hj; simpa [Addr.add] using hy
    | succ j => simp at hj
  obtain ⟨v', w', hrun, r1, r2, _⟩ := run_append_own (P := Tryd.prog) w B t o.type e i0 zv 1 bytes ht hi hz0 hz1 hz2 hzc (by decide) v n xs hown ⟨g, 0, none⟩ 1 1 [y] rfl hc
    (by intro z hz; simp at hz; subst hz; exact h1) (by unfold maxLen; omega) (by have := Nat.mul_le_mul (show n + 1 ≤ 1000000 by omega) hby; omega) hB
  unfold Oper.wp
  simp [execOp, hop, resolve, invoke, builtin, hs, hx, hrun, Result.andThen]
  refine hK v' w' r1 ((Below.refl B w).grown r2 hB (fun k hk => (World.ownsRow.lt hown k hk).1)) ?_
  rintro g0 cap j u rfl hj hu
  exact app_keep ht hi hz0 hz1 hz2 hby hown hc h1 hlen hrun r1 hj hu
theorem asD_range {W : World} {b n : Nat} {L : Atts} (h : DAt W b n L) : W.rangeAt b 13 (asD L).toList := fun j v hj => by
  have hlt : j < 12 := (List.getElem?_eq_some_iff.1 hj).1
  have e := asD_at L j hlt
  rw [← Array.getElem?_toList, hj] at e
  rw [e]; exact h.ca hlt
theorem size72 : (Tryd.prog.info? 72).map (·.size) = some 12 := by kernel_rfl
end Go.Proofs.YtpcjigdmfchbdaaDoor
