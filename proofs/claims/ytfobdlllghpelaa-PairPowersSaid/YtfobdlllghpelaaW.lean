import Derived.Test.YtfobdlllghpelaaV
namespace Go.Proofs.Ytfobdlllghpelaa
open Go.RowKit Go.Shelf Pair
attribute [local go_sem] Oper.semAt_some

/-- Some of the rows is allowed the column. -/
def nbS (cs : List (List Int)) (lim : Int) (l : List Nat) (j : Nat) : Bool := l.any fun i => decide (costAt cs i j ≤ lim)
def hdN (cs : List (List Int)) (lim : Int) (l : List Nat) (k : Nat) : Nat := ((List.range k).filter (nbS cs lim l)).length
theorem hdN_succ (cs : List (List Int)) (lim : Int) (l : List Nat) (k : Nat) : hdN cs lim l (k + 1) = hdN cs lim l k + (if nbS cs lim l k then 1 else 0) := by
  unfold hdN
  rw [List.range_succ, List.filter_append, List.length_append]
  cases h : nbS cs lim l k <;> simp [h]
theorem hdl_bit (al : List Nat) (j : Nat) : ∀ (l : List Nat) (m : Nat), (l.foldl (fun m i => m ||| al.getD i 0) m).testBit j = (m.testBit j || l.any fun i => (al.getD i 0).testBit j)
  | [], m => by simp
  | i :: l, m => by
    rw [List.foldl_cons, hdl_bit al j l, Nat.testBit_or, List.any_cons, Bool.or_assoc]
theorem any_congr' {α : Type} {p q : α → Bool} : ∀ {l : List α}, (∀ a ∈ l, p a = q a) → l.any p = l.any q
  | [], _ => rfl
  | a :: l, h => by rw [List.any_cons, List.any_cons, h a (List.mem_cons_self ..), any_congr' fun b hb => h b (List.mem_cons_of_mem _ hb)]
theorem hdN_eq {cs : List (List Int)} {n : Nat} {lim : Int} {l : List Nat} (hn8 : n ≤ 8) (hbd : ∀ i j, i < n → j < n → 0 ≤ costAt cs i j ∧ costAt cs i j ≤ 1000) (hl : ∀ i ∈ l, i < n) :
    hdN cs lim l n = szS (hdlK (alwL cs 0 lim n) l) := by
  have hb : ∀ j, (hdlK (alwL cs 0 lim n) l).testBit j = l.any fun i => decide (j < n) && okM cs 0 lim i j := fun j => by
    unfold hdlK
    rw [hdl_bit, Nat.zero_testBit, Bool.false_or]
    exact any_congr' fun i hi => by rw [alwL_at (hl i hi), maskTo_bit]
  unfold hdN szS
  rw [filter_low hn8 (p := fun j => (hdlK (alwL cs 0 lim n) l).testBit j) (q := nbS cs lim l)]
  · intro j hj
    rw [hb]
    unfold nbS
    exact any_congr' fun i hi => by
      have := (hbd i j (hl i hi) hj).1
      unfold okM
      simp [hj, this]
  · intro j hj _
    rw [hb]
    rw [any_congr' (q := fun _ => false) (fun i _ => by simp; omega)]
    simp
def blT (S k : Nat) : List Nat := (List.range k).filter fun j => S.testBit j
theorem blT_succ (S k : Nat) : blT S (k + 1) = if S.testBit k then blT S k ++ [k] else blT S k := by
  unfold blT
  rw [List.range_succ, List.filter_append]
  cases h : S.testBit k <;> simp [h]
theorem blT_all {S n : Nat} (hS : S < 2 ^ n) (hn : n ≤ 8) : blT S n = bl S := (filter_low hn (fun _ _ => rfl) (fun _ h _ => low_bit hS h)).symm
theorem blT_len (S k : Nat) : (blT S k).length ≤ k := by
  have h := List.length_filter_le (fun j => S.testBit j) (List.range k)
  rw [List.length_range] at h; exact h
theorem sh_tab : ∀ S : Nat, S < 256 → ∀ j : Nat, j < 8 → (bits BinOp.and IntKind.i64 ((S : Int) / 2 ^ min j 64) 1 == 1) = S.testBit j := by decide +kernel
theorem befB_lt {l b : List Nat} (h : l.length < b.length) : befB l b = true := by
  unfold befB orI
  rw [if_neg (by omega)]; simp; omega
theorem befB_gt {l b : List Nat} (h : b.length < l.length) : befB l b = false := by
  unfold befB orI
  rw [if_neg (by omega)]; simp; omega
theorem befB_eq {l b : List Nat} (h : l.length = b.length) : befB l b = decide (cmpL (natI l) (natI b) < 0) := by
  unfold befB orI
  rw [if_pos (by omega)]
theorem lkM_zero (al : List Nat) : lkM al 1 = none := by
  show (if lackB al 0 then _ else _) = _
  rw [if_neg]
  · rfl
  · unfold lackB; simp [show szS 0 = 0 from rfl]
theorem int_val {w : World} {B : Nat} {v : Value} {l : List Nat} (h : Ints w B v (natI l)) (hne : l ≠ []) :
    ∃ g cap, v = .slice (some ⟨g, 0, none⟩) l.length cap ∧ g < w.heap.size ∧ (∀ j, j < l.length → w.cell? ⟨g, j, none⟩ = some (.int .i64 ((l.getD j 0 : Nat) : Int))) ∧ Reads w (.slice (some ⟨g, 0, none⟩) l.length cap) (natI l) := by
  obtain ⟨g, cap, he, _, hg, hc, _⟩ := ints_parts h (by intro e; exact hne (by simpa [natI] using e))
  rw [natI_len] at he hc
  subst he
  refine ⟨g, cap, rfl, hg, fun j hj => ?_, h.shape⟩
  rw [hc j hj]
  simp [natI, List.getD_eq_getElem?_getD, hj]

set_option maxHeartbeats 2000000 in
set_option maxRecDepth 100000 in
/-- The order of two lists of one length. -/
theorem less58 {w : World} {u v : Value} {xs ys : List Int} (hu : Reads w u xs) (hv : Reads w v ys) (hl : xs.length ≤ 1000000) (hm : xs.length = ys.length) :
    Calls Try.prog 58 #[u, v] w fun e w' => e = .returned (.bool (decide (cmpL xs ys < 0))) ∧ Below w.heap.size w w' := by
  obtain ⟨ao, c, rfl, _, h1⟩ := hu
  obtain ⟨bo, d, rfl, _, h2⟩ := hv
  rw [← hm]
  obtain ⟨n, hn⟩ : ∃ n, n = xs.length := ⟨_, rfl⟩
  rw [← hn] at hl hm ⊢
  have hn' := Lib.hid hn
  have hm' := Lib.hid hm
  have h1' := Lib.hid h1
  have h2' := Lib.hid h2
  clear hn hm h1 h2
  go_enter Try.func58, Try.ntmps58
  go_wp2
  go_loopw [5] (fun i wr => ∃ k : Nat, k ≤ n ∧ i = .int .i64 k ∧ Hid (cmpL xs ys = cmpL (xs.drop k) (ys.drop k)) ∧ Below w.heap.size w wr) (fun i _ => n - (intOf i).toNat)
  case atStart => exact ⟨0, Nat.zero_le _, rfl, Lib.hid rfl, Below.refl _ _⟩
  case round =>
    obtain ⟨k, hk, rfl, hj, hb⟩ := hrel
    by_cases hlt : k < n
    · have e1 := hn'.out
      have e2 := hm'.out
      obtain ⟨g, o, rfl, hg, hc1⟩ := h1'.out (fun e => by rw [e] at e1; simp at e1; omega)
      obtain ⟨f, p, rfl, hf, hc2⟩ := h2'.out (fun e => by rw [e] at e2; simp at e2; omega)
      have c1 := (hb.cell (p := ⟨g, o + k, none⟩) hg).trans (hc1 k (by omega))
      have c2 := (hb.cell (p := ⟨f, p + k, none⟩) hf).trans (hc2 k (by omega))
      have hd1 := Lib.hid (drop_cons xs k (by omega))
      have hd2 := Lib.hid (drop_cons ys k (by omega))
      clear hc1 hc2 e1 e2
      obtain ⟨x, hx⟩ : ∃ x, x = xs.getD k 0 := ⟨_, rfl⟩
      obtain ⟨y, hy⟩ : ∃ x, x = ys.getD k 0 := ⟨_, rfl⟩
      rw [← hx] at c1 hd1
      rw [← hy] at c2 hd2
      clear hx hy
      have hs := Lib.hid (show cmpL xs ys = if cmpI x y = 0 then cmpL (xs.drop (k + 1)) (ys.drop (k + 1)) else cmpI x y by rw [hj.out, hd1.out, hd2.out]; rfl)
      by_cases hxy : x = y
      · have ht : (x != y) = false := by simp [hxy]
        have hs' := Lib.hid (show cmpL xs ys = cmpL (xs.drop (k + 1)) (ys.drop (k + 1)) by rw [hs.out, if_pos (by subst hxy; simp [cmpI])])
        clear hxy
        go_wp2
        go_quiet (fail)
        go_wp2
        go_roundw
        case rel => exact ⟨k + 1, by omega, by go_num, hs', below_drewN hb _⟩
        case measure => simp [intOf]; omega
      · have ht : (x != y) = true := by simp [hxy]
        have hs' := Lib.hid (show decide (cmpL xs ys < 0) = decide (x < y) by
          rw [hs.out]
          unfold cmpI
          by_cases h : x < y
          · simp [h]
          · simp [h, show y < x by omega])
        clear hxy
        go_wp2
        go_quiet (fail)
        go_wp2
        go_quiet (fail)
        go_wp2
        go_ret
        exact ⟨ret_b hs'.out.symm, below_drewN (below_drewN hb _) _⟩
    · have hf := Lib.hid (show decide (cmpL xs ys < 0) = false by
        rw [hj.out, drop_end xs k (by rw [← hn'.out]; omega), drop_end ys k (by rw [← hm'.out]; omega)]; rfl)
      go_wp2
      go_ret
      exact ⟨ret_b hf.out.symm, hb⟩
end Go.Proofs.Ytfobdlllghpelaa
