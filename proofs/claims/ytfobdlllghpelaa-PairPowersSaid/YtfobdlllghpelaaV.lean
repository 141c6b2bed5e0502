import Derived.Test.YtfobdlllghpelaaU
namespace Go.Proofs.Ytfobdlllghpelaa
open Go.RowKit Go.Shelf Pair
attribute [local go_sem] Oper.semAt_some

set_option maxHeartbeats 1000000 in
set_option maxRecDepth 100000 in
theorem cut35 {w : World} {u : Value} {xs : List Int} (h : InRow w u xs) (m : Nat) (hm : m ≤ 100) :
    Calls Try.prog 35 #[u, .int .i64 m] w (Made w (xs.take m)) := by
  obtain ⟨hr, hl, ao, c, rfl, hao⟩ := h
  obtain ⟨n, hn⟩ : ∃ n, n = xs.length := ⟨_, rfl⟩
  unfold maxLen at hl
  rw [← hn] at hl hr ⊢
  have hcl : n ≤ c := by obtain ⟨ao', c', e, h2, _⟩ := hr; cases e; omega
  have hr' := Lib.hid hr
  have hao' := Lib.hid hao
  have hlit := Lib.hid (Ints.lit w w.heap.size (Nat.le_refl _))
  have hsh : ∀ k, k ≤ n → (Value.slice ao k c = .slice none 0 0 ∨ ∃ ad l c', Value.slice ao k c = .slice (some ad) l c') := by
    intro k hk
    cases ao with
    | none => have := hao rfl; left; have : n = 0 := by omega
              rw [show k = 0 by omega, show c = 0 by omega]
    | some ad => exact .inr ⟨ad, _, _, rfl⟩
  have hsh' := Lib.hid hsh
  have hb1 := Lib.hid (below_alloc1 w (.cells #[] 3))
  clear hsh hao
  by_cases h1 : n ≤ m
  · have ht := Lib.hid (show xs.take m = xs from List.take_of_length_le (by omega))
    have hrd := Lib.hid (hr.below hb1.out)
    have hn' := Lib.hid hn
    clear hr hn
    have hmn : min (n : Int) (m : Int) = (n : Int) := by omega
    go_enter Try.func35, Try.ntmps35
    go_wp2_with (first | (at_builtin; refine app_ints hlit.out hrd.out (hsh'.out n (Nat.le_refl _)) (by rw [← hn'.out]; simp; omega) (by simp) rfl _ _ rfl rfl rfl ?_; intro v' w2 hown2 hb2))
    go_ret
    exact ⟨_, rfl, by rw [ht.out]; exact hown2, hb1.out.trans hb2⟩
  · have hrd := Lib.hid ((hr.take hn.symm (m := m) (by omega)).below hb1.out)
    have htl := Lib.hid (show (xs.take m).length = m by rw [List.length_take]; omega)
    clear hr hn
    have hmn : min (n : Int) (m : Int) = (m : Int) := by omega
    go_enter Try.func35, Try.ntmps35
    go_wp2_with (first | (at_builtin; refine app_ints hlit.out hrd.out (hsh'.out m (by omega)) (by rw [htl.out]; simp; omega) (by simp) rfl _ _ rfl rfl rfl ?_; intro v' w2 hown2 hb2))
    go_ret
    exact ⟨_, rfl, hown2, hb1.out.trans hb2⟩


/-- The first rows, each cut. -/
def fewC (gs : List (List Int)) (k : Nat) : List (List Int) := (gs.take k).map fun l => l.take 9
theorem fewC_len (gs : List (List Int)) (k : Nat) (h : k ≤ gs.length) : (fewC gs k).length = k := by simp [fewC]; omega
theorem fewC_snoc (gs : List (List Int)) (k : Nat) (h : k < gs.length) : fewC gs (k + 1) = fewC gs k ++ [(gs.getD k []).take 9] := by
  unfold fewC
  rw [List.take_succ_eq_append_getElem h, List.map_append]
  simp [List.getD_eq_getElem?_getD, h]
theorem fewC_row (gs : List (List Int)) (k j : Nat) : ((fewC gs k).getD j []).length ≤ 9 := by
  unfold fewC
  rw [List.getD_eq_getElem?_getD, List.getElem?_map]
  cases h : (gs.take k)[j]? with
  | none => simp
  | some l => simp; omega
def mostC (gs : List (List Int)) : Nat := if 8 < gs.length then 9 else 6
/-- What the law tries. -/
def fewOf (gs : List (List Int)) : List (List Int) := fewC gs (min gs.length (mostC gs))

set_option maxHeartbeats 2000000 in
set_option maxRecDepth 100000 in
theorem few18 {w : World} {v : Value} {gs : List (List Int)} (hg : InRows w v gs) :
    Calls Try.prog 18 #[v] w fun e w' => ∃ v', e = .returned v' ∧ OwnG w' w.heap.size v' (fewOf gs) ∧ Below w.heap.size w w' := by
  obtain ⟨go, gc, rfl, hgc, hgm, h1⟩ := hg
  have hM := Lib.hid (show mostC gs = if 8 < gs.length then 9 else 6 from rfl)
  unfold fewOf
  obtain ⟨M, hMq⟩ : ∃ M, M = mostC gs := ⟨_, rfl⟩
  rw [← hMq] at hM ⊢
  obtain ⟨n, hn⟩ : ∃ n, n = gs.length := ⟨_, rfl⟩
  rw [← hn] at hgc hgm hM ⊢
  unfold maxLen at hgm
  have hn' := Lib.hid hn
  have h1' := Lib.hid h1
  clear hn h1 hMq
  have hM9 : 6 ≤ M ∧ M ≤ 9 := by rw [hM.out]; split <;> omega
  have hg0 := OwnG.lit w w.heap.size (Nat.le_refl _)
  have hb0 := below_alloc1 w (.cells #[] 24)
  clear hM9
  by_cases h8 : 8 < n
  · obtain rfl : M = 9 := by rw [hM.out, if_pos h8]
    clear hM
    go_enter Try.func18, Try.ntmps18
    go_wp2_with fail
    rw [show decide ((8 : Int) < (n : Int)) = true by simp; omega]
    go_loopw [3, 5] (fun p i wr => ∃ (k : Nat), k ≤ n ∧ k ≤ 9 ∧ i = .int .i64 k ∧ OwnG wr w.heap.size p (fewC gs k) ∧ Below w.heap.size w wr) (fun _ i _ => 9 - (intOf i).toNat)
    case atStart => exact ⟨0, Nat.zero_le _, by omega, rfl, by have : fewC gs 0 = [] := by simp [fewC]
                                                               rw [this]; exact hg0, hb0⟩
    case round =>
      obtain ⟨k, hk, hk9, rfl, hown, hb⟩ := hrel
      have hsz := hb.size
      by_cases hkn : k < n
      · by_cases hk8 : k < 9
        · have e1 := hn'.out
          obtain ⟨g, o, rfl, hg, hc1⟩ := h1'.out (fun e => by rw [e] at e1; simp at e1; omega)
          obtain ⟨y, c1, hy⟩ := hc1 k (by omega)
          have cc1 := (hb.cell (p := ⟨g, o + k, none⟩) hg).trans c1
          have hy2 := Lib.hid (hy.below hb)
          have hsn := Lib.hid (fewC_snoc gs k (by omega))
          have hfl := Lib.hid (fewC_len gs k (by omega))
          have hown' := Lib.hid hown
          obtain ⟨l, hl⟩ : ∃ l, l = gs.getD k [] := ⟨_, rfl⟩
          obtain ⟨ys, hys⟩ : ∃ ys, ys = l.take 9 := ⟨_, rfl⟩
          rw [← hl] at hy2 hsn hy
          rw [← hys] at hsn
          obtain ⟨ro, rc, rfl, _⟩ := hy.2.2
          have hys' := Lib.hid hys
          clear hc1 e1 hown hy hl hys
          obtain ⟨m, hm⟩ : ∃ m, m = l.length := ⟨_, rfl⟩
          rw [← hm] at cc1 hy2
          clear hm c1
          go_wp2_with fail
          refine (cut35 hy2.out 9 (by omega)).mono ?_
          rw [← hys'.out]
          rintro e w1 ⟨v1, rfl, hv1, hb3⟩
          have hs3 := hb3.size
          have hv1' := Lib.hid (hv1.base (B' := w.heap.size) hsz)
          obtain ⟨va, vc, rfl, _⟩ := hv1.shape
          have hown1 := Lib.hid (hown'.out.below hb3)
          have hB3 := hb.trans (hb3.mono hsz)
          go_wp2_with (first | (at_builtin; refine app_row hown1.out hv1'.out (by rw [hfl.out]; omega) (by omega) rfl _ _ rfl rfl rfl ?_; intro v' w2 hown2 hb4 hkeep; clear hkeep))
          go_roundw
          case rel => exact ⟨k + 1, by omega, by omega, by go_num, by rw [hsn.out]; exact hown2, hB3.trans hb4⟩
          case measure => simp [intOf]; omega
        · have hmn := Lib.hid (show min n 9 = k by omega)
          have hown' := Lib.hid hown
          clear hown
          go_wp2_with fail
          go_ret
          exact ⟨_, rfl, by rw [hmn.out]; exact hown'.out, hb⟩
      · have hmn := Lib.hid (show min n 9 = k by omega)
        have hown' := Lib.hid hown
        clear hown
        go_wp2_with fail
        go_ret
        exact ⟨_, rfl, by rw [hmn.out]; exact hown'.out, hb⟩
  · obtain rfl : M = 6 := by rw [hM.out, if_neg h8]
    clear hM
    go_enter Try.func18, Try.ntmps18
    go_wp2_with fail
    rw [show decide ((8 : Int) < (n : Int)) = false by simp; omega]
    go_loopw [3, 5] (fun p i wr => ∃ (k : Nat), k ≤ n ∧ k ≤ 6 ∧ i = .int .i64 k ∧ OwnG wr w.heap.size p (fewC gs k) ∧ Below w.heap.size w wr) (fun _ i _ => 9 - (intOf i).toNat)
    case atStart => exact ⟨0, Nat.zero_le _, by omega, rfl, by have : fewC gs 0 = [] := by simp [fewC]
                                                               rw [this]; exact hg0, hb0⟩
    case round =>
      obtain ⟨k, hk, hk9, rfl, hown, hb⟩ := hrel
      have hsz := hb.size
      by_cases hkn : k < n
      · by_cases hk8 : k < 6
        · have e1 := hn'.out
          obtain ⟨g, o, rfl, hg, hc1⟩ := h1'.out (fun e => by rw [e] at e1; simp at e1; omega)
          obtain ⟨y, c1, hy⟩ := hc1 k (by omega)
          have cc1 := (hb.cell (p := ⟨g, o + k, none⟩) hg).trans c1
          have hy2 := Lib.hid (hy.below hb)
          have hsn := Lib.hid (fewC_snoc gs k (by omega))
          have hfl := Lib.hid (fewC_len gs k (by omega))
          have hown' := Lib.hid hown
          obtain ⟨l, hl⟩ : ∃ l, l = gs.getD k [] := ⟨_, rfl⟩
          obtain ⟨ys, hys⟩ : ∃ ys, ys = l.take 9 := ⟨_, rfl⟩
          rw [← hl] at hy2 hsn hy
          rw [← hys] at hsn
          obtain ⟨ro, rc, rfl, _⟩ := hy.2.2
          have hys' := Lib.hid hys
          clear hc1 e1 hown hy hl hys
          obtain ⟨m, hm⟩ : ∃ m, m = l.length := ⟨_, rfl⟩
          rw [← hm] at cc1 hy2
          clear hm c1
          go_wp2_with fail
          refine (cut35 hy2.out 9 (by omega)).mono ?_
          rw [← hys'.out]
          rintro e w1 ⟨v1, rfl, hv1, hb3⟩
          have hs3 := hb3.size
          have hv1' := Lib.hid (hv1.base (B' := w.heap.size) hsz)
          obtain ⟨va, vc, rfl, _⟩ := hv1.shape
          have hown1 := Lib.hid (hown'.out.below hb3)
          have hB3 := hb.trans (hb3.mono hsz)
          go_wp2_with (first | (at_builtin; refine app_row hown1.out hv1'.out (by rw [hfl.out]; omega) (by omega) rfl _ _ rfl rfl rfl ?_; intro v' w2 hown2 hb4 hkeep; clear hkeep))
          go_roundw
          case rel => exact ⟨k + 1, by omega, by omega, by go_num, by rw [hsn.out]; exact hown2, hB3.trans hb4⟩
          case measure => simp [intOf]; omega
        · have hmn := Lib.hid (show min n 6 = k by omega)
          have hown' := Lib.hid hown
          clear hown
          go_wp2_with fail
          go_ret
          exact ⟨_, rfl, by rw [hmn.out]; exact hown'.out, hb⟩
      · have hmn := Lib.hid (show min n 6 = k by omega)
        have hown' := Lib.hid hown
        clear hown
        go_wp2_with fail
        go_ret
        exact ⟨_, rfl, by rw [hmn.out]; exact hown'.out, hb⟩

theorem few_cst {w : World} {B : Nat} {v : Value} {gs : List (List Int)} (h : OwnG w B v (fewOf gs)) : Cst w v (fewOf gs) :=
  ⟨h.shape, by rw [fewOf, fewC_len _ _ (by omega)]; unfold mostC; split <;> omega, fun j _ => by have := fewC_row gs (min gs.length (mostC gs)) j; unfold fewOf; omega⟩

theorem in53 {w : World} (v lo hi : Int) : Calls Try.prog 53 #[.int .i64 v, .int .i64 lo, .int .i64 hi] w fun e w' => e = .returned (.bool (decide (lo ≤ v) && decide (v ≤ hi))) ∧ w = w' := by
  by_cases h1 : lo ≤ v
  · by_cases h2 : v ≤ hi
    · have hf := Lib.hid (show (decide (lo ≤ v) && decide (v ≤ hi)) = true by simp [h1, h2])
      go_enter Try.func53, Try.ntmps53
      go_wp2
      go_ret
      exact ⟨ret_b hf.out.symm, rfl⟩
    · have hf := Lib.hid (show decide (v ≤ hi) = false by simp [h2])
      go_enter Try.func53, Try.ntmps53
      go_wp2
      go_ret
      exact ⟨ret_b hf.out.symm, rfl⟩
  · have hf := Lib.hid (show (decide (lo ≤ v) && decide (v ≤ hi)) = false by simp [h1])
    go_enter Try.func53, Try.ntmps53
    go_wp2
    go_ret
    exact ⟨ret_b hf.out.symm, rfl⟩

set_option maxHeartbeats 2000000 in
set_option maxRecDepth 100000 in
theorem costs21 {w : World} {v : Value} {cs : List (List Int)} (h : Cst w v cs) :
    Calls Try.prog 21 #[v] w fun e w' => e = .returned (.bool (validC cs)) ∧ w = w' := by
  obtain ⟨⟨ao, c, rfl, _, h1⟩, hl, hl2⟩ := h
  obtain ⟨n, hn⟩ : ∃ n, n = cs.length := ⟨_, rfl⟩
  have hR := Lib.hid (show validC cs = (decide (1 ≤ n) && decide (n ≤ 8) && rowsOk n cs) by rw [hn]; rfl)
  rw [← hn] at hl ⊢
  have h1' := Lib.hid h1
  have hn' := Lib.hid hn
  have hl2' := Lib.hid hl2
  have hin := Lib.hid (fun (w : World) (v lo hi : Int) => in53 (w := w) v lo hi)
  clear h1 hn hl2
  go_enter Try.func21, Try.ntmps21
  go_wp2_with fail
  go_loop [4] (fun i => ∃ k : Nat, k ≤ n ∧ i = .int .i64 k ∧ Hid (rowsOk n cs = rowsOk n (cs.drop k))) (fun i => n - (intOf i).toNat)
  case atStart => exact ⟨0, Nat.zero_le _, rfl, Lib.hid rfl⟩
  case round =>
    obtain ⟨k, hk, rfl, hj⟩ := hrel
    by_cases hlt : k < n
    · obtain ⟨g, o, rfl, hg, hc1⟩ := h1'.out (fun e => by have := hn'.out; rw [e] at this; simp at this; omega)
      obtain ⟨y, c1, hy⟩ := hc1 k (by rw [← hn'.out]; exact hlt)
      have hd := Lib.hid (drop_consG cs k (by rw [← hn'.out]; exact hlt))
      have hgk := hl2'.out k (by rw [← hn'.out]; exact hlt)
      clear hc1
      obtain ⟨l, hl3⟩ : ∃ l, l = cs.getD k [] := ⟨_, rfl⟩
      rw [← hl3] at hy hgk hd
      clear hl3
      obtain ⟨ro, rc, rfl, hrc, hrow⟩ := hy
      obtain ⟨m, hm⟩ : ∃ m, m = l.length := ⟨_, rfl⟩
      rw [← hm] at c1 hgk hrc
      have hrow' := Lib.hid hrow
      have hm' := Lib.hid hm
      clear hrow hm
      by_cases hmn : m = n
      · obtain rfl : n = m := hmn.symm
        have hj2 := Lib.hid (show rowsOk n cs = (entOk l && rowsOk n (cs.drop (k + 1))) by rw [hj.out, hd.out, rowsOk_cons, ← hm'.out]; simp)
        go_wp2_with fail
        go_loop [5] (fun i => ∃ q : Nat, q ≤ n ∧ i = .int .i64 q ∧ Hid (entOk l = entOk (l.drop q))) (fun i => n - (intOf i).toNat)
        case atStart => exact ⟨0, Nat.zero_le _, rfl, Lib.hid rfl⟩
        case round =>
          obtain ⟨q, hq, rfl, hjq⟩ := hrel
          by_cases hqt : q < n
          · obtain ⟨g2, o2, rfl, hg2, hc2⟩ := hrow'.out (fun e => by have := hm'.out; rw [e] at this; simp at this; omega)
            have c2 := hc2 q (by rw [← hm'.out]; exact hqt)
            have hd2 := Lib.hid (drop_cons l q (by rw [← hm'.out]; exact hqt))
            clear hc2
            obtain ⟨x, hx⟩ : ∃ x, x = l.getD q 0 := ⟨_, rfl⟩
            rw [← hx] at c2
            have hx' := Lib.hid hx
            clear hx
            obtain ⟨b, hb⟩ : ∃ b, b = (decide (0 ≤ x) && decide (x ≤ 1000)) := ⟨_, rfl⟩
            have hinx := Lib.hid (hin.out w x 0 1000)
            rw [← hb] at hinx
            have hbe := Lib.hid (show entOk (l.drop q) = (b && entOk (l.drop (q + 1))) by rw [hd2.out, entOk_cons, ← hx'.out, hb])
            clear hb
            cases b with
            | false =>
              have hf := Lib.hid (show validC cs = false by rw [hR.out, hj2.out, hjq.out, hbe.out]; simp)
              go_wp2_with fail
              refine (hinx.out).mono ?_
              rintro e w1 ⟨rfl, rfl⟩
              go_wp2_with fail
              go_ret
              exact ⟨ret_b hf.out.symm, rfl⟩
            | true =>
              have hf := Lib.hid (show entOk l = entOk (l.drop (q + 1)) by rw [hjq.out, hbe.out]; simp)
              go_wp2_with fail
              refine (hinx.out).mono ?_
              rintro e w1 ⟨rfl, rfl⟩
              go_wp2_with fail
              go_round
              case rel => exact ⟨q + 1, by omega, by go_num, hf⟩
              case measure => simp [intOf]; omega
          · have hf := Lib.hid (show rowsOk n cs = rowsOk n (cs.drop (k + 1)) by
              rw [hj2.out, hjq.out, drop_end l q (by rw [← hm'.out]; omega)]; rfl)
            go_wp2_with fail
            go_round
            case rel => exact ⟨k + 1, by omega, by go_num, hf⟩
            case measure => simp [intOf]; omega
      · have hf := Lib.hid (show validC cs = false by rw [hR.out, hj.out, hd.out, rowsOk_cons, ← hm'.out]; simp [hmn])
        have hmn2 : ((m : Int) != (n : Int)) = true := by simp; omega
        go_wp2_with fail
        go_ret
        exact ⟨ret_b hf.out.symm, rfl⟩
    · have hf := Lib.hid (show validC cs = (decide ((1 : Int) ≤ (n : Int)) && decide ((n : Int) ≤ 8)) by
        rw [hR.out, hj.out, drop_end cs k (by rw [← hn'.out]; omega)]
        have e1 : decide ((1 : Int) ≤ (n : Int)) = decide (1 ≤ n) := by by_cases h : 1 ≤ n <;> simp [h] <;> omega
        have e2 : decide ((n : Int) ≤ 8) = decide (n ≤ 8) := by by_cases h : n ≤ 8 <;> simp [h] <;> omega
        rw [e1, e2]; simp [rowsOk])
      go_wp2_with fail
      refine (hin.out _ _ _ _).mono ?_
      rintro e w1 ⟨rfl, rfl⟩
      go_wp2_with fail
      go_ret
      exact ⟨ret_b hf.out.symm, rfl⟩
end Go.Proofs.Ytfobdlllghpelaa
