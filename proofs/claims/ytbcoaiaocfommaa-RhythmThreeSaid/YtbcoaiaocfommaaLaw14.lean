import Derived.Test.YtbcoaiaocfommaaT
import Derived.Test.YtbcoaiaocfommaaN
import Derived.Test.YtbcoaiaocfommaaLaw3
namespace Go.Proofs.Ytbcoaiaocfommaa
open Go.RowKit

theorem crits_mem (l : List UInt8) (p : Nat) : ∀ k (x : Int), x ∈ crits l p k ↔ ∃ j, j < k ∧ x = (j : Int) + 1 ∧ localP l (j + 1) = p := by
  intro k
  induction k with
  | zero => intro x; simp [crits]
  | succ k ih =>
    intro x
    unfold crits
    by_cases h : localP l (k + 1) = p
    · rw [if_pos h, List.mem_append, ih]
      constructor
      · rintro (⟨j, h1, h2, h3⟩ | hx)
        · exact ⟨j, by omega, h2, h3⟩
        · simp at hx; exact ⟨k, by omega, hx, h⟩
      · rintro ⟨j, h1, h2, h3⟩
        by_cases e : j = k
        · right; simp [h2, e]
        · left; exact ⟨j, by omega, h2, h3⟩
    · rw [if_neg h, ih]
      constructor
      · rintro ⟨j, h1, h2, h3⟩; exact ⟨j, by omega, h2, h3⟩
      · rintro ⟨j, h1, h2, h3⟩
        by_cases e : j = k
        · subst e; exact absurd h3 h
        · exact ⟨j, by omega, h2, h3⟩

/-- The marks behind the first k numbers of xs. -/
def marks (n : Nat) (xs : List Int) (k : Nat) : List Value := (List.range n).map fun (j : Nat) => Value.bool ((xs.take k).contains (j : Int))
theorem marks_len (n : Nat) (xs : List Int) (k : Nat) : (marks n xs k).length = n := by unfold marks; simp
theorem marks_get (n : Nat) (xs : List Int) (k j : Nat) (h : j < n) : (marks n xs k)[j]? = some (.bool ((xs.take k).contains (j : Int))) := by
  unfold marks; rw [List.getElem?_map, List.getElem?_range h]; rfl
theorem marks_zero (n : Nat) (xs : List Int) : marks n xs 0 = List.replicate n (.bool false) := by
  apply List.ext_getElem?
  intro j
  by_cases h : j < n
  · rw [marks_get n xs 0 j h, List.getElem?_replicate, if_pos h]; simp
  · rw [List.getElem?_eq_none (by rw [marks_len]; omega), List.getElem?_eq_none (by simp; omega)]
theorem marks_set (n : Nat) (xs : List Int) (k y : Nat) (hk : k < xs.length) (hy : xs.getD k 0 = (y : Int)) : (marks n xs k).set y (.bool true) = marks n xs (k + 1) := by
  have hx : xs[k] = (y : Int) := by rw [List.getD_eq_getElem?_getD, List.getElem?_eq_getElem hk] at hy; exact hy
  have hsnoc : xs.take (k + 1) = xs.take k ++ [(y : Int)] := by rw [List.take_succ_eq_append_getElem hk, hx]
  apply List.ext_getElem?
  intro j
  by_cases h : j < n
  · rw [List.getElem?_set, marks_get n xs (k + 1) j h, hsnoc]
    by_cases e : y = j
    · subst e; rw [if_pos rfl, if_pos (by rw [marks_len]; exact h)]; simp
    · rw [if_neg e, marks_get n xs k j h]
      congr 2
      rw [Bool.eq_iff_iff]
      simp only [List.contains_iff_mem, List.mem_append, List.mem_singleton]
      constructor
      · exact Or.inl
      · rintro (h1 | h1)
        · exact h1
        · omega
  · rw [List.getElem?_eq_none (by simp [marks_len]; omega), List.getElem?_eq_none (by rw [marks_len]; omega)]

theorem info4 : (Try.prog.info? 4).map (fun i => (i.zero, i.size, i.bytes)) = some (some (.bool false), 1, 1) := by kernel_rfl
theorem bool_mk (n : Nat) (xs : List Int) : (madeCells (Value.bool false).cells (n * 1)).toList = marks n xs 0 := by
  show (madeCells #[Value.bool false] (n * 1)).toList = _
  rw [toList_madeCells_one, Nat.mul_one, marks_zero]

set_option maxHeartbeats 4000000 in
set_option maxRecDepth 100000 in
theorem walk14 (a : Option Addr) (len cap : Nat) (zs : List Int) (w : World) (h : IsRow .u8 w a len cap zs) :
    Calls Try.prog 14 #[.slice a len cap] w fun e w' => e = .returned (.bool true) ∧ Below w.heap.size w w' := by
  obtain ⟨i0, hi, hz0, hz1, hz2⟩ := info_parts info4
  go_enter Try.func14, Try.ntmps14
  go_wp2_with fail
  refine (made49 a len cap zs 200 w h (by omega) (by omega)).mono ?_
  rintro e w1 ⟨s, rfl, h1, h2, hg, hb1⟩
  have hc := Lib.hid (chk_of h1 h2 hg)
  go_wp2_with fail
  refine (periods22 s w1 hc.out).mono ?_
  rintro e w2 ⟨v, rfl, hv, hb2⟩
  go_wp2_with fail
  refine (local31 s w2 hc.out).mono ?_
  rintro e w3 ⟨u, rfl, hu, hb3⟩
  go_wp2_with fail
  refine (critical32 s w3 hc.out).mono ?_
  rintro e w4 ⟨t, rfl, ht, hb4⟩
  have hll : 1 ≤ s.data.toList.length := by rw [size_len]; exact h1
  have hfirst := pers_first hll
  rw [size_len] at hfirst
  obtain ⟨P, hP⟩ : ∃ P, P = leastP s.data.toList := ⟨_, rfl⟩
  have hspec := leastP_spec hll
  rw [← hP, size_len] at hspec
  obtain ⟨hP1, hP2, _, _⟩ := hspec
  rw [← hP] at ht hfirst
  obtain ⟨vo, vc, rfl, hvr⟩ := ((hv.shape.below hb3).below hb4)
  obtain ⟨gp, rfl, hgp, _, hvc⟩ := hvr hfirst.1
  have hvl : 1 ≤ (pers s.data.toList s.size).length := by
    rcases Nat.eq_zero_or_pos (pers s.data.toList s.size).length with e | e
    · exact absurd (List.length_eq_zero_iff.1 e) hfirst.1
    · exact e
  have hcp : w4.cell? ⟨gp, 0, none⟩ = some (.int .i64 P) := by rw [hvc 0 hvl, hfirst.2]
  obtain ⟨np, hnp⟩ : ∃ n, n = (pers s.data.toList s.size).length := ⟨_, rfl⟩
  rw [← hnp] at hvl ⊢
  obtain ⟨uo, uc, rfl, hur⟩ := (hu.shape.below hb4)
  rw [locs_len] at hur ⊢
  obtain ⟨m, hm⟩ : ∃ m, m = s.size - 1 := ⟨_, rfl⟩
  rw [← hm] at hur ⊢
  have hm1 : m + 1 = s.size := by omega
  obtain ⟨tao, tc, rfl, htr⟩ := ht.shape
  obtain ⟨xs, hxs⟩ : ∃ xs, xs = crits s.data.toList P (s.size - 1) := ⟨_, rfl⟩
  rw [← hxs] at htr ⊢
  have hxl : xs.length ≤ 200 := by rw [hxs]; have := crits_le s.data.toList P (s.size - 1); omega
  obtain ⟨nx, hnx⟩ : ∃ n, n = xs.length := ⟨_, rfl⟩
  rw [← hnx] at htr hxl ⊢
  have hP' := Lib.hid hP
  have hxs' := Lib.hid hxs
  have hm' := Lib.hid hm
  have hnx' := Lib.hid hnx
  have hur' := Lib.hid hur
  have htr' := Lib.hid htr
  clear hP hxs hm hnx hur htr hvr hvc hfirst hv hu ht hnp
  have d1 : ((np : Int) == 0) = false := by simp; omega
  have d2 : decide ((P : Int) < 1) = false := by simp; omega
  have d3 : ((m : Int) != (s.size : Int) - 1) = false := by simp; omega
  have d4 : (0 : Int) < np := by omega
  have hbb := below_call (below_call (below_call hb1 hb2) hb3) hb4
  clear hb1 hb2 hb3 hb4
  go_wp2_with fail
  refine (lives24 w4).mono ?_
  rintro e w5 ⟨rfl, hb5⟩
  have hgp5 : gp < w5.heap.size := Nat.lt_of_lt_of_le hgp hb5.size
  have hcp5 : w5.cell? ⟨gp, 0, none⟩ = some (.int .i64 P) := (hb5.cell (p := ⟨gp, 0, none⟩) hgp).trans hcp
  have hur5 : m ≠ 0 → ∃ g, uo = some ⟨g, 0, none⟩ ∧ g < w5.heap.size ∧ ∀ j, j < m → w5.cell? ⟨g, j, none⟩ = some (.int .i64 (localP s.data.toList (j + 1))) := by
    intro hm0
    obtain ⟨g, e1, e2, _, e4⟩ := hur'.out (fun e => by have := locs_len s.data.toList m; rw [e] at this; simp at this; omega)
    refine ⟨g, e1, Nat.lt_of_lt_of_le e2 hb5.size, fun j hj => ?_⟩
    rw [hb5.cell (p := ⟨g, j, none⟩) e2, e4 j hj, locs_get _ _ _ hj]
  have htr5 : nx ≠ 0 → ∃ g, tao = some ⟨g, 0, none⟩ ∧ g < w5.heap.size ∧ ∀ j, j < nx → w5.cell? ⟨g, j, none⟩ = some (.int .i64 (xs.getD j 0)) := by
    intro hm0
    obtain ⟨g, e1, e2, _, e4⟩ := htr'.out (fun e => by have := hnx'.out; rw [e] at this; simp at this; omega)
    refine ⟨g, e1, Nat.lt_of_lt_of_le e2 hb5.size, fun j hj => ?_⟩
    rw [hb5.cell (p := ⟨g, j, none⟩) e2, e4 j hj]
  have hur5' := Lib.hid hur5
  have htr5' := Lib.hid htr5
  have hbc := below_call hbb hb5
  clear hur5 htr5 hur' htr' hcp hgp hb5 hbb
  have hsz : ((s.size : Nat) : Int) = (s.size : Int) := rfl
  have hsz' := Lib.hid hsz
  clear hsz
  go_wp2_with (first | (at_make; refine wpList_make_full _ rfl _ _ 60 rfl w5.heap.size 4 i0 (.bool false) 1 Try.underlying60 hi hz0 hz1 .i64 .i64 _ _ s.size rfl rfl rfl rfl (by rw [hz2]; omega) (by unfold maxLen; omega) (Nat.le_refl _) ?_; intro w6 hown hgr))
  have hb6 : Below w5.heap.size w5 w6 := (Below.refl _ _).grown hgr (Nat.le_refl _) (fun k hk => by simp at hk)
  rw [bool_mk _ xs] at hown
  clear hgr
  obtain ⟨gi, hgi⟩ : ∃ gi, gi = w5.heap.size := ⟨_, rfl⟩
  have hge := Lib.hid (show w5.heap.size ≤ gi by omega)
  rw [← hgi] at hown ⊢
  have hgi' := Lib.hid hgi
  clear hgi
  go_loopw [11] (fun i wr => ∃ k : Nat, k ≤ nx ∧ i = .int .i64 (k : Int) ∧ wr.ownsRow gi 4 1 (.slice (some ⟨gi, 0, none⟩) s.size s.size) s.size (marks s.size xs k) ∧ Below gi w5 wr) (fun i _ => nx - (intOf i).toNat)
  case atStart => exact ⟨0, by omega, rfl, hown, by rw [hgi'.out]; exact hb6⟩
  case round =>
    obtain ⟨k, hk, rfl, ho, hb⟩ := hrel
    by_cases hlt : k < nx
    · obtain ⟨gt, rfl, hgt, htc⟩ := htr5'.out (by omega)
      have hkx : k < xs.length := by have := hnx'.out; omega
      have hmem : xs.getD k 0 ∈ xs := by rw [List.getD_eq_getElem?_getD, List.getElem?_eq_getElem hkx]; exact List.getElem_mem _
      have hmem2 := hmem
      rw [hxs'.out, crits_mem] at hmem2
      obtain ⟨j, hj1, hj2, _⟩ := hmem2
      rw [← hxs'.out] at hj2
      obtain ⟨y, hy⟩ : ∃ y, y = j + 1 := ⟨_, rfl⟩
      have hxy : xs.getD k 0 = (y : Int) := by rw [hj2, hy]; simp
      have hy1 : 1 ≤ y := by omega
      have hy2 : y < s.size := by omega
      have c1 : wr.cell? ⟨gt, k, none⟩ = some (.int .i64 y) := by
        rw [hb.cell (p := ⟨gt, k, none⟩) (by rw [hgi'.out]; exact hgt), htc k hlt, hxy]
      obtain ⟨bv, hbv⟩ : ∃ bv : Bool, (marks s.size xs k)[y]? = some (.bool bv) := ⟨_, marks_get s.size xs k y hy2⟩
      have c2 : wr.cell? ⟨gi, y, none⟩ = some (.bool bv) := by rw [ho.cellAt y (by omega), hbv]
      have c3 : wr.frozen? ⟨gi, y, none⟩ = false := ho.frozenAt y
      have hset := Lib.hid (marks_set s.size xs k y hkx hxy)
      have d5 : decide ((y : Int) < 1) = false := by simp; omega
      have d6 : decide (s.size ≤ y) = false := by simp; omega
      have ho' := Lib.hid ho
      clear ho htc hmem hj2 hxy hbv hy
      go_wp2
      refine ⟨⟨k + 1, by omega, by go_num, ?_, below_set hb (Nat.le_refl _)⟩, by simp [intOf]; omega⟩
      rw [← hset.out]
      exact (ho'.out.stored y _).1
    · have hkn : k = xs.length := by have := hnx'.out; omega
      have hcis : ∀ j, 1 ≤ j → j < s.size → wr.cell? ⟨gi, j, none⟩ = some (.bool (localP s.data.toList j == P)) := by
        intro j hj1 hj2
        rw [ho.cellAt j (by omega), marks_get _ _ _ _ hj2, hkn, List.take_length]
        congr 2
        rw [Bool.eq_iff_iff, List.contains_iff_mem, beq_iff_eq, hxs'.out, crits_mem]
        constructor
        · rintro ⟨i, e1, e2, e3⟩; rw [show j = i + 1 from by omega]; exact e3
        · intro e; exact ⟨j - 1, by omega, by omega, by rw [show j - 1 + 1 = j from by omega]; exact e⟩
      have hgil : gi < wr.heap.size := (World.ownsRow.lt ho gi rfl).2
      have hb5r : Below w5.heap.size w5 wr := by rw [← hgi'.out]; exact hb
      have hgpr : gp < wr.heap.size := Nat.lt_of_lt_of_le hgp5 hb5r.size
      have hcpr : wr.cell? ⟨gp, 0, none⟩ = some (.int .i64 P) := (hb5r.cell (p := ⟨gp, 0, none⟩) hgp5).trans hcp5
      have hurr : m ≠ 0 → ∃ g, uo = some ⟨g, 0, none⟩ ∧ g < wr.heap.size ∧ ∀ j, j < m → wr.cell? ⟨g, j, none⟩ = some (.int .i64 (localP s.data.toList (j + 1))) := by
        intro hm0
        obtain ⟨g, e1, e2, e4⟩ := hur5'.out hm0
        refine ⟨g, e1, Nat.lt_of_lt_of_le e2 hb5r.size, fun j hj => ?_⟩
        rw [hb5r.cell (p := ⟨g, j, none⟩) e2, e4 j hj]
      have hurr' := Lib.hid hurr
      have hcis' := Lib.hid hcis
      have hcpr' := Lib.hid hcpr
      have hbd := below_call hbc hb5r
      clear hurr hcis hcpr hb5r hb ho hur5' htr5' hcp5 hgp5 hbc hb6 hown hkn
      obtain ⟨w7, hw7⟩ : ∃ w7, w7 = wr := ⟨_, rfl⟩
      subst hw7
      go_wp2_with fail
      go_loopw [12] (fun i wr => ∃ j : Nat, 1 ≤ j ∧ j ≤ s.size ∧ i = .int .i64 (j : Int) ∧ Below w7.heap.size w7 wr) (fun i _ => s.size - (intOf i).toNat)
      case atStart => exact ⟨1, by omega, by omega, rfl, Below.refl _ _⟩
      case round =>
        obtain ⟨j, hj1, hj2, rfl, hb⟩ := hrel
        by_cases hlt2 : j < s.size
        · obtain ⟨gq, rfl, hgq, hqc⟩ := hurr'.out (by omega)
          obtain ⟨Q, hQ⟩ : ∃ Q, Q = localP s.data.toList j := ⟨_, rfl⟩
          have hQP : Q ≤ P := by rw [hQ, hP'.out]; exact local_le hll (by rw [size_len]; omega)
          have c1 : wr.cell? ⟨gq, j - 1, none⟩ = some (.int .i64 Q) := by
            rw [hb.cell (p := ⟨gq, j - 1, none⟩) hgq, hqc (j - 1) (by omega), show j - 1 + 1 = j from by omega, hQ]
          have c2 : wr.cell? ⟨gp, 0, none⟩ = some (.int .i64 P) := (hb.cell (p := ⟨gp, 0, none⟩) hgpr).trans hcpr'.out
          have c3 : wr.cell? ⟨gi, j, none⟩ = some (.bool (Q == P)) := by rw [hb.cell (p := ⟨gi, j, none⟩) hgil, hcis'.out j hj1 hlt2, hQ]
          have d5 : decide (P < Q) = false := by simp; omega
          have d5' : decide ((P : Int) < Q) = false := by simp; omega
          have e1 : IntKind.i64.wrap ((j : Int) - 1) = (j : Int) - 1 := IntWalk.i64_in _ (by omega)
          have e2 : ((j : Int) - 1).toNat = j - 1 := by omega
          have e3 : 0 ≤ (j : Int) - 1 := by omega
          have e4 : (j : Int) - 1 < m := by omega
          have e5 : (1 : Int) ≤ j := by omega
          have e6 : j - 1 < m := by omega
          clear hQ hqc
          by_cases hqp : Q = P
          · have d6 : ((Q : Int) == (P : Int)) = true := by simp [hqp]
            have d7 : (Q == P) = true := by simp [hqp]
            rw [d7] at c3
            clear hqp
            go_wp2
            go_quiet (fail)
            go_wp2
            exact ⟨⟨j + 1, by omega, by omega, by go_num, below_drewN hb _⟩, by simp [intOf]; omega⟩
          · have d6 : ((Q : Int) == (P : Int)) = false := by simp; omega
            have d7 : (Q == P) = false := by simp [hqp]
            rw [d7] at c3
            clear hqp
            go_wp2
            go_quiet (fail)
            go_wp2
            exact ⟨⟨j + 1, by omega, by omega, by go_num, below_drewN hb _⟩, by simp [intOf]; omega⟩
        · have hb' := Lib.hid hb
          clear hb
          go_wp2_with fail
          go_loopw [13, 14, 15] (fun i _ _ wr => ∃ j : Nat, 1 ≤ j ∧ i = .int .i64 (j : Int) ∧ j ≤ s.size ∧ Below w7.heap.size w7 wr) (fun i _ _ _ => s.size + 1 - (intOf i).toNat)
          case atStart => exact ⟨1, by omega, rfl, by omega, hb'.out⟩
          case round =>
            obtain ⟨i, hi1, rfl, hi2, hbi⟩ := hrel
            obtain ⟨wo, rfl⟩ : ∃ wo : World, wo = wr := ⟨_, rfl⟩
            have c2 : wo.cell? ⟨gp, 0, none⟩ = some (.int .i64 P) := (hbi.cell (p := ⟨gp, 0, none⟩) hgpr).trans hcpr'.out
            by_cases hrow : (i : Int) + P ≤ s.size
            · have hdr : decide ((i : Int) + P ≤ s.size) = true := by simpa using hrow
              obtain ⟨kc, hk1, hk2, hk3⟩ := crit_row (l := s.data.toList) hi1 (by rw [← hP'.out, size_len]; omega)
              rw [← hP'.out] at hk2 hk3
              have hk3' := Lib.hid hk3
              clear hk3
              go_wp2_with fail
              go_loopw [14, 15] (fun f κ wr => ∃ (b : Bool) (k : Nat), f = .bool b ∧ κ = .int .i64 (k : Int) ∧ i ≤ k ∧ k ≤ i + P ∧ Hid (kc < k → b = true) ∧ Below wo.heap.size wo wr) (fun _ κ _ => i + P - (intOf κ).toNat)
              case atStart => exact ⟨false, i, rfl, rfl, by omega, by omega, Lib.hid (fun h => by omega), Below.refl _ _⟩
              case round =>
                obtain ⟨b, k, rfl, rfl, hik, hkp, hfound, hbk⟩ := hrel
                have hb7 : Below w7.heap.size w7 wr := hbi.trans (hbk.mono hbi.size)
                have c4 : wr.cell? ⟨gp, 0, none⟩ = some (.int .i64 P) := (hb7.cell (p := ⟨gp, 0, none⟩) hgpr).trans hcpr'.out
                by_cases hlt3 : (k : Int) < i + P
                · have hks : k < s.size := by omega
                  have c5 : wr.cell? ⟨gi, k, none⟩ = some (.bool (localP s.data.toList k == P)) := by rw [hb7.cell (p := ⟨gi, k, none⟩) hgil, hcis'.out k (by omega) hks]
                  obtain ⟨bv, hbv⟩ : ∃ bv, bv = (localP s.data.toList k == P) := ⟨_, rfl⟩
                  rw [← hbv] at c5
                  have hkk : k < i + P := by omega
                  have hnew := Lib.hid (show ∀ b', (b = true → b' = true) → (bv = true → b' = true) → kc < k + 1 → b' = true from fun b' h1 h2 h3 => by
                    by_cases e : kc = k
                    · subst e; apply h2; rw [hbv, hk3'.out]; simp
                    · exact h1 (hfound.out (by omega)))
                  clear hbv hfound hb7
                  cases b
                  · cases bv
                    · go_wp2
                      exact ⟨⟨false, k + 1, rfl, by go_num, by omega, by omega, Lib.hid (hnew.out false (fun h => h) (fun h => h)), by first | exact hbk | exact below_drewN hbk _⟩, by simp [intOf]; omega⟩
                    · go_wp2
                      exact ⟨⟨true, k + 1, rfl, by go_num, by omega, by omega, Lib.hid (fun _ => rfl), by first | exact hbk | exact below_drewN hbk _⟩, by simp [intOf]; omega⟩
                  · go_wp2
                    exact ⟨⟨true, k + 1, rfl, by go_num, by omega, by omega, Lib.hid (fun _ => rfl), by first | exact hbk | exact below_drewN hbk _⟩, by simp [intOf]; omega⟩
                · have hbt : b = true := hfound.out (by omega)
                  subst hbt
                  clear hfound
                  go_wp2
                  exact ⟨⟨i + 1, by omega, by go_num, by omega, hb7⟩, by simp [intOf]; omega⟩
            · go_wp2
              go_ret
              exact ⟨rfl, below_call hbd hbi⟩
end Go.Proofs.Ytbcoaiaocfommaa
