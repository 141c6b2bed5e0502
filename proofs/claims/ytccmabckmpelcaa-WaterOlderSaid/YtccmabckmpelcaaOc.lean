import Derived.Test.YtccmabckmpelcaaOb
namespace Go.Proofs.Ytccmabckmpelcaa
open Go.RowKit

theorem ints_parts {w : World} {B : Nat} {v : Value} {xs : List Int} (h : Ints w B v xs) (hne : xs ≠ []) : ∃ g cap, v = .slice (some ⟨g, 0, none⟩) xs.length cap ∧ B ≤ g ∧ g < w.heap.size ∧
    (∀ j, j < xs.length → w.cell? ⟨g, j, none⟩ = some (.int .i64 (xs.getD j 0))) ∧ (∀ j, w.frozen? ⟨g, j, none⟩ = false) ∧ ∀ j y, Ints (w.setCell ⟨g, j, none⟩ (.int .i64 y)) B v (xs.set j y) := by
  have hh := h
  rcases h.2 with ⟨rfl, h0⟩ | ⟨g, cap, cur, rfl, hB, hg, hn, _⟩
  · exact absurd (List.length_eq_zero_iff.1 h0) hne
  · refine ⟨g, cap, rfl, hB, (Array.getElem?_eq_some_iff.1 hg).1, fun j hj => ?_, fun j => hh.frozenAt j, fun j y => ?_⟩
    · rw [hh.cellAt j (by omega)]
      simp [List.getD_eq_getElem?_getD, hj]
    · have := (hh.stored j (.int .i64 y)).1
      unfold Ints
      rw [List.length_set, List.map_set]
      exact this
/-- Slices of values that own their row are given by an address or are nil. -/
theorem reads_addr {w : World} {ao : Option Addr} {n c : Nat} {xs : List Int} (h : Reads w (.slice ao n c) xs) (hn : xs.length = n) (h1 : 1 ≤ n) : ∃ ad l c', Value.slice ao n c = .slice (some ad) l c' := by
  obtain ⟨g, o, rfl, _⟩ := h.at hn (k := 0) (by omega)
  exact ⟨_, _, _, rfl⟩

set_option maxHeartbeats 4000000 in
set_option maxRecDepth 100000 in
theorem first49 (w : World) (n : Nat) (hn : n ≤ 1000) :
    Calls Try.prog 49 #[.int .i64 (n : Int)] w fun e w' => ∃ xo xc, e = .returned (.slice xo n xc) ∧ Reads w' (.slice xo n xc) (upTo n) ∧ Below w.heap.size w w' := by
  have hlit := Lib.hid (Ints.lit w w.heap.size (Nat.le_refl _))
  have hb0 := Lib.hid (below_alloc1 w (.cells #[] 3))
  go_enter Try.func49, Try.ntmps49
  go_wp2_with fail
  go_loopw [3, 4] (fun v i wr => ∃ k : Nat, k ≤ n ∧ i = .int .i64 (k : Int) ∧ Ints wr w.heap.size v (upTo k) ∧ Below w.heap.size w wr) (fun _ i _ => n - (intOf i).toNat)
  case atStart => exact ⟨0, Nat.zero_le _, rfl, hlit.out, hb0.out⟩
  case round =>
    obtain ⟨k, hk, rfl, hown, hb⟩ := hrel
    have hsz := hb.size
    have hown' := Lib.hid hown
    have hul := Lib.hid (upTo_len k)
    by_cases hlt : k < n
    · clear hown
      go_wp2_with (first | (at_builtin; refine app_int (y := (k : Int)) hown'.out (by rw [hul.out]; omega) hsz rfl _ _ rfl rfl rfl ?_; intro v' w2 hown2 hb2))
      go_roundw
      case rel => exact ⟨k + 1, by omega, by go_num, by rw [upTo_snoc]; exact hown2, hb.trans hb2⟩
      case measure => simp [intOf]; omega
    · obtain rfl : k = n := by omega
      obtain ⟨xo, xc, rfl, _⟩ := id hown.shape
      rw [hul.out] at hown' ⊢
      clear hown
      go_wp2_with fail
      go_ret
      exact ⟨xo, xc, rfl, hown'.out.shape, hb⟩

set_option maxHeartbeats 4000000 in
set_option maxRecDepth 100000 in
theorem shares32 {w : World} {u v : Value} {fs : List Int} {gs : List (List Int)} {n : Nat} (hu : Reads w u fs) (hv : ReadsG w v gs) (hn : n = fs.length) (hng : n = gs.length) (hfo : FlowOk fs) (hok : GOk gs) :
    Calls Try.prog 32 #[u, v] w fun e w' => ∃ x, e = .returned x ∧ Reads w' x (sharesK fs gs n) ∧ Below w.heap.size w w' := by
  have h9 : n ≤ 9 := by rw [hn]; exact hfo.1
  have hu' := Lib.hid hu
  have hv' := Lib.hid hv
  obtain ⟨uo, uc, rfl, _, _⟩ := hu
  obtain ⟨vo, vc, rfl, _, _⟩ := hv
  rw [← hn] at hu' ⊢
  rw [← hng] at hv' ⊢
  have hn' := Lib.hid hn
  have hng' := Lib.hid hng
  have hfo' := Lib.hid hfo
  have hok' := Lib.hid hok
  clear hn hng hfo hok
  have hlit := Lib.hid (Ints.lit w w.heap.size (Nat.le_refl _))
  have hb0 := Lib.hid (below_alloc1 w (.cells #[] 3))
  have hal := Lib.hid (show ∀ W z (i : Nat), Below w.heap.size w W → i ≤ n → Reads W z (upTo i) → Calls Try.prog 28 #[.slice uo n uc, .slice vo n vc, z] W (fun e w' => e = .returned (.int .i64 (sh fs gs i)) ∧ Below W.heap.size W w') from fun W z i hW hi hz => by
    refine (alone28 (hu'.out.below hW) (hv'.out.below hW) hz hn'.out hng'.out hfo'.out hok'.out (Places.ups_n hi).1).mono ?_
    rw [inG_ups, Al_before hi]
    exact fun e w' h => h)
  go_enter Try.func32, Try.ntmps32
  go_wp2_with fail
  go_loopw [5, 6] (fun v i wr => ∃ k : Nat, k ≤ n ∧ i = .int .i64 (k : Int) ∧ Ints wr w.heap.size v (sharesK fs gs k) ∧ Below w.heap.size w wr) (fun _ i _ => n - (intOf i).toNat)
  case atStart => exact ⟨0, Nat.zero_le _, rfl, hlit.out, hb0.out⟩
  case round =>
    obtain ⟨k, hk, rfl, hown, hb⟩ := hrel
    have hown' := Lib.hid hown
    have hul := Lib.hid (sharesK_len fs gs k)
    by_cases hlt : k < n
    · have hb' := Lib.hid hb
      have d1 : 0 ≤ sh fs gs k ∧ sh fs gs k ≤ 180000 := bestW_bd (hok'.out.part 0 k (by rw [← hng'.out]; omega)) (part fs 0 k)
      have d2 : 0 ≤ sh fs gs (k + 1) ∧ sh fs gs (k + 1) ≤ 180000 := bestW_bd (hok'.out.part 0 (k + 1) (by rw [← hng'.out]; omega)) (part fs 0 (k + 1))
      have hsn := Lib.hid (sharesK_snoc fs gs k)
      have c1 := Lib.hid (fun W z => hal.out W z k)
      have c2 := Lib.hid (fun W z => hal.out W z (k + 1))
      obtain ⟨X, hX⟩ : ∃ X, X = sh fs gs k := ⟨_, rfl⟩
      obtain ⟨Y, hY⟩ : ∃ Y, Y = sh fs gs (k + 1) := ⟨_, rfl⟩
      rw [← hX] at d1 hsn c1
      rw [← hY] at d2 hsn c2
      obtain ⟨d1, d1'⟩ := d1
      obtain ⟨d2, d2'⟩ := d2
      have ek : ((k : Int) + 1) = ((k + 1 : Nat) : Int) := by omega
      have ek' := Lib.hid ek
      clear hown hb hX hY ek
      go_wp2_with fail
      rw [ek'.out]
      refine (first49 wr (k + 1) (by omega)).mono ?_
      rintro e w1 ⟨xo, xc, rfl, hx, hb1⟩
      have hx' := Lib.hid hx
      have hB1 := Lib.hid (below_call hb'.out hb1)
      clear hx
      go_wp2_with fail
      refine (c2.out w1 _ hB1.out (by omega) hx'.out).mono ?_
      rintro e w2 ⟨rfl, hb2⟩
      have hB2 := Lib.hid (below_call hB1.out hb2)
      go_wp2_with fail
      refine (first49 w2 k (by omega)).mono ?_
      rintro e w3 ⟨yo, yc, rfl, hy, hb3⟩
      have hy' := Lib.hid hy
      have hB3 := Lib.hid (below_call hB2.out hb3)
      clear hy
      go_wp2_with fail
      refine (c1.out w3 _ hB3.out (by omega) hy'.out).mono ?_
      rintro e w4 ⟨rfl, hb4⟩
      have hB4 := Lib.hid (below_call hB3.out hb4)
      have hown4 := Lib.hid (hown'.out.below (below_call (below_call (below_call hb1 hb2) hb3) hb4))
      have hsz4 := hB4.out.size
      clear hb1 hb2 hb3 hb4
      go_wp2_with (first | (at_builtin; refine app_int (y := Y - X) hown4.out (by rw [hul.out]; omega) hsz4 rfl _ _ rfl rfl rfl ?_; intro v' w5 hown5 hb5))
      go_roundw
      case rel => exact ⟨k + 1, by omega, by go_num, by rw [hsn.out]; exact hown5, hB4.out.trans hb5⟩
      case measure => simp [intOf]; omega
    · obtain rfl : k = n := by omega
      have hr := Lib.hid hown.shape
      clear hown
      go_wp2_with fail
      go_ret
      exact ⟨_, rfl, hr.out, hb⟩

set_option maxHeartbeats 4000000 in
set_option maxRecDepth 100000 in
theorem prices33 {w : World} {u v : Value} {fs : List Int} {gs : List (List Int)} {n : Nat} (hu : Reads w u fs) (hv : ReadsG w v gs) (hr : rivB fs gs = true) (hn : n = fs.length) (hng : n = gs.length) :
    Calls Try.prog 33 #[u, v] w fun e w' => ∃ x, e = .returned x ∧ Reads w' x (pricesK fs gs n) ∧ Below w.heap.size w w' := by
  obtain ⟨h1, h8, _, hfo, hok, h30⟩ := rivB_facts hr
  rw [← hn] at h1 h8
  have hu' := Lib.hid hu
  have hv' := Lib.hid hv
  obtain ⟨uo, uc, rfl, _, _⟩ := hu
  obtain ⟨vo, vc, rfl, _, _⟩ := hv
  rw [← hn] at hu' ⊢
  rw [← hng] at hv' ⊢
  have hn' := Lib.hid hn
  have hng' := Lib.hid hng
  have hfo' := Lib.hid hfo
  have hok' := Lib.hid hok
  have h30' := Lib.hid h30
  clear hn hng hfo hok h30
  have had := Lib.hid (reads_addr hu'.out hn'.out.symm h1)
  have hbd := Lib.hid (bestW_bd hok'.out)
  go_enter Try.func33, Try.ntmps33
  go_wp2_with fail
  refine (best23' hu'.out hv'.out hn'.out hng'.out h1 hfo'.out hok'.out).mono ?_
  obtain ⟨Q, hQ⟩ : ∃ Q, Q = bestW fs gs := ⟨_, rfl⟩
  obtain ⟨q0, q1⟩ := hbd.out fs
  rw [← hQ] at q0 q1 ⊢
  have hQ' := Lib.hid hQ
  clear hQ
  rintro e w1 ⟨xo, xc, rfl, -, hb1⟩
  have hlit := Lib.hid (Ints.lit w1 w1.heap.size (Nat.le_refl _))
  have hb0 := Lib.hid (below_alloc1 w1 (.cells #[] 3))
  have hb1' := Lib.hid hb1
  clear hb1
  go_wp2_with fail
  go_loopw [7, 8] (fun v i wr => ∃ k : Nat, k ≤ n ∧ i = .int .i64 (k : Int) ∧ Ints wr w1.heap.size v (pricesK fs gs k) ∧ Below w1.heap.size w1 wr) (fun _ i _ => n - (intOf i).toNat)
  case atStart => exact ⟨0, Nat.zero_le _, rfl, hlit.out, hb0.out⟩
  case round =>
    obtain ⟨k, hk, rfl, hown, hb⟩ := hrel
    have hown' := Lib.hid hown
    have hul := Lib.hid (pricesK_len fs gs k)
    by_cases hlt : k < n
    · have hsn := Lib.hid (pricesK_snoc fs gs k)
      have hbx := Lib.hid (below_call hb1'.out hb)
      have hb' := Lib.hid hb
      have hlit2 := Lib.hid (Ints.lit wr wr.heap.size (Nat.le_refl _))
      have hba := Lib.hid (below_alloc1 wr (.cells #[] 3))
      have hue := Lib.hid ((hu'.out.below hbx.out).below hba.out)
      obtain ⟨q2, q3⟩ := hbd.out (grow1 fs k)
      obtain ⟨P, hP⟩ : ∃ P, P = bestW (grow1 fs k) gs := ⟨_, rfl⟩
      rw [← hP] at q2 q3
      rw [← hP, ← hQ'.out] at hsn
      have hP' := Lib.hid hP
      have hgw := Lib.hid (show wr.heap.size ≤ (wr.alloc (.cells #[] 3)).heap.size by simp)
      clear hown hb hP
      go_wp2_with (first | (at_builtin; refine app_ints hlit2.out hue.out (.inr had.out) (by rw [← hn'.out]; simp; omega) hgw.out rfl _ _ rfl rfl rfl ?_; intro v2 w2 hown2 hb2))
      rw [List.nil_append] at hown2
      obtain ⟨g, cap, rfl, hBg, hgs, hcells, hfro, hset⟩ := ints_parts hown2 (by intro e; rw [e] at hn'; have := hn'.out; simp at this; omega)
      have f30 := h30'.out k (by rw [← hn'.out]; exact hlt)
      have f0 := (hfo'.out.2 k (by rw [← hn'.out]; exact hlt)).1
      have c1 := hcells k (by rw [← hn'.out]; exact hlt)
      have c2 := hfro k
      have hset' := Lib.hid (hset k (fs.getD k 0 + 1))
      rw [← hn'.out] at hset' ⊢
      obtain ⟨F, hF⟩ : ∃ F, F = fs.getD k 0 := ⟨_, rfl⟩
      rw [← hF] at c1 f0 f30 hset'
      have hgrow := Lib.hid (show fs.set k (F + 1) = grow1 fs k by unfold grow1; rw [hF])
      have hw2 := Lib.hid (hba.out.trans hb2)
      have hB3 := Lib.hid (show Below wr.heap.size wr (w2.setCell ⟨g, k, none⟩ (.int .i64 (F + 1))) from below_set hw2.out hBg)
      have hflow := Lib.hid (FlowOk.grow (k := k) hfo'.out (by rw [← hn'.out]; exact h8) (fun j hj => h30'.out j hj))
      clear hcells hfro hset hown2 hb2 hF
      go_simp
      go_wp2_with fail
      refine (best23' (n := n) (fs := grow1 fs k) (by rw [← hgrow.out]; exact hset'.out.shape) (hv'.out.below (below_call hbx.out hB3.out)) (by rw [grow1_len]; exact hn'.out) hng'.out h1 hflow.out hok'.out).mono ?_
      rw [← hP'.out]
      rintro e w4 ⟨zo, zc, rfl, -, hb4⟩
      have hB4 := Lib.hid (below_call hB3.out hb4)
      have hown4 := Lib.hid (hown'.out.below hB4.out)
      have hBB := Lib.hid (hb'.out.trans (hB4.out.mono hb'.out.size))
      have hsz4 := hBB.out.size
      clear hb4
      go_wp2_with (first | (at_builtin; refine app_int (y := P - Q) hown4.out (by rw [hul.out]; omega) hsz4 rfl _ _ rfl rfl rfl ?_; intro v' w5 hown5 hb5))
      go_roundw
      case rel => exact ⟨k + 1, by omega, by go_num, by rw [hsn.out]; exact hown5, hBB.out.trans hb5⟩
      case measure => simp [intOf]; omega
    · obtain rfl : k = n := by omega
      have hrr := Lib.hid hown.shape
      clear hown
      go_wp2_with fail
      go_ret
      exact ⟨_, rfl, hrr.out, below_call hb1'.out hb⟩
end Go.Proofs.Ytccmabckmpelcaa
