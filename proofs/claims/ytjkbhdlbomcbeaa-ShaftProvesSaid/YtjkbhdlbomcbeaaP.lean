import Derived.Test.YtjkbhdlbomcbeaaM
namespace Go.Proofs.Ytjkbhdlbomcbeaa
open Go.RowKit Shf

def fromF (E : Nat → Int) (u : Nat) (x : Int) (o : Nat × Nat) : Int := if o.2 = u then max x (E o.1) else x
theorem from0_eq (s : Sh) (st : List (Option Int)) (u : Nat) : from0 s st u = s.os.foldl (fromF (endOf s st) u) (s.job u).f := rfl
theorem foldl_take {α β : Type} (f : β → α → β) (a : β) {xs : List α} {d : α} {j : Nat} (h : j < xs.length) : (xs.take (j + 1)).foldl f a = f ((xs.take j).foldl f a) (xs.getD j d) := by
  rw [List.take_succ_eq_append_getElem h, List.foldl_append, List.getD_eq_getElem?_getD, List.getElem?_eq_getElem h]; rfl
def EarlyEnd (w0 w : World) (b ge c : Nat) (jv ov : Value) (s : Sh) (st : List (Option Int)) (u : Nat) (e : Ending) (w' : World) : Prop :=
  ∃ x : Int, e = .returned (.tuple #[.int .i64 x, .bool (Shf.early s st u).isSome]) ∧ (∀ y, Shf.early s st u = some y → x = y) ∧ Lay w0 w' b ge c jv ov s (fun t => used s st t) (endOf s st) ∧ Below w.heap.size w w'
set_option maxHeartbeats 4000000 in
set_option maxRecDepth 100000 in
theorem earliest73 {w0 w : World} {b ge c : Nat} {jv ov : Value} {s : Sh} {st : List (Option Int)} (hs : Loose s) (h : Lay w0 w b ge c jv ov s (fun t => used s st t) (endOf s st)) {u : Nat} (hu : u < s.n) (h20 : s.os.length ≤ 20) (hos : ∀ j, j < s.os.length → (s.os.getD j (0, 0)).1 < s.n)
    (hE : ∀ i, i < s.n → 0 ≤ endOf s st i ∧ endOf s st i ≤ 24) (hU : ∀ t : Nat, t < 24 → -1000 ≤ used s st t ∧ used s st t ≤ 1000) :
    Calls Try.prog 73 #[.pointer (some ⟨b, 0, none⟩), .int .i64 u] w (EarlyEnd w0 w b ge c jv ov s st u) := by
  obtain ⟨ja, jc, rfl, hjc, hjat⟩ := h.rj.at
  obtain ⟨gj, rfl, hgj, k0, k1, k2, k3⟩ := hjat u hu
  obtain ⟨oa, oc, rfl, hoc, hoat⟩ := h.ro.at
  obtain ⟨m, hm⟩ : ∃ m, m = s.os.length := ⟨_, rfl⟩
  rw [osI_len, ← hm] at h hoc hoat ⊢
  rw [show s.js.length = s.n from rfl] at h hjc ⊢
  have hm' := Lib.hid hm
  have h' := Lib.hid h
  have hoat' := Lib.hid hoat
  have hos' := Lib.hid hos
  have hs' := Lib.hid hs
  have hE' := Lib.hid hE
  have hU' := Lib.hid hU
  rw [← hm] at h20
  have d0 := (h.below.cell (p := ⟨gj, u * 4, none⟩) hgj).trans k0
  have d1 := (h.below.cell (p := ⟨gj, u * 4 + 1, none⟩) hgj).trans k1
  have d2 := (h.below.cell (p := ⟨gj, u * 4 + 2, none⟩) hgj).trans k2
  have d3 := (h.below.cell (p := ⟨gj, u * 4 + 3, none⟩) hgj).trans k3
  obtain ⟨⟨f, t, l, p⟩, hjq⟩ : ∃ j, j = s.js.getD u J0 := ⟨_, rfl⟩
  rw [← hjq] at d0 d1 d2 d3
  simp only at d0 d1 d2 d3
  have hjq' := Lib.hid (show s.job u = ⟨f, t, l, p⟩ from hjq.symm)
  have y1 := h.h1
  have hun : (u : Int) < (s.n : Int) := by omega
  have hW := Lib.hid (h.keep (below_alloc1 w (.cells #[.int .i64 f, .int .i64 t, .int .i64 l, .int .i64 p] 56)))
  have hbw := Lib.hid (below_alloc1 w (.cells #[.int .i64 f, .int .i64 t, .int .i64 l, .int .i64 p] 56))
  have y2 := hW.out.h2
  clear h hm hoat hos hs hE hU hjat k0 k1 k2 k3 hjq
  go_enter Try.func73, Try.ntmps73
  go_wp2_with fail
  have hj6 : ∀ wr, Below (w.heap.size + 1) (w.alloc (.cells #[.int .i64 f, .int .i64 t, .int .i64 l, .int .i64 p] 56)) wr → wr.cell? ⟨w.heap.size, 0, none⟩ = some (.int .i64 f) ∧ wr.cell? ⟨w.heap.size, 1, none⟩ = some (.int .i64 t) ∧ wr.cell? ⟨w.heap.size, 2, none⟩ = some (.int .i64 l) ∧ wr.cell? ⟨w.heap.size, 3, none⟩ = some (.int .i64 p) := fun wr hb =>
    ⟨(hb.cell (p := ⟨w.heap.size, 0, none⟩) (Nat.lt_succ_self _)).trans (by simp), (hb.cell (p := ⟨w.heap.size, 1, none⟩) (Nat.lt_succ_self _)).trans (by simp), (hb.cell (p := ⟨w.heap.size, 2, none⟩) (Nat.lt_succ_self _)).trans (by simp), (hb.cell (p := ⟨w.heap.size, 3, none⟩) (Nat.lt_succ_self _)).trans (by simp)⟩
  have hj6' := Lib.hid hj6
  have hsz := Lib.hid (show (w.alloc (.cells #[.int .i64 f, .int .i64 t, .int .i64 l, .int .i64 p] 56)).heap.size = w.heap.size + 1 by simp)
  obtain ⟨W1, hW1⟩ : ∃ W1, W1 = w.alloc (.cells #[.int .i64 f, .int .i64 t, .int .i64 l, .int .i64 p] 56) := ⟨_, rfl⟩
  rw [← hW1] at hW hbw hj6' hsz ⊢
  clear hj6 hW1 d0 d1 d2 d3 y1 y2
  go_loopw [7, 27] (fun sv iv wr => ∃ j : Nat, ∃ x : Int, j ≤ m ∧ iv = .int .i64 j ∧ sv = .int .i64 x ∧ Hid (x = (s.os.take j).foldl (fromF (endOf s st) u) f) ∧ Hid (Lay w0 wr b ge c (.slice (some ⟨gj, 0, none⟩) s.n jc) (.slice oa m oc) s (fun t => used s st t) (endOf s st)) ∧ Hid (Below (w.heap.size + 1) W1 wr)) (fun _ iv _ => m - (intOf iv).toNat)
  case atStart => exact ⟨0, f, Nat.zero_le _, rfl, rfl, Lib.hid rfl, hW, Lib.hid (Below.refl _ _)⟩
  case round =>
    obtain ⟨j, x, hj, rfl, rfl, hx, hL, hbr⟩ := hrel
    by_cases hjm : j < m
    · obtain ⟨g, rfl, hg, c0, c1⟩ := hoat'.out j hjm
      have d0 := (hL.out.below.cell (p := ⟨g, j * 2, none⟩) hg).trans c0
      have d1 := (hL.out.below.cell (p := ⟨g, j * 2 + 1, none⟩) hg).trans c1
      rw [osI_at] at d0 d1
      have hon := hos'.out j (by rw [← hm'.out]; exact hjm)
      have hft := foldl_take (fromF (endOf s st) u) f (d := (0, 0)) (show j < s.os.length by rw [← hm'.out]; exact hjm)
      rw [← hx.out] at hft
      obtain ⟨⟨a, q⟩, hpq⟩ : ∃ o, o = s.os.getD j (0, 0) := ⟨_, rfl⟩
      rw [← hpq] at d0 d1 hon hft
      simp only at d0 d1 hon hft
      have hL2 := Lib.hid (hL.out.keep (below_alloc1 wr (.cells #[.int .i64 a, .int .i64 q] 78)))
      have hb2 := Lib.hid (hbr.out.alloc (by have := hbr.out.size; rw [hsz.out] at this; exact this) (.cells #[.int .i64 a, .int .i64 q] 78))
      have x3 := hL2.out.h3
      have e1 := hL2.out.ends a hon
      have han : (a : Int) < (s.n : Int) := by omega
      obtain ⟨z, hz⟩ : ∃ z, z = endOf s st a := ⟨_, rfl⟩
      clear c0 c1 hpq hx
      by_cases hq : q = u
      · subst hq
        have hx2 := Lib.hid (show (if x < z then z else x) = (s.os.take (j + 1)).foldl (fromF (endOf s st) q) f from by rw [hft, fromF, if_pos rfl, ← hz]; show _ = max x z; split <;> omega)
        rw [← hz] at e1
        clear hft hz
        go_wp2_with fail
        go_quiet (fail)
        go_wp2_with fail
        exact ⟨⟨j + 1, _, by omega, by go_num, rfl, hx2, Lib.hid (hL2.out.keep (below_drewN (Below.refl _ _) _)), Lib.hid (below_drewN hb2.out _)⟩, by simp [intOf]; omega⟩
      · have hd : ((q : Int) == (u : Int)) = false := by simp; omega
        have hx2 := Lib.hid (show x = (s.os.take (j + 1)).foldl (fromF (endOf s st) u) f from by rw [hft, fromF, if_neg hq])
        clear hft hz
        go_wp2_with fail
        go_roundw
        case rel => exact ⟨j + 1, x, by omega, by go_num, rfl, hx2, hL2, hb2⟩
        case measure => simp [intOf]; omega
    · obtain rfl : j = m := by omega
      have hjb := hs'.out.jobs u hu
      rw [hjq'.out] at hjb
      simp only at hjb
      have hF : x = from0 s st u := by rw [from0_eq, hjq'.out, hx.out, List.take_of_length_le (by rw [← hm'.out]; omega)]
      have hF0 : 0 ≤ x := by have := (from0_ge s st u).1; rw [hjq'.out] at this; simp only at this; omega
      have hF1 : x ≤ 24 := by
        rw [hF]
        refine from0_le (by rw [hjq'.out]; exact hjb.2.1) (fun o ho _ => (hE'.out o.1 ((hs'.out.orders o ho).1)).2)
      have hF' := Lib.hid hF
      have e38 := Lib.hid (show ∀ W, Calls Try.prog 38 #[.agg #[.int .i64 f, .int .i64 t, .int .i64 l, .int .i64 p]] W fun e w' => e = .returned (.int .i64 (t - l)) ∧ Below W.heap.size W w' from fun W => latest38 ⟨f, t, l, p⟩ (by simp only; omega))
      clear hF hx
      go_wp2_with fail
      obtain ⟨F, hFq⟩ : ∃ F, F = x := ⟨_, rfl⟩
      rw [← hFq] at hF0 hF1 hF'
      go_loopw [7, 10] (fun sv tv wr => ∃ x y : Int, F ≤ x ∧ x ≤ y ∧ y ≤ x + l ∧ y ≤ 48 ∧ x ≤ 48 ∧ tv = .int .i64 y ∧ sv = .int .i64 x ∧ Hid (∀ z, F ≤ z → z < x → free s st u z = false) ∧ Hid (∀ z, x ≤ z → z < y → used s st z + p ≤ s.P) ∧ Hid (Lay w0 wr b ge c (.slice (some ⟨gj, 0, none⟩) s.n jc) (.slice oa j oc) s (fun t => used s st t) (endOf s st)) ∧ Hid (Below (w.heap.size + 1) W1 wr)) (fun _ tv _ => 49 - (intOf tv).toNat)
      case atStart => exact ⟨x, x, by omega, by omega, by omega, by omega, by omega, rfl, rfl, Lib.hid (by intro z h1 h2; omega), Lib.hid (by intro z h1 h2; omega), hL, hbr⟩
      case round =>
        clear hL hbr hFq
        obtain ⟨x, y, hx1, hx2, hx3, hx4, hx5, rfl, rfl, hno, hfit, hL, hbr⟩ := hrel
        obtain ⟨x0, x1, x2, x3⟩ := hj6'.out wr hbr.out
        by_cases c1 : y < x + l
        · by_cases c2 : x ≤ t - l
          · obtain ⟨k, rfl⟩ : ∃ k : Nat, y = (k : Int) := ⟨y.toNat, by omega⟩
            have hk24 : k < 24 := by omega
            obtain ⟨v, hv⟩ : ∃ v, v = used s st k := ⟨_, rfl⟩
            have hvb := hU'.out k hk24
            rw [← hv] at hvb
            have hP := hs'.out.power
            have hv' := Lib.hid hv
            obtain ⟨M, hM⟩ : ∃ M, M = s.P := ⟨_, rfl⟩
            rw [← hM] at hP
            have hM' := Lib.hid hM
            have hn2 := Lib.hid (fun (h : M < v + p) => (show ∀ z, F ≤ z → z < (k : Int) + 1 → free s st u z = false from fun z h1 h2 => by
              by_cases hz : z < x
              · exact hno.out z h1 hz
              · refine Bool.eq_false_iff.2 fun hf => ?_
                have := free_iff.1 hf k (by omega) (by rw [hjq'.out]; show (k : Int) < z + l; omega)
                rw [hjq'.out, ← hv'.out, ← hM'.out] at this
                simp only at this
                omega))
            have hf2 := Lib.hid (fun (h : v + p ≤ M) => (show ∀ z, x ≤ z → z < (k : Int) + 1 → used s st z + p ≤ s.P from fun z h1 h2 => by
              by_cases hz : z < k
              · exact hfit.out z h1 hz
              · obtain rfl : z = k := by omega
                rw [← hv'.out, ← hM'.out]; omega))
            clear hv hM
            go_wp2_with (
              go_at_call 38; refine (e38.out _).mono ?_; rintro e wk ⟨rfl, hbk⟩
              have hLk := Lib.hid (hL.out.keep hbk)
              have hbk2 := Lib.hid (hbr.out.trans (hbk.mono (by have := hbr.out.size; rw [hsz.out] at this; exact this)))
              obtain ⟨z0, z1, z2, z3⟩ := hj6'.out wk hbk2.out
              have q0 := hLk.out.used k hk24
              rw [← hv'.out] at q0
              have qp := hLk.out.h0
              rw [← hM'.out] at qp)
            by_cases c3 : M < v + p
            · have hn3 := Lib.hid (hn2.out c3)
              clear hn2 hf2
              have htI : (k : Int) < 24 := by omega
              go_quiet (fail)
              go_wp2_with fail
              exact ⟨⟨(k : Int) + 1, (k : Int) + 1, by omega, by omega, by omega, by omega, by omega, rfl, rfl, hn3, Lib.hid (by intro z h1 h2; omega), Lib.hid (hLk.out.keep (below_drewN (Below.refl _ _) _)), Lib.hid (below_drewN hbk2.out _)⟩, by simp [intOf]; omega⟩
            · have hf3 := Lib.hid (hf2.out (by omega))
              clear hn2 hf2
              have htI : (k : Int) < 24 := by omega
              go_quiet (fail)
              go_wp2_with fail
              exact ⟨⟨x, (k : Int) + 1, by omega, by omega, by omega, by omega, by omega, rfl, rfl, hno, hf3, Lib.hid (hLk.out.keep (below_drewN (Below.refl _ _) _)), Lib.hid (below_drewN hbk2.out _)⟩, by simp [intOf]; omega⟩
          · have hend := Lib.hid (show Shf.early s st u = none from early_only (early_is s st u) (show Early s st u none from fun z h1 h2 => hno.out z (by rw [hF'.out]; exact h1) (by rw [hjq'.out] at h2; have : lat ⟨f, t, l, p⟩ = t - l := rfl; omega)))
            go_wp2_with (first | (
              go_at_call 38; refine (e38.out _).mono ?_; rintro e wk ⟨rfl, hbk⟩
              have hLk := Lib.hid (hL.out.keep hbk)
              have hbk2 := Lib.hid (hbr.out.trans (hbk.mono (by have := hbr.out.size; rw [hsz.out] at this; exact this)))
              obtain ⟨z0, z1, z2, z3⟩ := hj6'.out wk hbk2.out) | (
              go_at_call 38; refine (e38.out _).mono ?_; rintro e wl ⟨rfl, hbl⟩
              have hLl := Lib.hid (hLk.out.keep hbl)
              have hbl2 := Lib.hid (hbk2.out.trans (hbl.mono (by have := hbk2.out.size; rw [hsz.out] at this; exact this)))))
            go_ret2
            refine ⟨x, by rw [hend.out]; simp; omega, fun y hy => (by rw [hend.out] at hy; cases hy), hLl.out, ?_⟩
            exact hbw.out.trans (hbl2.out.mono (Nat.le_succ _))
        · obtain rfl : y = x + l := by omega
          have hend := Lib.hid (show Shf.early s st u = if x ≤ t - l then some x else none from early_only (early_is s st u) (by
            have hlat : lat ⟨f, t, l, p⟩ = t - l := rfl
            split
            · refine ⟨by rw [← hF'.out]; exact hx1, by rw [hjq'.out, hlat]; assumption, free_iff.2 fun z h1 h2 => ?_, fun z h1 h2 => hno.out z (by rw [hF'.out]; exact h1) h2⟩
              rw [hjq'.out] at h2 ⊢
              exact hfit.out z h1 h2
            · exact fun z h1 h2 => hno.out z (by rw [hF'.out]; exact h1) (by rw [hjq'.out, hlat] at h2; omega)))
          go_wp2_with (
              go_at_call 38; refine (e38.out _).mono ?_; rintro e wk ⟨rfl, hbk⟩
              have hLk := Lib.hid (hL.out.keep hbk)
              have hbk2 := Lib.hid (hbr.out.trans (hbk.mono (by have := hbr.out.size; rw [hsz.out] at this; exact this)))
              obtain ⟨z0, z1, z2, z3⟩ := hj6'.out wk hbk2.out)
          go_ret2
          refine ⟨x, ?_, fun y hy => ?_, hLk.out, hbw.out.trans (hbk2.out.mono (Nat.le_succ _))⟩
          · rw [hend.out]; by_cases hq : x ≤ t - l <;> simp [hq]
          · rw [hend.out] at hy
            split at hy
            · injection hy
            · cases hy
end Go.Proofs.Ytjkbhdlbomcbeaa
