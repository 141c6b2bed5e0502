import Derived.Test.YtjkbhdlbomcbeaaVm
import Derived.Test.YtjkbhdlbomcbeaaV5
namespace Go.Proofs.Ytjkbhdlbomcbeaa
open Go.RowKit Shf

def fromF (E : Nat → Int) (u : Nat) (x : Int) (o : Nat × Nat) : Int := if o.2 = u then max x (E o.1) else x
theorem from0_eq (s : Sh) (st : List (Option Int)) (u : Nat) : from0 s st u = s.os.foldl (fromF (endOf s st) u) (s.job u).f := rfl
theorem foldl_take {α β : Type} (f : β → α → β) (a : β) {xs : List α} {d : α} {j : Nat} (h : j < xs.length) : (xs.take (j + 1)).foldl f a = f ((xs.take j).foldl f a) (xs.getD j d) := by
  rw [List.take_succ_eq_append_getElem h, List.foldl_append, List.getD_eq_getElem?_getD, List.getElem?_eq_getElem h]; rfl
def EarlyEnd (w0 w : World) (b ge c : Nat) (jv ov : Value) (s : Sh) (st : List (Option Int)) (u : Nat) (e : Ending) (w' : World) : Prop :=
  ∃ x : Int, e = .returned (.tuple #[.int .i64 x, .bool (Shf.early s st u).isSome]) ∧ (∀ y, Shf.early s st u = some y → x = y) ∧ Lay w0 w' b ge c jv ov s (fun t => used s st t) (endOf s st) ∧ Below w.heap.size w w'
set_option maxHeartbeats 4000000 in
set_option maxRecDepth 100000 in
theorem earliest73 {w0 w : World} {b ge c : Nat} {jv ov : Value} {s : Sh} {st : List (Option Int)} (hs : Loose s) (h : Lay w0 w b ge c jv ov s (fun t => used s st t) (endOf s st)) {u : Nat} (hu : u < s.n) (h20 : s.os.length ≤ 20) (hos : ∀ j, j < s.os.length → (s.os.getD j (0, 0)).1 < s.n)
    (hE : ∀ i, i < s.n → 0 ≤ endOf s st i ∧ endOf s st i ≤ 24) (hU : ∀ t : Nat, t < 24 → -1000 ≤ used s st t ∧ used s st t ≤ 1000) :
    Calls Try.prog 73 #[.pointer (some ⟨b, 0, none⟩), .int .i64 u] w (EarlyEnd w0 w b ge c jv ov s st u) := by
  obtain ⟨ja, jc, rfl, hjc, hjat⟩ := h.rj.at
  obtain ⟨gj, rfl, hgj, k0, k1, k2, k3⟩ := hjat u hu
  obtain ⟨oa, oc, rfl, hoc, hoat⟩ := h.ro.at
  obtain ⟨m, hm⟩ : ∃ m, m = s.os.length := ⟨_, rfl⟩
  rw [osI_len, ← hm] at h hoc hoat ⊢
  rw [show s.js.length = s.n from rfl] at h hjc ⊢
  have hm' := Lib.hid hm
  have h' := Lib.hid h
  have hoat' := Lib.hid hoat
  have hos' := Lib.hid hos
  have hs' := Lib.hid hs
  have hE' := Lib.hid hE
  have hU' := Lib.hid hU
  rw [← hm] at h20
  have d0 := (h.below.cell (p := ⟨gj, u * 4, none⟩) hgj).trans k0
  have d1 := (h.below.cell (p := ⟨gj, u * 4 + 1, none⟩) hgj).trans k1
  have d2 := (h.below.cell (p := ⟨gj, u * 4 + 2, none⟩) hgj).trans k2
  have d3 := (h.below.cell (p := ⟨gj, u * 4 + 3, none⟩) hgj).trans k3
  obtain ⟨⟨f, t, l, p⟩, hjq⟩ : ∃ j, j = s.js.getD u J0 := ⟨_, rfl⟩
  rw [← hjq] at d0 d1 d2 d3
  simp only at d0 d1 d2 d3
  have hjq' := Lib.hid (show s.job u = ⟨f, t, l, p⟩ from hjq.symm)
  have y1 := h.h1
  have hun : (u : Int) < (s.n : Int) := by omega
  have hW := Lib.hid (h.keep (below_alloc1 w (.cells #[.int .i64 f, .int .i64 t, .int .i64 l, .int .i64 p] 56)))
  have hbw := Lib.hid (below_alloc1 w (.cells #[.int .i64 f, .int .i64 t, .int .i64 l, .int .i64 p] 56))
  have y2 := hW.out.h2
  clear h hm hoat hos hs hE hU hjat k0 k1 k2 k3 hjq
  go_enter Try.func73, Try.ntmps73
  go_wp2_with fail
  have hj6 : ∀ wr, Below (w.heap.size + 1) (w.alloc (.cells #[.int .i64 f, .int .i64 t, .int .i64 l, .int .i64 p] 56)) wr → wr.cell? ⟨w.heap.size, 0, none⟩ = some (.int .i64 f) ∧ wr.cell? ⟨w.heap.size, 1, none⟩ = some (.int .i64 t) ∧ wr.cell? ⟨w.heap.size, 2, none⟩ = some (.int .i64 l) ∧ wr.cell? ⟨w.heap.size, 3, none⟩ = some (.int .i64 p) := fun wr hb =>
    ⟨(hb.cell (p := ⟨w.heap.size, 0, none⟩) (Nat.lt_succ_self _)).trans (by simp), (hb.cell (p := ⟨w.heap.size, 1, none⟩) (Nat.lt_succ_self _)).trans (by simp), (hb.cell (p := ⟨w.heap.size, 2, none⟩) (Nat.lt_succ_self _)).trans (by simp), (hb.cell (p := ⟨w.heap.size, 3, none⟩) (Nat.lt_succ_self _)).trans (by simp)⟩
  have hj6' := Lib.hid hj6
  have hsz := Lib.hid (show (w.alloc (.cells #[.int .i64 f, .int .i64 t, .int .i64 l, .int .i64 p] 56)).heap.size = w.heap.size + 1 by simp)
  obtain ⟨W1, hW1⟩ : ∃ W1, W1 = w.alloc (.cells #[.int .i64 f, .int .i64 t, .int .i64 l, .int .i64 p] 56) := ⟨_, rfl⟩
  rw [← hW1] at hW hbw hj6' hsz ⊢
  clear hj6 hW1 d0 d1 d2 d3 y1 y2
  go_loopw [7, 27] (fun sv iv wr => ∃ j : Nat, ∃ x : Int, j ≤ m ∧ iv = .int .i64 j ∧ sv = .int .i64 x ∧ Hid (x = (s.os.take j).foldl (fromF (endOf s st) u) f) ∧ Hid (Lay w0 wr b ge c (.slice (some ⟨gj, 0, none⟩) s.n jc) (.slice oa m oc) s (fun t => used s st t) (endOf s st)) ∧ Hid (Below (w.heap.size + 1) W1 wr)) (fun _ iv _ => m - (intOf iv).toNat)
  case atStart => exact ⟨0, f, Nat.zero_le _, rfl, rfl, Lib.hid rfl, hW, Lib.hid (Below.refl _ _)⟩
  case round =>
    obtain ⟨j, x, hj, rfl, rfl, hx, hL, hbr⟩ := hrel
    by_cases hjm : j < m
    · obtain ⟨g, rfl, hg, c0, c1⟩ := hoat'.out j hjm
      have d0 := (hL.out.below.cell (p := ⟨g, j * 2, none⟩) hg).trans c0
      have d1 := (hL.out.below.cell (p := ⟨g, j * 2 + 1, none⟩) hg).trans c1
      rw [osI_at] at d0 d1
      have hon := hos'.out j (by rw [← hm'.out]; exact hjm)
      have hft := foldl_take (fromF (endOf s st) u) f (d := (0, 0)) (show j < s.os.length by rw [← hm'.out]; exact hjm)
      rw [← hx.out] at hft
      obtain ⟨⟨a, q⟩, hpq⟩ : ∃ o, o = s.os.getD j (0, 0) := ⟨_, rfl⟩
      rw [← hpq] at d0 d1 hon hft
      simp only at d0 d1 hon hft
      have hL2 := Lib.hid (hL.out.keep (below_alloc1 wr (.cells #[.int .i64 a, .int .i64 q] 78)))
      have hb2 := Lib.hid (hbr.out.alloc (by have := hbr.out.size; rw [hsz.out] at this; exact this) (.cells #[.int .i64 a, .int .i64 q] 78))
      have x3 := hL2.out.h3
      have e1 := hL2.out.ends a hon
      have han : (a : Int) < (s.n : Int) := by omega
      obtain ⟨z, hz⟩ : ∃ z, z = endOf s st a := ⟨_, rfl⟩
      clear c0 c1 hpq hx
      by_cases hq : q = u
      · subst hq
        have hx2 := Lib.hid (show (if x < z then z else x) = (s.os.take (j + 1)).foldl (fromF (endOf s st) q) f from by rw [hft, fromF, if_pos rfl, ← hz]; show _ = max x z; split <;> omega)
        rw [← hz] at e1
        clear hft hz
        go_wp2_with fail
        go_quiet (fail)
        go_wp2_with fail
        exact ⟨⟨j + 1, _, by omega, by go_num, rfl, hx2, Lib.hid (hL2.out.keep (below_drewN (Below.refl _ _) _)), Lib.hid (below_drewN hb2.out _)⟩, by simp [intOf]; omega⟩
      · have hd : ((q : Int) == (u : Int)) = false := by simp; omega
        have hx2 := Lib.hid (show x = (s.os.take (j + 1)).foldl (fromF (endOf s st) u) f from by rw [hft, fromF, if_neg hq])
        clear hft hz
        go_wp2_with fail
        go_roundw
        case rel => exact ⟨j + 1, x, by omega, by go_num, rfl, hx2, hL2, hb2⟩
        case measure => simp [intOf]; omega
    · obtain rfl : j = m := by omega
      have hjb := hs'.out.jobs u hu
      rw [hjq'.out] at hjb
      simp only at hjb
      have hF : x = from0 s st u := by rw [from0_eq, hjq'.out, hx.out, List.take_of_length_le (by rw [← hm'.out]; omega)]
      have hF0 : 0 ≤ x := by have := (from0_ge s st u).1; rw [hjq'.out] at this; simp only at this; omega
      have hF1 : x ≤ 24 := by
        rw [hF]
        refine from0_le (by rw [hjq'.out]; exact hjb.2.1) (fun o ho _ => (hE'.out o.1 ((hs'.out.orders o ho).1)).2)
      have hF' := Lib.hid hF
      have e38 := Lib.hid (show ∀ W, Calls Try.prog 38 #[.agg #[.int .i64 f, .int .i64 t, .int .i64 l, .int .i64 p]] W fun e w' => e = .returned (.int .i64 (t - l)) ∧ Below W.heap.size W w' from fun W => latest38 ⟨f, t, l, p⟩ (by simp only; omega))
      clear hF hx
      go_wp2_with fail
      obtain ⟨F, hFq⟩ : ∃ F, F = x := ⟨_, rfl⟩
      rw [← hFq] at hF0 hF1 hF'
      go_loopw [7, 10] (fun sv tv wr => ∃ x y : Int, F ≤ x ∧ x ≤ y ∧ y ≤ x + l ∧ y ≤ 48 ∧ x ≤ 48 ∧ tv = .int .i64 y ∧ sv = .int .i64 x ∧ Hid (∀ z, F ≤ z → z < x → free s st u z = false) ∧ Hid (∀ z, x ≤ z → z < y → used s st z + p ≤ s.P) ∧ Hid (Lay w0 wr b ge c (.slice (some ⟨gj, 0, none⟩) s.n jc) (.slice oa j oc) s (fun t => used s st t) (endOf s st)) ∧ Hid (Below (w.heap.size + 1) W1 wr)) (fun _ tv _ => 49 - (intOf tv).toNat)
      case atStart => exact ⟨x, x, by omega, by omega, by omega, by omega, by omega, rfl, rfl, Lib.hid (by intro z h1 h2; omega), Lib.hid (by intro z h1 h2; omega), hL, hbr⟩
      case round =>
        clear hL hbr hFq
        obtain ⟨x, y, hx1, hx2, hx3, hx4, hx5, rfl, rfl, hno, hfit, hL, hbr⟩ := hrel
        obtain ⟨x0, x1, x2, x3⟩ := hj6'.out wr hbr.out
        by_cases c1 : y < x + l
        · by_cases c2 : x ≤ t - l
          · obtain ⟨k, rfl⟩ : ∃ k : Nat, y = (k : Int) := ⟨y.toNat, by omega⟩
            have hk24 : k < 24 := by omega
            obtain ⟨v, hv⟩ : ∃ v, v = used s st k := ⟨_, rfl⟩
            have hvb := hU'.out k hk24
            rw [← hv] at hvb
            have hP := hs'.out.power
            have hv' := Lib.hid hv
            obtain ⟨M, hM⟩ : ∃ M, M = s.P := ⟨_, rfl⟩
            rw [← hM] at hP
            have hM' := Lib.hid hM
            have hn2 := Lib.hid (fun (h : M < v + p) => (show ∀ z, F ≤ z → z < (k : Int) + 1 → free s st u z = false from fun z h1 h2 => by
              by_cases hz : z < x
              · exact hno.out z h1 hz
              · refine Bool.eq_false_iff.2 fun hf => ?_
                have := free_iff.1 hf k (by omega) (by rw [hjq'.out]; show (k : Int) < z + l; omega)
                rw [hjq'.out, ← hv'.out, ← hM'.out] at this
                simp only at this
                omega))
            have hf2 := Lib.hid (fun (h : v + p ≤ M) => (show ∀ z, x ≤ z → z < (k : Int) + 1 → used s st z + p ≤ s.P from fun z h1 h2 => by
              by_cases hz : z < k
              · exact hfit.out z h1 hz
              · obtain rfl : z = k := by omega
                rw [← hv'.out, ← hM'.out]; omega))
            clear hv hM
            go_wp2_with (
              go_at_call 38; refine (e38.out _).mono ?_; rintro e wk ⟨rfl, hbk⟩
              have hLk := Lib.hid (hL.out.keep hbk)
              have hbk2 := Lib.hid (hbr.out.trans (hbk.mono (by have := hbr.out.size; rw [hsz.out] at this; exact this)))
              obtain ⟨z0, z1, z2, z3⟩ := hj6'.out wk hbk2.out
              have q0 := hLk.out.used k hk24
              rw [← hv'.out] at q0
              have qp := hLk.out.h0
              rw [← hM'.out] at qp)
            by_cases c3 : M < v + p
            · have hn3 := Lib.hid (hn2.out c3)
              clear hn2 hf2
              have htI : (k : Int) < 24 := by omega
              go_quiet (fail)
              go_wp2_with fail
              exact ⟨⟨(k : Int) + 1, (k : Int) + 1, by omega, by omega, by omega, by omega, by omega, rfl, rfl, hn3, Lib.hid (by intro z h1 h2; omega), Lib.hid (hLk.out.keep (below_drewN (Below.refl _ _) _)), Lib.hid (below_drewN hbk2.out _)⟩, by simp [intOf]; omega⟩
            · have hf3 := Lib.hid (hf2.out (by omega))
              clear hn2 hf2
              have htI : (k : Int) < 24 := by omega
              go_quiet (fail)
              go_wp2_with fail
              exact ⟨⟨x, (k : Int) + 1, by omega, by omega, by omega, by omega, by omega, rfl, rfl, hno, hf3, Lib.hid (hLk.out.keep (below_drewN (Below.refl _ _) _)), Lib.hid (below_drewN hbk2.out _)⟩, by simp [intOf]; omega⟩
          · have hend := Lib.hid (show Shf.early s st u = none from early_only (early_is s st u) (show Early s st u none from fun z h1 h2 => hno.out z (by rw [hF'.out]; exact h1) (by rw [hjq'.out] at h2; have : lat ⟨f, t, l, p⟩ = t - l := rfl; omega)))
            go_wp2_with (first | (
              go_at_call 38; refine (e38.out _).mono ?_; rintro e wk ⟨rfl, hbk⟩
              have hLk := Lib.hid (hL.out.keep hbk)
              have hbk2 := Lib.hid (hbr.out.trans (hbk.mono (by have := hbr.out.size; rw [hsz.out] at this; exact this)))
              obtain ⟨z0, z1, z2, z3⟩ := hj6'.out wk hbk2.out) | (
              go_at_call 38; refine (e38.out _).mono ?_; rintro e wl ⟨rfl, hbl⟩
              have hLl := Lib.hid (hLk.out.keep hbl)
              have hbl2 := Lib.hid (hbk2.out.trans (hbl.mono (by have := hbk2.out.size; rw [hsz.out] at this; exact this)))))
            go_ret2
            refine ⟨x, by rw [hend.out]; simp; omega, fun y hy => (by rw [hend.out] at hy; cases hy), hLl.out, ?_⟩
            exact hbw.out.trans (hbl2.out.mono (Nat.le_succ _))
        · obtain rfl : y = x + l := by omega
          have hend := Lib.hid (show Shf.early s st u = if x ≤ t - l then some x else none from early_only (early_is s st u) (by
            have hlat : lat ⟨f, t, l, p⟩ = t - l := rfl
            split
            · refine ⟨by rw [← hF'.out]; exact hx1, by rw [hjq'.out, hlat]; assumption, free_iff.2 fun z h1 h2 => ?_, fun z h1 h2 => hno.out z (by rw [hF'.out]; exact h1) h2⟩
              rw [hjq'.out] at h2 ⊢
              exact hfit.out z h1 h2
            · exact fun z h1 h2 => hno.out z (by rw [hF'.out]; exact h1) (by rw [hjq'.out, hlat] at h2; omega)))
          go_wp2_with (
              go_at_call 38; refine (e38.out _).mono ?_; rintro e wk ⟨rfl, hbk⟩
              have hLk := Lib.hid (hL.out.keep hbk)
              have hbk2 := Lib.hid (hbr.out.trans (hbk.mono (by have := hbr.out.size; rw [hsz.out] at this; exact this)))
              obtain ⟨z0, z1, z2, z3⟩ := hj6'.out wk hbk2.out)
          go_ret2
          refine ⟨x, ?_, fun y hy => ?_, hLk.out, hbw.out.trans (hbk2.out.mono (Nat.le_succ _))⟩
          · rw [hend.out]; by_cases hq : x ≤ t - l <;> simp [hq]
          · rw [hend.out] at hy
            split at hy
            · injection hy
            · cases hy
end Go.Proofs.Ytjkbhdlbomcbeaa

namespace Go.Proofs.Ytjkbhdlbomcbeaa
open Go.RowKit Shf

def CompEnd (w0 w : World) (b ge c : Nat) (jv ov : Value) (s : Sh) (st : List (Option Int)) (v : Bool) (e : Ending) (w' : World) : Prop :=
  e = .returned (.bool v) ∧ Mod b ge w w' ∧ (v = false → Lay w0 w' b ge c jv ov s (fun t => used s st t) (endOf s st))
theorem endOf_laid {s : Sh} {st : List (Option Int)} (hs : Loose s) (hP : Part s st) {i : Nat} (hi : i < s.n) {x : Int} (h : At st i = some x) : 0 < endOf s st i ∧ endOf s st i ≤ 24 := by
  have h1 := hP.range i x hi h
  have h2 := hs.jobs i hi
  have : endOf s st i = x + (s.job i).l := by unfold endOf; rw [h]
  unfold lat at h1
  omega
theorem endOf_open {s : Sh} {st : List (Option Int)} {i : Nat} (h : At st i = none) : endOf s st i = 0 := by unfold endOf; rw [h]
theorem endOf_in {s : Sh} {st : List (Option Int)} (hs : Loose s) (hP : Part s st) {i : Nat} (hi : i < s.n) : 0 ≤ endOf s st i ∧ endOf s st i ≤ 24 := by
  cases h : At st i with
  | none => rw [endOf_open h]; omega
  | some x => have := endOf_laid hs hP hi h; omega
theorem used_in {s : Sh} {st : List (Option Int)} (hs : Loose s) (hP : Part s st) {t : Nat} (ht : t < 24) : 0 ≤ used s st t ∧ used s st t ≤ 20 := by
  refine ⟨sm_nonneg _ fun i hi => ?_, ?_⟩
  · cases At st i with
    | none => exact Int.le_refl 0
    | some x => exact act_nonneg (by have := hs.jobs i hi; omega) _ _
  · have := hP.load t (by omega) (by omega); have := hs.power; omega
theorem range_all (f : Nat → Bool) (i : Nat) : (List.range (i + 1)).all f = ((List.range i).all f && f i) := by rw [List.range_succ, List.all_append]; simp
theorem range_any (f : Nat → Bool) (i : Nat) : (List.range (i + 1)).any f = ((List.range i).any f || f i) := by rw [List.range_succ, List.any_append]; simp
theorem os_ok {s : Sh} (hs : Loose s) : ∀ j, j < s.os.length → (s.os.getD j (0, 0)).1 < s.n := fun j hj => by
  rw [List.getD_eq_getElem?_getD, List.getElem?_eq_getElem hj]
  exact (hs.orders _ (List.getElem_mem hj)).1
/-- The cell that tells whether a job is laid. -/
theorem laid_iff {s : Sh} {st : List (Option Int)} (hs : Loose s) (hP : Part s st) {i : Nat} (hi : i < s.n) : (At st i).isSome = decide (0 < endOf s st i) := by
  cases h : At st i with
  | none => rw [endOf_open h]; rfl
  | some x => have := endOf_laid hs hP hi h; simp; omega
theorem Lay.other {w0 w : World} {b ge c : Nat} {jv ov : Value} {s : Sh} {U E : Nat → Int} (h : Lay w0 w b ge c jv ov s U E) {g : Nat} (k : Nat) (u : Value) (hg : w0.heap.size ≤ g) (h1 : g ≠ b) (h2 : g ≠ ge) : Lay w0 (w.setCell ⟨g, k, none⟩ u) b ge c jv ov s U E where
  rj := h.rj
  ro := h.ro
  below := below_set h.below hg
  hb := h.hb
  hge := h.hge
  hbw := by simpa using h.hbw
  hgw := by simpa using h.hgw
  hne := h.hne
  hc := h.hc
  h0 := by rw [World.cell?_setCell_other _ _ _ _ (by simp <;> omega)]; exact h.h0
  h1 := by rw [World.cell?_setCell_other _ _ _ _ (by simp <;> omega)]; exact h.h1
  h2 := by rw [World.cell?_setCell_other _ _ _ _ (by simp <;> omega)]; exact h.h2
  h3 := by rw [World.cell?_setCell_other _ _ _ _ (by simp <;> omega)]; exact h.h3
  used := fun t ht => by rw [World.cell?_setCell_other _ _ _ _ (by simp <;> omega)]; exact h.used t ht
  ends := fun i hi => by rw [World.cell?_setCell_other _ _ _ _ (by simp <;> omega)]; exact h.ends i hi
  fb := fun j => by rw [World.frozen?_setCell]; exact h.fb j
  fg := fun j => by rw [World.frozen?_setCell]; exact h.fg j
theorem Row.mod {w w' : World} {b ge B g n : Nat} {xs : List Int} (h : Row w B g n xs) (k : Mod b ge w w') (h1 : g ≠ b) (h2 : g ≠ ge) : Row w' B g n xs := by
  refine ⟨?_, h.2⟩
  rcases h.1.2 with ⟨h', _⟩ | ⟨g', cap', cur, h', hB, hg, rest⟩
  · simp at h'
  · have hg0 : g = g' := by simp only [Value.slice.injEq, Option.some.injEq, Addr.mk.injEq, and_true, true_and] at h'; exact h'.1
    exact ⟨h.1.1, .inr ⟨g', cap', cur, h', hB, (k.block g' (Array.getElem?_eq_some_iff.1 hg).1 (by rw [← hg0]; exact h1) (by rw [← hg0]; exact h2)).trans hg, rest⟩⟩
theorem next_eq {s : Sh} {st : List (Option Int)} (hs : Loose s) (hP : Part s st) (u : Nat) : s.os.all (nextO (endOf s st) u) = isNext s st u := by
  unfold isNext
  rw [Bool.eq_iff_iff, List.all_eq_true, List.all_eq_true]
  refine forall_congr' fun o => forall_congr' fun ho => ?_
  have h := laid_iff hs hP (hs.orders o ho).1
  have h0 := endOf_in hs hP (hs.orders o ho).1
  unfold nextO
  cases hA : At st o.1 with
  | none => rw [endOf_open hA]; simp
  | some x => rw [hA] at h; simp at h ⊢; omega
set_option maxHeartbeats 4000000 in
set_option maxRecDepth 100000 in
theorem complete_step {w0 w : World} {b ge c : Nat} {jv ov : Value} {s : Sh} {st : List (Option Int)} (hs : Loose s) (hP : Part s st) (h : Lay w0 w b ge c jv ov s (fun t => used s st t) (endOf s st)) (R : Nat → Bool)
    (hrec : ∀ i x W, i < s.n → At st i = none → isNext s st i = true → Shf.early s st i = some x → Lay w0 W b ge c jv ov s (fun t => used s (st.set i (some x)) t) (endOf s (st.set i (some x))) →
      Calls Try.prog 58 #[.pointer (some ⟨b, 0, none⟩)] W (CompEnd w0 W b ge c jv ov s (st.set i (some x)) (R i))) :
    Calls Try.prog 58 #[.pointer (some ⟨b, 0, none⟩)] w (CompEnd w0 w b ge c jv ov s st (((List.range s.n).all (fun i => (At st i).isSome || (Shf.early s st i).isSome)) && ((List.range s.n).all (fun i => (At st i).isSome) || (List.range s.n).any fun i => (At st i).isNone && isNext s st i && R i))) := by
  obtain ⟨ja, jc, rfl, hjc, hjat⟩ := h.rj.at
  rw [show s.js.length = s.n from rfl] at h hjc hrec hjat ⊢
  have h6 := hs.num
  have h' := Lib.hid h
  have hs' := Lib.hid hs
  have hP' := Lib.hid hP
  have hrec' := Lib.hid hrec
  have hjat' := Lib.hid hjat
  obtain ⟨v, hv⟩ : ∃ v, v = (((List.range s.n).all (fun i => (At st i).isSome || (Shf.early s st i).isSome)) && ((List.range s.n).all (fun i => (At st i).isSome) || (List.range s.n).any fun i => (At st i).isNone && isNext s st i && R i)) := ⟨_, rfl⟩
  rw [← hv]
  have hv' := Lib.hid hv
  have y1 := h.h1
  obtain ⟨n, hn⟩ : ∃ n, n = s.n := ⟨_, rfl⟩
  have hn' := Lib.hid hn
  rw [← hn] at h6 hjc y1 h' hrec' hv' ⊢
  clear h hs hP hrec hjat hv hn
  go_enter Try.func58, Try.ntmps58
  go_wp2_with (first | (at_make; refine make_row n (by omega) (Nat.le_refl w.heap.size) rfl _ _ rfl rfl rfl ?_; intro w1 hrow hbm; have hL1 := Lib.hid (h'.out.keep hbm); have z1 := hL1.out.h1))
  have hrow' := Lib.hid hrow
  have hbm' := Lib.hid hbm
  have hgs := Lib.hid (show b < w.heap.size ∧ ge < w.heap.size from ⟨h'.out.hbw, h'.out.hgw⟩)
  clear hrow hbm y1 z1
  go_loopw [4, 23] (fun cv iv wr => ∃ i : Nat, ∃ xs : List Int, i ≤ n ∧ iv = .int .i64 i ∧ cv = .bool ((List.range i).all fun k => (At st k).isSome) ∧ Hid (∀ k, k < i → At st k = none → Shf.early s st k = some (xs.getD k 0)) ∧ Hid (Row wr w.heap.size w.heap.size n xs) ∧ Hid (Lay w0 wr b ge c (.slice ja n jc) ov s (fun t => used s st t) (endOf s st)) ∧ Hid (Below w.heap.size w wr)) (fun _ iv _ => n - (intOf iv).toNat)
  case atStart => exact ⟨0, _, Nat.zero_le _, rfl, rfl, Lib.hid (fun k hk => absurd hk (Nat.not_lt_zero k)), hrow', hL1, hbm'⟩
  case round =>
    clear hrow' hL1 hbm'
    obtain ⟨i, xs, hi, rfl, rfl, hxs, hrow, hL, hbw⟩ := hrel
    by_cases hin : i < n
    · have hinS : i < s.n := by rw [← hn'.out]; exact hin
      have hc0 := hL.out.h3
      have he0 := hL.out.ends i hinS
      have hin' : (i : Int) < (s.n : Int) := by omega
      have hra := Lib.hid (range_all (fun k => (At st k).isSome) i)
      obtain ⟨cv, hcv⟩ : ∃ cv, cv = (List.range i).all fun k => (At st k).isSome := ⟨_, rfl⟩
      rw [← hcv] at hra ⊢
      cases ha : At st i with
      | some x =>
        have hp := (endOf_laid hs'.out hP'.out hinS ha).1
        have hca := Lib.hid (show cv = (List.range (i + 1)).all fun k => (At st k).isSome by rw [hra.out, ha]; simp)
        have hxs2 := Lib.hid (show ∀ k, k < i + 1 → At st k = none → Shf.early s st k = some (xs.getD k 0) from fun k hk h => by
          by_cases e : k = i
          · subst e; rw [ha] at h; cases h
          · exact hxs.out k (by omega) h)
        obtain ⟨z, hz⟩ : ∃ z, z = endOf s st i := ⟨_, rfl⟩
        rw [← hz] at he0 hp
        clear hcv hz hra
        go_wp2_with fail
        go_roundw
        case rel => exact ⟨i + 1, xs, by omega, by go_num, by rw [hca.out], hxs2, hrow, hL, hbw⟩
        case measure => simp [intOf]; omega
      | none =>
        have hp := endOf_open (s := s) ha
        have hca := Lib.hid (show false = (List.range (i + 1)).all fun k => (At st k).isSome by rw [hra.out, ha]; simp)
        rw [hp] at he0
        clear hcv hra
        have hcall := Lib.hid (earliest73 hs'.out hL.out hinS hs'.out.few (os_ok hs'.out) (fun k hk => endOf_in hs'.out hP'.out hk) (fun t ht => by have := used_in hs'.out hP'.out ht; omega))
        cases hea : Shf.early s st i with
        | none =>
          have hf := Lib.hid (show v = false from by
            rw [hv'.out, Bool.and_eq_false_iff]; left
            rw [List.all_eq_false]
            exact ⟨i, List.mem_range.2 (by omega), by rw [ha, hea]; simp⟩)
          obtain rfl := hf.out
          have hcl := Lib.hid (hcall.out.mono (R' := fun e w' => ∃ x, e = .returned (.tuple #[.int .i64 x, .bool false]) ∧ Lay w0 w' b ge c (.slice ja n jc) ov s (fun t => used s st t) (endOf s st) ∧ Below wr.heap.size wr w') (fun e w' h => by
            obtain ⟨x, h1, _, h3, h4⟩ := h
            rw [hea] at h1
            exact ⟨x, h1, h3, h4⟩))
          go_wp2_with (
            go_at_call 73; refine hcl.out.mono ?_; rintro e wk ⟨x, rfl, hLk, hbk⟩
            have hLk' := Lib.hid hLk
            have hbk' := Lib.hid hbk
            clear hLk hbk)
          go_ret
          exact ⟨rfl, Mod.of_below (below_call hbw.out hbk'.out), fun _ => hLk'.out⟩
        | some y =>
          have hcl := Lib.hid (hcall.out.mono (R' := fun e w' => e = .returned (.tuple #[.int .i64 y, .bool true]) ∧ Lay w0 w' b ge c (.slice ja n jc) ov s (fun t => used s st t) (endOf s st) ∧ Below wr.heap.size wr w') (fun e w' h => by
            obtain ⟨x, h1, h2, h3, h4⟩ := h
            obtain rfl := h2 y hea
            rw [hea] at h1
            exact ⟨h1, h3, h4⟩))
          go_wp2_with (
            go_at_call 73; refine hcl.out.mono ?_; rintro e wk ⟨rfl, hLk, hbk⟩
            have hLk' := Lib.hid hLk
            have hbk' := Lib.hid hbk
            have hrk := Lib.hid (hrow.out.below hbk)
            have r0 := hrk.out.cell hin
            have r1 := hrk.out.frozen i
            clear hLk hbk)
          have hxs2 := Lib.hid (show ∀ k, k < i + 1 → At st k = none → Shf.early s st k = some ((xs.set i y).getD k 0) from fun k hk h => by
            have hl := hrk.out.2
            by_cases e : k = i
            · subst e; rw [hea, List.getD_eq_getElem?_getD, List.getElem?_set_self (by omega)]; rfl
            · rw [List.getD_eq_getElem?_getD, List.getElem?_set_ne (fun h => e h.symm), ← List.getD_eq_getElem?_getD]; exact hxs.out k (by omega) h)
          have hlt := hgs.out
          have h00 := h'.out.below.size
          exact ⟨⟨i + 1, xs.set i y, by omega, by go_num, by rw [← hca.out], hxs2, Lib.hid (hrk.out.set i y), Lib.hid (hLk'.out.other i _ h00 (by omega) (by omega)), Lib.hid (below_set (below_call hbw.out hbk'.out) (Nat.le_refl _))⟩, by simp [intOf]; omega⟩
    · obtain rfl : i = n := by omega
      have h1a := Lib.hid (show ((List.range s.n).all fun i => (At st i).isSome || (Shf.early s st i).isSome) = true from by
        rw [List.all_eq_true]
        intro k hk
        have hk := List.mem_range.1 hk
        cases hA : At st k with
        | none => rw [hxs.out k (by rw [hn'.out]; exact hk) hA]; rfl
        | some x => rfl)
      have hv2 := Lib.hid (show v = (((List.range i).all fun i => (At st i).isSome) || (List.range i).any fun i => (At st i).isNone && isNext s st i && R i) from by rw [hv'.out, hn'.out, h1a.out, Bool.true_and])
      obtain ⟨aB, haB⟩ : ∃ aB, aB = (List.range i).all fun k => (At st k).isSome := ⟨_, rfl⟩
      rw [← haB] at hv2 ⊢
      have y1 := hL.out.h1
      have hM0 := Lib.hid (Mod.of_below (b := b) (ge := ge) hbw.out)
      clear hv' h1a haB
      go_wp2_with fail
      go_loopw [53] (fun iv wr => ∃ k : Nat, k ≤ i ∧ iv = .int .i64 k ∧ Hid (((List.range k).any fun i => (At st i).isNone && isNext s st i && R i) = false) ∧ Hid (Row wr w.heap.size w.heap.size i xs) ∧ Hid (Lay w0 wr b ge c (.slice ja i jc) ov s (fun t => used s st t) (endOf s st)) ∧ Hid (Mod b ge w wr)) (fun iv _ => i - (intOf iv).toNat)
      case atStart => exact ⟨0, Nat.zero_le _, rfl, Lib.hid rfl, hrow, hL, hM0⟩
      case round =>
        clear hrow hL hM0 y1
        obtain ⟨k, hk, rfl, hany, hrow, hL, hM⟩ := hrel
        by_cases hki : k < i
        · have hkS : k < s.n := by rw [← hn'.out]; exact hki
          obtain ⟨g, rfl, hg, c0, c1, c2, c3⟩ := hjat'.out k hkS
          have hjk := hs'.out.jobs k hkS
          have d0 := (hL.out.below.cell (p := ⟨g, k * 4, none⟩) hg).trans c0
          have d1 := (hL.out.below.cell (p := ⟨g, k * 4 + 1, none⟩) hg).trans c1
          have d2 := (hL.out.below.cell (p := ⟨g, k * 4 + 2, none⟩) hg).trans c2
          have d3 := (hL.out.below.cell (p := ⟨g, k * 4 + 3, none⟩) hg).trans c3
          obtain ⟨⟨f, t, l, p⟩, hjq⟩ : ∃ j, j = s.job k := ⟨_, rfl⟩
          rw [show s.js.getD k J0 = s.job k from rfl, ← hjq] at d0 d1 d2 d3
          rw [← hjq] at hjk
          simp only at d0 d1 d2 d3 hjk
          have hjq' := Lib.hid hjq
          have hra := Lib.hid (range_any (fun i => (At st i).isNone && isNext s st i && R i) k)
          have hb1 := Lib.hid (below_alloc1 wr (.cells #[.int .i64 f, .int .i64 t, .int .i64 l, .int .i64 p] 56))
          have hL1 := Lib.hid (hL.out.keep hb1.out)
          have hr1 := Lib.hid (hrow.out.below hb1.out)
          have hM1 := Lib.hid (hM.out.trans (Mod.of_below hb1.out))
          have x3 := hL1.out.h3
          have e1 := hL1.out.ends k hkS
          have hki' : (k : Int) < (s.n : Int) := by omega
          clear c0 c1 c2 c3 hjq
          cases ha : At st k with
          | some x =>
            have hp := (endOf_laid hs'.out hP'.out hkS ha).1
            have hok := Lib.hid (show ((List.range (k + 1)).any fun i => (At st i).isNone && isNext s st i && R i) = false by rw [hra.out, ha, hany.out]; simp)
            obtain ⟨z, hz⟩ : ∃ z, z = endOf s st k := ⟨_, rfl⟩
            rw [← hz] at e1 hp
            clear hz hra
            go_wp2_with fail
            go_roundw
            case rel => exact ⟨k + 1, by omega, by go_num, hok, hr1, hL1, hM1⟩
            case measure => simp [intOf]; omega
          | none =>
            rw [endOf_open ha] at e1
            have hcn := Lib.hid (isNext74 hL1.out k hs'.out.few (os_ok hs'.out))
            rw [next_eq hs'.out hP'.out] at hcn
            cases hnx : isNext s st k with
            | false =>
              rw [hnx] at hcn
              have hok := Lib.hid (show ((List.range (k + 1)).any fun i => (At st i).isNone && isNext s st i && R i) = false by rw [hra.out, hany.out, hnx]; simp)
              clear hra
              go_wp2_with (
                go_at_call 74; refine hcn.out.mono ?_; rintro e w2 ⟨rfl, hL2, hb2⟩
                have hL2' := Lib.hid hL2
                have hr2 := Lib.hid (hr1.out.below hb2)
                have hM2 := Lib.hid (hM1.out.trans (Mod.of_below hb2))
                clear hL2 hb2)
              go_roundw
              case rel => exact ⟨k + 1, by omega, by go_num, hok, hr2, hL2', hM2⟩
              case measure => simp [intOf]; omega
            | true =>
              rw [hnx] at hcn
              have hea := Lib.hid (hxs.out k hki ha)
              have hy := early_is s st k
              rw [hea.out] at hy
              have hP2 := Lib.hid (part_step hs'.out hP'.out hkS ha hnx hy)
              have hjl := hjq'.out
              have hy0 := (from0_ge s st k).1
              rw [← hjl] at hy0
              have hy1 := hy.1
              have hy2 := hy.2.1
              rw [← hjl] at hy2
              have hlt0 : lat ⟨f, t, l, p⟩ = t - l := rfl
              simp only at hy0
              obtain ⟨y, hyq⟩ : ∃ y : Nat, xs.getD k 0 = (y : Int) := ⟨(xs.getD k 0).toNat, by omega⟩
              obtain ⟨l, rfl⟩ : ∃ m : Nat, l = (m : Int) := ⟨l.toNat, by omega⟩
              have hea2 := Lib.hid (hea.out.trans (by rw [hyq] : some (xs.getD k 0) = some (y : Int)))
              rw [hyq] at hP2 hy2
              have hyl : y + l ≤ 24 := by omega
              have hst : st.length = s.n := hP'.out.len
              have hU1 := Lib.hid (show ∀ t : Nat, t < 24 → addU (fun t => used s st t) y (y + l) p t = used s (st.set k (some (y : Int))) t from fun t ht => by
                rw [used_set hst hkS ha, ← hjl]
                unfold addU act
                simp only
                by_cases h : y ≤ t ∧ t < y + l
                · rw [if_pos h, if_pos (by omega)]
                · rw [if_neg h, if_neg (by omega)]; omega)
              have hU2 := Lib.hid (show ∀ t : Nat, t < 24 → addU (fun t => used s (st.set k (some (y : Int))) t) y (y + l) (-p) t = used s st t from fun t ht => by
                have h1 := hU1.out t ht
                unfold addU at h1 ⊢
                by_cases h : y ≤ t ∧ t < y + l
                · rw [if_pos h] at h1 ⊢; dsimp only at h1 ⊢; omega
                · rw [if_neg h] at h1 ⊢; dsimp only at h1 ⊢; omega)
              have hE1 := Lib.hid (show ∀ j, j < s.n → (if j = k then (y : Int) + l else endOf s st j) = endOf s (st.set k (some (y : Int))) j from fun j hj => by
                unfold endOf
                rw [at_set (by rw [hst]; exact hkS)]
                by_cases h : j = k
                · rw [if_pos h, if_pos h, h, ← hjl]
                · rw [if_neg h, if_neg h])
              have hE2 := Lib.hid (show ∀ j, j < s.n → (if j = k then 0 else endOf s (st.set k (some (y : Int))) j) = endOf s st j from fun j hj => by
                rw [← hE1.out j hj]
                by_cases h : j = k
                · rw [if_pos h, h, endOf_open ha]
                · rw [if_neg h, if_neg h])
              have hub1 := Lib.hid (show ∀ t : Nat, t < 24 → -1000 ≤ used s st t ∧ used s st t ≤ 1000 from fun t ht => by have := used_in hs'.out hP'.out ht; omega)
              have hub2 := Lib.hid (show ∀ t : Nat, t < 24 → -1000 ≤ used s (st.set k (some (y : Int))) t ∧ used s (st.set k (some (y : Int))) t ≤ 1000 from fun t ht => by have := used_in hs'.out hP2.out ht; omega)
              have hjl2 := Lib.hid (show (s.job k).l = (l : Int) by rw [← hjl])
              have hbs := hL1.out.hbw
              have hgs1 := Lib.hid (show wr.heap.size ≠ b ∧ wr.heap.size ≠ ge ∧ w.heap.size ≠ b ∧ w.heap.size ≠ ge from by have h1 := hL.out.hbw; have h2 := hL.out.hgw; have h3 := hgs.out; omega)
              have hcell := Lib.hid (show ∀ W, Mod b ge (wr.alloc (.cells #[.int .i64 f, .int .i64 t, .int .i64 l, .int .i64 p] 56)) W → W.cell? ⟨wr.heap.size, 2, none⟩ = some (.int .i64 l) ∧ W.cell? ⟨wr.heap.size, 3, none⟩ = some (.int .i64 p) from fun W h =>
                ⟨(h.cell (p := ⟨wr.heap.size, 2, none⟩) (by simp) hgs1.out.1 hgs1.out.2.1).trans (by simp), (h.cell (p := ⟨wr.heap.size, 3, none⟩) (by simp) hgs1.out.1 hgs1.out.2.1).trans (by simp)⟩)
              have hp20 : -20 ≤ p ∧ p ≤ 20 := by omega
              clear hy hy0 hy1 hjl hst hbs hea hlt0
              go_wp2_with (
                go_at_call 74; refine hcn.out.mono ?_; rintro e w2 ⟨rfl, hL2, hb2⟩
                have hL2' := Lib.hid hL2
                have hr2 := Lib.hid (hr1.out.below hb2)
                have hM2 := Lib.hid (hM1.out.trans (Mod.of_below hb2))
                have hN2 := Lib.hid (Mod.of_below (b := b) (ge := ge) hb2)
                have q0 := hr2.out.cell hki
                rw [hyq] at q0
                obtain ⟨q2, q3⟩ := hcell.out _ hN2.out
                clear hL2 hb2)
              have hki2 : (k : Int) < (i : Int) := by omega
              refine wp_region_still_tail 8 (by kernel_rfl) (by kernel_rfl) ?_
              simp only [List.take_succ_cons, List.take_zero, List.drop_succ_cons, List.drop_zero]
              iterate 8 still_step
              refine wpStill_nil ?_
              have hput := Lib.hid (put75 hL2'.out.drew hkS (by have := hs'.out.num; omega) hjl2.out hyl hp20 hub1.out)
              go_wp2_with (
                go_at_call 75; refine hput.out.mono ?_; rintro e w3 ⟨rfl, hL3, hM3⟩
                have hN3 := Lib.hid ((hN2.out.drew).trans hM3)
                have hA3 := Lib.hid ((hM2.out.drew).trans hM3)
                have hr3 := Lib.hid ((show Row w2.drew w.heap.size w.heap.size i xs from hr2.out).mod hM3 hgs1.out.2.2.1 hgs1.out.2.2.2)
                have q0 := hr3.out.cell hki
                rw [hyq] at q0
                obtain ⟨q2, q3⟩ := hcell.out _ hN3.out
                have z3 := hL3.h3
                have ze := hL3.ends k hkS
                rw [endOf_open ha] at ze
                have zf := hL3.fg k
                have hL4 := Lib.hid (((hL3.setE hkS ((y : Int) + l)).same hU1.out hE1.out).drew)
                have hr4 := Lib.hid ((hr3.out.mod ((Mod.refl b ge w3).set ge k (.int .i64 ((y : Int) + l)) (.inr rfl)) hgs1.out.2.2.1 hgs1.out.2.2.2))
                have hN4 := Lib.hid ((hN3.out.set ge k (.int .i64 ((y : Int) + l)) (.inr rfl)).drew)
                have hA4 := Lib.hid ((hA3.out.set ge k (.int .i64 ((y : Int) + l)) (.inr rfl)).drew)
                clear hL3 hM3)
              refine wp_region_still_tail 13 (by kernel_rfl) (by kernel_rfl) ?_
              simp only [List.take_succ_cons, List.take_zero, List.drop_succ_cons, List.drop_zero]
              iterate 13 still_step
              refine wpStill_nil ?_
              have hcall := Lib.hid (hrec'.out k y _ hki ha hnx hea2.out hL4.out)
              cases hR : R k with
              | true =>
                rw [hR] at hcall
                obtain rfl : v = true := by
                  rw [hv2.out, Bool.or_eq_true]; right
                  rw [List.any_eq_true]
                  exact ⟨k, List.mem_range.2 hki, by rw [ha, hnx, hR]; rfl⟩
                go_wp2_with (
                  go_at_call 58; refine hcall.out.mono ?_; rintro e w5 ⟨rfl, hM5, hL5⟩
                  have hA5 := Lib.hid (hA4.out.trans hM5)
                  clear hM5 hL5)
                go_ret
                exact ⟨rfl, hA5.out, fun h => by cases h⟩
              | false =>
                rw [hR] at hcall
                go_wp2_with (
                  go_at_call 58; refine hcall.out.mono ?_; rintro e w5 ⟨rfl, hM5, hL5⟩
                  have hA5 := Lib.hid (hA4.out.trans hM5)
                  have hN5 := Lib.hid (hN4.out.trans hM5)
                  have hL5' := Lib.hid (hL5 rfl)
                  have hr5 := Lib.hid ((show Row (w3.setCell ⟨ge, k, none⟩ (.int .i64 ((y : Int) + l))).drew w.heap.size w.heap.size i xs from hr4.out).mod hM5 hgs1.out.2.2.1 hgs1.out.2.2.2)
                  have q0 := hr5.out.cell hki
                  rw [hyq] at q0
                  obtain ⟨q2, q3⟩ := hcell.out _ hN5.out
                  clear hM5 hL5)
                refine wp_region_still_tail 9 (by kernel_rfl) (by kernel_rfl) ?_
                simp only [List.take_succ_cons, List.take_zero, List.drop_succ_cons, List.drop_zero]
                iterate 9 still_step
                refine wpStill_nil ?_
                have hput2 := Lib.hid (put75 (p := -p) hL5'.out.drew hkS (by have := hs'.out.num; omega) hjl2.out hyl (by omega) hub2.out)
                have hok := Lib.hid (show ((List.range (k + 1)).any fun i => (At st i).isNone && isNext s st i && R i) = false by rw [hra.out, hany.out, hR]; simp)
                go_wp2_with (
                  go_at_call 75; refine hput2.out.mono ?_; rintro e w6 ⟨rfl, hL6, hM6⟩
                  have hA6 := Lib.hid ((hA5.out.drew).trans hM6)
                  have hr6 := Lib.hid ((show Row w5.drew w.heap.size w.heap.size i xs from hr5.out).mod hM6 hgs1.out.2.2.1 hgs1.out.2.2.2)
                  have z3 := hL6.h3
                  have ze := hL6.ends k hkS
                  have zf := hL6.fg k
                  have hL7 := Lib.hid ((hL6.setE hkS 0).same hU2.out hE2.out)
                  have hr7 := Lib.hid (hr6.out.mod ((Mod.refl b ge w6).set ge k (.int .i64 0) (.inr rfl)) hgs1.out.2.2.1 hgs1.out.2.2.2)
                  have hA7 := Lib.hid (hA6.out.set ge k (.int .i64 0) (.inr rfl))
                  clear hL6 hM6)
                go_roundw
                case rel => exact ⟨k + 1, by omega, by go_num, hok, hr7, hL7, hA7⟩
                case measure => simp [intOf]; omega
        · obtain rfl : k = i := by omega
          obtain rfl : v = aB := by rw [hv2.out, hany.out, Bool.or_false]
          go_wp2_with fail
          go_ret
          exact ⟨rfl, hM.out, fun _ => hL.out⟩
theorem openN_pos {s : Sh} {st : List (Option Int)} {i : Nat} (hi : i < s.n) (h : At st i = none) : 0 < openN s st := by
  unfold openN
  exact List.length_pos_of_mem (List.mem_filter.2 ⟨List.mem_range.2 hi, by rw [h]; rfl⟩)
theorem complete58 {w0 : World} {b ge c : Nat} {jv ov : Value} {s : Sh} (hs : Loose s) : ∀ (k : Nat) (st : List (Option Int)) (w : World), Part s st → openN s st ≤ k → Lay w0 w b ge c jv ov s (fun t => used s st t) (endOf s st) →
    Calls Try.prog 58 #[.pointer (some ⟨b, 0, none⟩)] w (CompEnd w0 w b ge c jv ov s st (comp s k st))
  | 0, st, w, hP, ho, hL => by
    have hall : ∀ i, i < s.n → (At st i).isSome = true := fun i hi => by
      cases h : At st i with
      | none => have := openN_pos hi h; omega
      | some x => rfl
    have h := complete_step hs hP hL (fun _ => false) (fun i x W hi hn => by have := hall i hi; rw [hn] at this; cases this)
    have e : (List.range s.n).all (fun i => (At st i).isSome) = true := List.all_eq_true.2 fun i hi => hall i (List.mem_range.1 hi)
    have e2 : (List.range s.n).all (fun i => (At st i).isSome || (Shf.early s st i).isSome) = true := List.all_eq_true.2 fun i hi => by rw [hall i (List.mem_range.1 hi)]; rfl
    rw [e, e2] at h
    unfold comp
    rw [e]
    exact h
  | k + 1, st, w, hP, ho, hL => by
    have h := complete_step hs hP hL (fun i => comp s k (st.set i (Shf.early s st i))) (fun i x W hi hn hx he hL' => by
      have hp := early_is s st i
      rw [he] at hp ⊢
      exact complete58 hs k _ W (part_step hs hP hi hn hx hp) (by have := open_set hP.len hi hn (x := x); omega) hL')
    unfold comp
    exact h
end Go.Proofs.Ytjkbhdlbomcbeaa

namespace Go.Proofs.Ytjkbhdlbomcbeaa
open Go.RowKit Shf

theorem part_none {s : Sh} (hs : Loose s) : Part s (List.replicate s.n none) where
  len := List.length_replicate
  range := fun i x _ h => by rw [at_none] at h; cases h
  load := fun t _ _ => by rw [used_none]; have := hs.power; omega
  order := fun o _ y h => by rw [at_none] at h; cases h
theorem openN_le (s : Sh) (st : List (Option Int)) : openN s st ≤ s.n := by
  unfold openN
  refine Nat.le_trans (List.length_filter_le _ _) ?_
  rw [List.length_range]; exact Nat.le_refl _
theorem make26 (W : World) (n : Nat) (hC : n ≤ 1000000) : Sem.run Try.prog (Instr.makeSlice 26 (.int .i64 (n : Int)) (.int .i64 (n : Int))) W = .ok (.slice (some ⟨W.heap.size, 0, none⟩) n n) (W.alloc (.cells (madeCells #[Value.int .i64 0] n) 3)) := by
  obtain ⟨i0, hi, hz0, hz1, hz2⟩ := info_parts info3
  have hr := run_make (P := Try.prog) W 26 3 i0 (.int .i64 0) Try.underlying26 hi hz0 .i64 .i64 (n : Int) (n : Int) (by omega) (by omega) (by rw [hz2]; omega) (by omega)
  simp only [Int.toNat_natCast, hz1, Nat.mul_one] at hr
  exact hr
end Go.Proofs.Ytjkbhdlbomcbeaa
