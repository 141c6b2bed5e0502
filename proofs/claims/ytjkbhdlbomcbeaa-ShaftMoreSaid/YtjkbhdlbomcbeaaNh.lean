import Derived.Test.YtjkbhdlbomcbeaaNg
import Derived.Test.YtjkbhdlbomcbeaaYf
namespace Go.Proofs.Ytjkbhdlbomcbeaa
open Go.RowKit Go.Shelf Shf

theorem readsO_at {W : World} {a : Option Addr} {n c : Nat} {os : List (Int × Int)} (h : ReadsO W (.slice a n c) os) (hn : 0 < n) : ∃ g, a = some ⟨g, 0, none⟩ := by
  obtain ⟨ao, c', e, _, h⟩ := h
  cases e
  obtain ⟨g, rfl, _⟩ := h (fun e => by rw [e] at hn; simp at hn)
  exact ⟨g, rfl⟩
theorem readsO_cap {W : World} {a : Option Addr} {n c : Nat} {os : List (Int × Int)} (h : ReadsO W (.slice a n c) os) : n ≤ c := by
  obtain ⟨ao, c', e, h, _⟩ := h
  cases e
  exact h
theorem flatO_drop {W : World} {g n c : Nat} {os : List (Int × Int)} (h : ReadsO W (.slice (some ⟨g, 0, none⟩) n c) os) (hn : 0 < n) : FlatR W 2 (.slice (some ⟨g, if c = 1 then 0 else 2, none⟩) (n - 1) (c - 1)) (n - 1) (flat encO (os.drop 1)) := by
  obtain ⟨ao, c', e, hc, h⟩ := h
  cases e
  refine ⟨by rw [flat_len encO_len, List.length_drop], _, _, rfl, by omega, fun e => (by cases e), fun hn1 => ?_⟩
  obtain ⟨g', e, hg, hcl⟩ := h (fun e => by rw [e] at hn; simp at hn)
  cases e
  refine ⟨g, _, rfl, hg, fun j u hj => ?_⟩
  rw [if_neg (by omega)]
  refine hcl _ _ ?_
  match os, hn with
  | o :: os', _ =>
    rw [show flat encO (o :: os') = encO o ++ flat encO os' from rfl, List.getElem?_append_right (by rw [encO_len]; omega), encO_len, show 2 + j - 2 = j from by omega]
    exact hj
theorem run_max2 {P : Program} {w : World} (ts : Array TypeId) (t : TypeId) (a b m : Int) (hm : m = max a b) : (Builtin.max_ ts t #[.int .i64 a, .int .i64 b]).run P w = .ok (.int .i64 m) w := by
  have e : (if a < b then b else a) = m := by rw [hm]; split <;> omega
  have h : (Builtin.max_ ts t #[.int .i64 a, .int .i64 b]).run P w = .ok (.int .i64 (if a < b then b else a)) w := by
    simp [Builtin.max_, Builtin.max2]
  rw [h, e]
theorem any_sched0 (s : Sh) : ∃ d : Bool, d = true ↔ ∃ S, Sched s S := by classical exact ⟨decide (∃ S, Sched s S), by simp⟩
theorem Three.set0 {W : World} {g : Nat} {a b c x : Value} (h : Three W g a b c) : Three (W.setCell ⟨g, 0, none⟩ x) g x b c := by
  refine ⟨⟨World.cell?_setCell_same' _ _ _ (by rw [h.1.1]; rfl), ?_, ?_⟩, fun j => by rw [World.frozen?_setCell]; exact h.2 j⟩
  · rw [World.cell?_setCell_other _ _ _ _ (by simp)]; exact h.1.2.1
  · rw [World.cell?_setCell_other _ _ _ _ (by simp)]; exact h.1.2.2
theorem Three.set1 {W : World} {g : Nat} {a b c x : Value} (h : Three W g a b c) : Three (W.setCell ⟨g, 1, none⟩ x) g a x c := by
  refine ⟨⟨?_, World.cell?_setCell_same' _ _ _ (by rw [h.1.2.1]; rfl), ?_⟩, fun j => by rw [World.frozen?_setCell]; exact h.2 j⟩
  · rw [World.cell?_setCell_other _ _ _ _ (by simp)]; exact h.1.1
  · rw [World.cell?_setCell_other _ _ _ _ (by simp)]; exact h.1.2.2
theorem Three.set2 {W : World} {g : Nat} {a b c x : Value} (h : Three W g a b c) : Three (W.setCell ⟨g, 2, none⟩ x) g a b x := by
  refine ⟨⟨?_, ?_, World.cell?_setCell_same' _ _ _ (by rw [h.1.2.2]; rfl)⟩, fun j => by rw [World.frozen?_setCell]; exact h.2 j⟩
  · rw [World.cell?_setCell_other _ _ _ _ (by simp)]; exact h.1.1
  · rw [World.cell?_setCell_other _ _ _ _ (by simp)]; exact h.1.2.1
theorem readsJ_at {W : World} {a : Option Addr} {n c : Nat} {js : List J} (h : ReadsJ W (.slice a n c) js) (hn : js ≠ []) : ∃ g, a = some ⟨g, 0, none⟩ := by
  obtain ⟨ao, c', e, _, h⟩ := h
  obtain ⟨g, rfl, _⟩ := h hn
  cases e
  exact ⟨g, rfl⟩
theorem run_min2 {P : Program} {w : World} (ts : Array TypeId) (t : TypeId) (a b m : Int) (hm : m = min a b) : (Builtin.min_ ts t #[.int .i64 a, .int .i64 b]).run P w = .ok (.int .i64 m) w := by
  have e : (if b < a then b else a) = m := by rw [hm]; split <;> omega
  have h : (Builtin.min_ ts t #[.int .i64 a, .int .i64 b]).run P w = .ok (.int .i64 (if b < a then b else a)) w := by
    simp [Builtin.min_, Builtin.min2]
  rw [h, e]
set_option maxHeartbeats 8000000 in
set_option maxRecDepth 100000 in
theorem walk12 {w : World} {v : Value} {p : Nat} {xs : List (Nat × Nat × Nat × Nat)} {bs : List (Nat × Nat)} (h : InWork w v p xs bs) {a b c : Nat} (ha0 : a ≤ 255) (hb00 : b ≤ 255) (hc0 : c ≤ 255) :
    Calls Try.prog 12 #[v, .agg #[.int .u8 (a : Int), .int .u8 (b : Int), .int .u8 (c : Int)]] w fun e w' => e = .returned (.bool true) ∧ Below w.heap.size w w' := by
  have hm0 := fun (W : World) (hb : Below w.heap.size w W) => made35 (h.below hb)
  obtain ⟨av, bv, rfl, -, ha, hb, -⟩ := h
  obtain ⟨aa, an, ac, rfl⟩ : ∃ a n c, av = .slice a n c := by obtain ⟨_, a, c, e, _⟩ := ha; exact ⟨_, _, _, e⟩
  obtain ⟨ba, bn, bc, rfl⟩ : ∃ a n c, bv = .slice a n c := by obtain ⟨_, a, c, e, _⟩ := hb; exact ⟨_, _, _, e⟩
  clear ha hb
  have hb0 := Lib.hid ((below_alloc1 w (.cells #[.int .u8 (p : Int), .slice aa an ac, .slice ba bn bc] 64)).alloc (by simp) (.cells #[.int .u8 (a : Int), .int .u8 (b : Int), .int .u8 (c : Int)] 70))
  have hA0 := Lib.hid (show Three ((w.alloc (.cells #[.int .u8 (p : Int), .slice aa an ac, .slice ba bn bc] 64)).alloc (.cells #[.int .u8 (a : Int), .int .u8 (b : Int), .int .u8 (c : Int)] 70)) (w.heap.size + 1) (.int .u8 (a : Int)) (.int .u8 (b : Int)) (.int .u8 (c : Int)) from by
    have := Three.new (w.alloc (.cells #[.int .u8 (p : Int), .slice aa an ac, .slice ba bn bc] 64)) (.int .u8 (a : Int)) (.int .u8 (b : Int)) (.int .u8 (c : Int)) 70
    rw [World.size_alloc] at this
    exact this)
  have hm := Lib.hid (hm0 _ hb0.out)
  clear hm0
  go_enter Try.func12, Try.ntmps12
  go_upto_region 2 with (go_at_call 35; refine (hm.out).mono ?_; rintro e w1 ⟨P, jv, ov, js, os, rfl, oj, oo, hv, hb1⟩; obtain ⟨ja, jl, jc, rfl, hjl⟩ := own_len oj; obtain ⟨oa, ol, oc, rfl, hol⟩ := own_len oo; have hjl' := Lib.hid hjl; have hol' := Lib.hid hol; have hv' := Lib.hid hv; clear hjl hol hv)
  obtain ⟨W4, hW4⟩ : ∃ W4, W4 = w1.alloc (Obj.cells #[Value.int IntKind.i64 P, Value.slice ja jl jc, Value.slice oa ol oc] 25) := ⟨_, rfl⟩
  have hT := Lib.hid (show Three W4 w1.heap.size (.int .i64 P) (.slice ja jl jc) (.slice oa ol oc) by rw [hW4]; exact Three.new w1 _ _ _ 25)
  have hz := Lib.hid (show w1.heap.size < W4.heap.size by rw [hW4]; simp)
  have hb1W := (show Below w1.heap.size w1 W4 by rw [hW4]; exact below_alloc1 w1 _)
  have hA := Lib.hid (show Three W4 (w.heap.size + 1) (.int .u8 (a : Int)) (.int .u8 (b : Int)) (.int .u8 (c : Int)) from (hA0.out.keep hb1 (by simp)).keep hb1W (by have := hb1.size; simp at this; omega))
  have hAz := Lib.hid (show w.heap.size + 1 < w1.heap.size by have := hb1.size; simp at this; omega)
  have hbW := Lib.hid (below_call (below_call hb0.out hb1) hb1W)
  have hsh := Lib.hid (fun (W : World) (hb : Below W4.heap.size W4 W) => (show ShV W (.agg #[.int .i64 P, .slice ja jl jc, .slice oa ol oc]) P js os from ⟨_, _, rfl, oj.reads.below (below_call hb1W hb), oo.reads.below (below_call hb1W hb)⟩))
  rw [← hW4]
  obtain ⟨⟨y0, y1, y2⟩, -⟩ := hT.out
  clear hW4 hb1 hb1W oj oo
  have hV := Lib.hid (valid_sh hv'.out)
  have h7 := Lib.hid (show js.length ≤ 7 from by have := hV.out.1.loose.num.2; exact Nat.le_succ_of_le this)
  have h21 := Lib.hid (show os.length ≤ 21 from by have := hV.out.1.loose.few; rw [show (shOf P js os).os.length = os.length from List.length_map ..] at this; exact Nat.le_succ_of_le this)
  have hne := Lib.hid (show js ≠ [] from fun e => by have := hV.out.1.loose.num.1; rw [show (shOf P js os).n = js.length from rfl, e] at this; simp at this)
  obtain ⟨gj, rfl⟩ : ∃ g, ja = some ⟨g, 0, none⟩ := by
    obtain ⟨jv', ov', e, h1, -⟩ := hsh.out W4 (Below.refl _ _)
    cases e
    exact readsJ_at h1 hne.out
  have hrj := Lib.hid (fun (W : World) (hb : Below W4.heap.size W4 W) => (show ReadsJ W (.slice (some ⟨gj, 0, none⟩) jl jc) js ∧ ReadsO W (.slice oa ol oc) os from by
    obtain ⟨jv', ov', e, h1, h2⟩ := hsh.out W hb
    cases e
    exact ⟨h1, h2⟩))
  have hP20 : 1 ≤ P ∧ P ≤ 20 := hV.out.1.loose.power
  obtain ⟨r1, hr1⟩ : ∃ r : Nat, (a : Int) % 3 = (r : Int) := ⟨a % 3, rfl⟩
  obtain ⟨P', hP'⟩ : ∃ x, x = min 20 (P + (r1 : Int)) := ⟨_, rfl⟩
  have hmin1 := fun (W : World) => run_min2 (P := Try.prog) (w := W) #[3, 3] 3 20 (P + (r1 : Int)) P' hP'
  have hP'20 := Lib.hid (show P ≤ P' ∧ P' ≤ 20 by omega)
  have hr1' := Lib.hid hr1
  have s1 : IntKind.i64.wrap (P + (r1 : Int)) = P + (r1 : Int) := IntWalk.i64_in _ (by omega)
  have h6 : 1 ≤ jl ∧ jl ≤ 6 := by have := hV.out.1.loose.num; rw [show (shOf P js os).n = js.length from rfl, ← hjl'.out] at this; exact this
  obtain ⟨j, hj⟩ : ∃ j : Nat, (b : Int) % (jl : Int) = (j : Int) := ⟨b % jl, rfl⟩
  have hjl0 : ((jl : Int) == 0) = false := by simp; omega
  have hjj : j < jl := by have := Int.emod_lt_of_pos (b : Int) (show (0 : Int) < jl by omega); omega
  have hj' := Lib.hid hj
  obtain ⟨iJ, hiJ, hJ0, hJ1, hJ2⟩ := info_parts info56
  obtain ⟨⟨f, t, l, q⟩, hjq⟩ : ∃ x, x = js.getD j J0 := ⟨_, rfl⟩
  have hjq' := Lib.hid hjq.symm
  obtain ⟨r2, hr2⟩ : ∃ r : Nat, (c : Int) % 2 = (r : Int) := ⟨c % 2, rfl⟩
  obtain ⟨f', hf'⟩ : ∃ x, x = max 0 (f - (r2 : Int)) := ⟨_, rfl⟩
  have hmax1 := fun (W : World) => run_max2 (P := Try.prog) (w := W) #[3, 3] 3 0 (f - (r2 : Int)) f' hf'
  obtain ⟨r3, hr3⟩ : ∃ r : Nat, (c : Int) / 2 % 3 = (r : Int) := ⟨c / 2 % 3, by omega⟩
  obtain ⟨t', ht'⟩ : ∃ x, x = min 24 (t + (r3 : Int)) := ⟨_, rfl⟩
  have hmin2 := fun (W : World) => run_min2 (P := Try.prog) (w := W) #[3, 3] 3 24 (t + (r3 : Int)) t' ht'
  have hjx := Lib.hid (hV.out.1.loose.jobs j (by rw [show (shOf P js os).n = js.length from rfl, ← hjl'.out]; exact hjj))
  rw [show (shOf P js os).job j = ⟨f, t, l, q⟩ from hjq'.out] at hjx
  have hjy := hjx.out
  simp only at hjy
  have s2 : IntKind.i64.wrap (f - (r2 : Int)) = f - (r2 : Int) := IntWalk.i64_in _ (by omega)
  have s3 : IntKind.i64.wrap (t + (r3 : Int)) = t + (r3 : Int) := IntWalk.i64_in _ (by omega)
  have hft := Lib.hid (show (0 ≤ f' ∧ f' ≤ f) ∧ (t ≤ t' ∧ t' ≤ 24) by omega)
  have hcw : IntKind.i64.wrap (c : Int) = (c : Int) := IntWalk.i64_in _ (by omega)
  have s4 : IntKind.i64.wrap (f - (IntKind.i64.wrap (c : Int)).tmod 2) = f - (r2 : Int) := by rw [hcw, Int.tmod_eq_emod_of_nonneg (by omega), hr2]; exact s2
  have s5 : IntKind.i64.wrap (t + (IntKind.i64.wrap ((IntKind.i64.wrap (c : Int)).tdiv 2)).tmod 3) = t + (r3 : Int) := by rw [hcw, Int.tdiv_eq_ediv_of_nonneg (by omega), IntWalk.i64_in ((c : Int) / 2) (by omega), Int.tmod_eq_emod_of_nonneg (by omega), hr3]; exact s3
  clear hcw
  clear hP' hjq hf' ht' hjy
  by_cases hs : ∃ S, Sched (shOf P js os) S
  · have hF := Lib.hid (firstOk (hsh.out W4 (Below.refl _ _)) hv'.out h7.out h21.out hs hjl'.out)
    have hS := Lib.hid (fun (W : World) (hb : Below W4.heap.size W4 W) => shortOk (hsh.out W hb) hv'.out h7.out h21.out hs hjl'.out)
    have hs' := Lib.hid hs
    clear hs
    go_upto_region 5 with (
      first
      | (go_at_call 21; refine (hF.out).mono ?_; rintro e w5 ⟨fa, fc, ls, rfl, hll, hrl, hFl, hb5⟩
         have hb5' := Lib.hid hb5
         have hll' := Lib.hid hll
         have hrl' := Lib.hid hrl
         have hFl' := Lib.hid hFl
         obtain ⟨⟨y0, y1, y2⟩, -⟩ := hT.out.keep hb5'.out hz.out
         have hS5 := Lib.hid (hS.out _ hb5'.out)
         clear hb5 hll hrl hFl)
      | (go_at_call 22; refine (hS5.out).mono ?_; rintro e w6 ⟨ga, gc, ms, m, rfl, hlm, hrm, hme, hFm, hb6⟩
         have hb6' := Lib.hid (below_call hb5'.out hb6)
         have hrl6 := Lib.hid (hrl'.out.below hb6)
         have hme' := Lib.hid hme
         obtain ⟨⟨y0, y1, y2⟩, -⟩ := hT.out.keep hb6'.out hz.out
         clear hb6 hlm hrm hme hFm))
    obtain ⟨W7, hW7⟩ : ∃ W7, W7 = w6.alloc (Obj.cells #[Value.int IntKind.i64 P, Value.slice (some ⟨gj, 0, none⟩) jl jc, Value.slice oa ol oc] 25) := ⟨_, rfl⟩
    have hT11 := Lib.hid (show Three W7 w6.heap.size (.int .i64 P) (.slice (some ⟨gj, 0, none⟩) jl jc) (.slice oa ol oc) by rw [hW7]; exact Three.new w6 _ _ _ 25)
    have hz7 := Lib.hid (show w6.heap.size < W7.heap.size by rw [hW7]; simp)
    have hb7 := Lib.hid (show Below w6.heap.size w6 W7 by rw [hW7]; exact below_alloc1 w6 _)
    have hb47 := Lib.hid (below_call hb6'.out hb7.out)
    obtain ⟨G, hG⟩ : ∃ G, G = w6.heap.size := ⟨_, rfl⟩
    rw [← hW7, ← hG]
    rw [← hG] at hT11 hz7
    have hG4 : W4.heap.size ≤ G := by rw [hG]; exact hb6'.out.size
    have hG6 := Lib.hid (show w6.heap.size ≤ G by rw [hG]; exact Nat.le_refl _)
    have hG4' := Lib.hid hG4
    clear hW7
    clear hG hG4
    have hb1 := Lib.hid (below_alloc1 W7 (.cells #[] 56))
    have hlit := Lib.hid (lit_own W7 W7.heap.size W7.heap.size 4 56 (Nat.le_refl _) rfl)
    have hf := Lib.hid (((hrj.out W7 hb47.out).1.flat hne.out).below hb1.out)
    rw [← hjl'.out] at hf
    obtain ⟨⟨y0, y1, y2⟩, -⟩ := hT.out.keep hb47.out hz.out
    obtain ⟨⟨q0, q1, q2⟩, -⟩ := hT.out.keep (below_call hb47.out hb1.out) hz.out
    go_upto_region 6 with (
      at_builtin; refine app_flat Try.underlying22 hiJ hJ0 hJ1 hJ2 rfl (by decide) (by decide) hlit.out hf.out (one_flatJ js) (by omega) (by simp) rfl _ _ rfl rfl rfl ?_; intro v' w8 hown hbw
      rw [List.nil_append, Nat.zero_add] at hown
      rw [hjl'.out] at hown
      have hp := OwnJ.parts (show OwnJ w8 W7.heap.size v' js from hown) hne.out
      rw [← hjl'.out] at hown hp
      obtain ⟨g, c8, rfl, hc8, hg8, -⟩ := hp
      have hown' := Lib.hid (show w8.ownsRow W7.heap.size 56 4 (.slice (some ⟨g, 0, none⟩) jl c8) jl (flat encJ js) from hown)
      have hb8 := Lib.hid (hb1.out.trans hbw)
      have hT8 := Lib.hid (hT11.out.keep hb8.out hz7.out)
      obtain ⟨⟨x0, x1, x2⟩, xf⟩ := hT8.out
      have xf1 := xf 1
      clear hown hbw xf)
    obtain ⟨W9, hW9⟩ : ∃ W9, W9 = w8.setCell ⟨G, 1, none⟩ (.slice (some ⟨g, 0, none⟩) jl c8) := ⟨_, rfl⟩
    have hgG := Lib.hid (show W7.heap.size ≤ g from hg8)
    have hT9 := Lib.hid (show Three W9 G (.int .i64 P) (.slice (some ⟨g, 0, none⟩) jl c8) (.slice oa ol oc) by rw [hW9]; exact hT8.out.set1)
    have hJ9 := Lib.hid (show OwnJ W9 W7.heap.size (.slice (some ⟨g, 0, none⟩) jl c8) js by rw [hW9]; exact ownsRow_setCell_below (by have := hown'.out; rw [hjl'.out] at this; rw [hjl'.out]; exact this) (by show G < _; exact hz7.out) _)
    have hb96 := Lib.hid (show Below w6.heap.size w6 W9 by rw [hW9]; exact below_set (below_call hb7.out hb8.out) hG6.out)
    have hb9 := Lib.hid (show Below W4.heap.size W4 W9 by rw [hW9]; exact below_set (below_call hb47.out hb8.out) hG4'.out)
    rw [← hW9]
    clear hW9 q0 q1 q2 y0 y1 y2 x0 x1 x2 xf1 hg8
    obtain ⟨⟨x0, x1, x2⟩, xf⟩ := hT9.out
    have xf0 := xf 0
    obtain ⟨⟨y0, y1, y2⟩, -⟩ := hT.out.keep hb9.out hz.out
    obtain ⟨⟨a0, a1, a2⟩, -⟩ := hA.out.keep hb9.out (Nat.lt_trans hAz.out hz.out)
    clear xf
    go_upto_region 7 with fail
    obtain ⟨Wa, hWa⟩ : ∃ Wa, Wa = W9.setCell ⟨G, 0, none⟩ (.int .i64 P') := ⟨_, rfl⟩
    have hTa := Lib.hid (show Three Wa G (.int .i64 P') (.slice (some ⟨g, 0, none⟩) jl c8) (.slice oa ol oc) by rw [hWa]; exact hT9.out.set0)
    have hJa := Lib.hid (show OwnJ Wa W7.heap.size (.slice (some ⟨g, 0, none⟩) jl c8) js by rw [hWa]; exact ownsRow_setCell_below hJ9.out (by show G < _; exact hz7.out) _)
    have hba6 := Lib.hid (show Below w6.heap.size w6 Wa by rw [hWa]; exact below_set hb96.out hG6.out)
    have hba := Lib.hid (show Below W4.heap.size W4 Wa by rw [hWa]; exact below_set hb9.out hG4'.out)
    rw [← hWa]
    clear hWa y0 y1 y2 a0 a1 a2 x0 x1 x2 xf0
    obtain ⟨⟨x0, x1, x2⟩, -⟩ := hTa.out
    obtain ⟨⟨a0, a1, a2⟩, -⟩ := hA.out.keep hba.out (Nat.lt_trans hAz.out hz.out)
    go_upto_region 8 with fail
    rw [hj]
    obtain ⟨g', c', e', -, -, hgw, hfz, hat, hsf, -⟩ := hJa.out.parts hne.out
    obtain ⟨rfl, rfl⟩ : g = g' ∧ c8 = c' := by injection e' with a _ b; injection a with a; injection a with a; exact ⟨a, b⟩
    have hJa2 := Lib.hid (hsf j f' (by rw [← hjl'.out]; exact hjj))
    obtain ⟨d0, d1, -, -⟩ := hat j (by rw [← hjl'.out]; exact hjj)
    rw [hjq'.out] at d0 d1 hJa2
    simp only at d0 d1 hJa2
    have fz := hfz (j * 4)
    have hjj' : (j : Int) < (jl : Int) := by omega
    clear e' hat hsf hfz
    refine wp_region_still_tail 17 (by kernel_rfl) (by kernel_rfl) ?_
    simp only [List.take_succ_cons, List.take_zero, List.drop_succ_cons, List.drop_zero]
    iterate 17 still_step
    refine wpStill_nil ?_
    go_upto_region 9 with fail
    obtain ⟨Wb, hWb⟩ : ∃ Wb, Wb = (Wa.setCell ⟨g, j * 4, none⟩ (.int .i64 f')).drew := ⟨_, rfl⟩
    have hgG2 : ¬ (g = G) := by have := hgG.out; have := hz7.out; omega
    have hgW4 := Lib.hid (show W4.heap.size ≤ g by have := hgG.out; have := hz7.out; have := hG4'.out; omega)
    have hTb := Lib.hid (show Three Wb G (.int .i64 P') (.slice (some ⟨g, 0, none⟩) jl c8) (.slice oa ol oc) by rw [hWb]; exact hTa.out.other (by omega))
    have hJb := Lib.hid (show OwnJ Wb W7.heap.size (.slice (some ⟨g, 0, none⟩) jl c8) (js.set j ⟨f', t, l, q⟩) by rw [hWb]; exact hJa2.out)
    have hgW6 := Lib.hid (show w6.heap.size ≤ g by have := hgG.out; have := hz7.out; have := hG6.out; omega)
    have hbb6 := Lib.hid (show Below w6.heap.size w6 Wb by rw [hWb]; exact (below_set hba6.out hgW6.out).drew)
    have hbb := Lib.hid (show Below W4.heap.size W4 Wb by rw [hWb]; exact (below_set hba.out hgW4.out).drew)
    rw [← hWb]
    clear hWb x0 x1 x2 a0 a1 a2 d0 d1 fz hgw
    obtain ⟨⟨x0, x1, x2⟩, -⟩ := hTb.out
    obtain ⟨⟨a0, a1, a2⟩, -⟩ := hA.out.keep hbb.out (Nat.lt_trans hAz.out hz.out)
    have hjs1 := Lib.hid (show j < (js.set j ⟨f', t, l, q⟩).length by rw [List.length_set, ← hjl'.out]; exact hjj)
    obtain ⟨g', c', e', -, -, hgw, hfz, hat, -, hst⟩ := hJb.out.parts (fun e => by have := hjs1.out; rw [e] at this; simp at this)
    obtain ⟨rfl, rfl⟩ : g = g' ∧ c8 = c' := by injection e' with a _ b; injection a with a; injection a with a; exact ⟨a, b⟩
    have hJb2 := Lib.hid (hst j t' hjs1.out)
    obtain ⟨d0, d1, -, -⟩ := hat j hjs1.out
    rw [set_getD (by rw [← hjl'.out]; exact hjj), if_pos rfl] at d0 d1 hJb2
    rw [List.set_set] at hJb2
    simp only at d0 d1 hJb2
    have fz := hfz (j * 4 + 1)
    clear e' hat hst hfz
    refine wp_region_still_tail 18 (by kernel_rfl) (by kernel_rfl) ?_
    simp only [List.take_succ_cons, List.take_zero, List.drop_succ_cons, List.drop_zero]
    iterate 18 still_step
    refine wpStill_nil ?_
    go_upto_region 10 with fail
    obtain ⟨Wc, hWc⟩ : ∃ Wc, Wc = (Wb.setCell ⟨g, j * 4 + 1, none⟩ (.int .i64 t')).drew := ⟨_, rfl⟩
    have hTc := Lib.hid (show Three Wc G (.int .i64 P') (.slice (some ⟨g, 0, none⟩) jl c8) (.slice oa ol oc) by rw [hWc]; exact hTb.out.other (by omega))
    have hJc := Lib.hid (show OwnJ Wc W7.heap.size (.slice (some ⟨g, 0, none⟩) jl c8) (js.set j ⟨f', t', l, q⟩) by rw [hWc]; exact hJb2.out)
    have hbc6 := Lib.hid (show Below w6.heap.size w6 Wc by rw [hWc]; exact (below_set hbb6.out hgW6.out).drew)
    have hbc := Lib.hid (show Below W4.heap.size W4 Wc by rw [hWc]; exact (below_set hbb.out hgW4.out).drew)
    rw [← hWc]
    have hzc := Lib.hid (show G < Wc.heap.size by rw [hWc]; show G < (Wb.setCell _ _).heap.size; rw [World.size_setCell]; have := hgG.out; have := hz7.out; omega)
    clear hWc x0 x1 x2 a0 a1 a2 d0 d1 fz hgw
    obtain ⟨⟨x0, x1, x2⟩, xf⟩ := hTc.out
    have xf2 := xf 2
    clear xf
    obtain ⟨⟨a0, a1, a2⟩, -⟩ := hA.out.keep hbc.out (Nat.lt_trans hAz.out hz.out)
    obtain ⟨⟨y0, y1, y2⟩, -⟩ := hT.out.keep hbc.out hz.out
    by_cases hcut : 0 < ol ∧ 128 ≤ c
    · obtain ⟨hcut1, hcut2⟩ := hcut
      have hcut3 : (0 : Int) < (ol : Int) := by omega
      have hcut4 : (128 : Int) ≤ (c : Int) := by omega
      obtain ⟨go, rfl⟩ : ∃ g, oa = some ⟨g, 0, none⟩ := readsO_at (hrj.out W4 (Below.refl _ _)).2 hcut1
      have hb1c := Lib.hid (below_alloc1 Wc (.cells #[] 78))
      have hlitO := Lib.hid (lit_own Wc Wc.heap.size Wc.heap.size 2 78 (Nat.le_refl _) rfl)
      have hoc := readsO_cap (hrj.out W4 (Below.refl _ _)).2
      obtain ⟨⟨q0, q1, q2⟩, -⟩ := hT.out.keep (below_call hbc.out hb1c.out) hz.out
      have hfO := Lib.hid (show FlatR (Wc.alloc (.cells #[] 78)) 2 (.slice (some ⟨go, if oc = 1 then 0 else 2, none⟩) (ol - 1) (oc - 1)) (ol - 1) (flat encO (os.drop 1)) from
        (flatO_drop ((hrj.out _ (below_call hbc.out hb1c.out)).2) hcut1))
      obtain ⟨iO, hiO, hO0, hO1, hO2⟩ := info_parts info78
      have hol20 := Lib.hid (show ol ≤ 21 by rw [hol'.out]; exact h21.out)
      go_upto_region 12 with (
        at_builtin; refine app_flat Try.underlying23 hiO hO0 hO1 hO2 rfl (by decide) (by decide) hlitO.out hfO.out (one_flatO _) (by have := hol20.out; omega) (by simp) rfl _ _ rfl rfl (by simp [Act.eval]; split <;> rfl) ?_; intro v' wd hown hbw
        rw [List.nil_append, Nat.zero_add] at hown
        obtain ⟨va, vl, vc, rfl, hvl⟩ := own_len hown
        have hownO := Lib.hid (show OwnO wd Wc.heap.size (.slice va vl vc) (os.drop 1) from by unfold OwnO; rw [List.length_drop, ← hol'.out]; exact hown)
        have hbd := Lib.hid (hb1c.out.trans hbw)
        have hTd := Lib.hid (hTc.out.keep hbd.out hzc.out)
        obtain ⟨⟨x0, x1, x2⟩, xf⟩ := hTd.out
        have xf2 := xf 2
        clear xf hown hbw hvl)
      all_goals
        obtain ⟨Wx, hWx⟩ : ∃ Wx, Wx = wd.setCell ⟨G, 2, none⟩ (.slice va vl vc) := ⟨_, rfl⟩
        have hTx := Lib.hid (show Three Wx G (.int .i64 P') (.slice (some ⟨g, 0, none⟩) jl c8) (.slice va vl vc) by rw [hWx]; exact hTd.out.set2)
        have hb6x := Lib.hid (show Below w6.heap.size w6 Wx by rw [hWx]; exact below_set (below_call hbc6.out hbd.out) hG6.out)
        have hbx := Lib.hid (show Below W4.heap.size W4 Wx by rw [hWx]; exact below_set (below_call hbc.out hbd.out) hG4'.out)
        have hzx := Lib.hid (show G < Wx.heap.size by rw [hWx, World.size_setCell]; exact Nat.lt_of_lt_of_le hzc.out hbd.out.size)
        have hJx := Lib.hid (show OwnJ Wx W7.heap.size (.slice (some ⟨g, 0, none⟩) jl c8) (js.set j ⟨f', t', l, q⟩) by rw [hWx]; exact ownsRow_setCell_below (hJc.out.below hbd.out) (by show G < _; exact hz7.out) _)
        have hOx := Lib.hid (show OwnO Wx Wc.heap.size (.slice va vl vc) (os.drop 1) by rw [hWx]; exact ownsRow_setCell_below hownO.out (by show G < _; exact hzc.out) _)
        have hsx := Lib.hid (fun (W : World) (hb : Below Wx.heap.size Wx W) => (show ShV W (.agg #[.int .i64 P', .slice (some ⟨g, 0, none⟩) jl c8, .slice va vl vc]) P' (js.set j ⟨f', t', l, q⟩) (os.drop 1) from ⟨_, _, rfl, hJx.out.reads.below hb, hOx.out.reads.below hb⟩))
        rw [← hWx]
        clear hWx x0 x1 x2 xf2 y0 y1 y2 q0 q1 q2 a0 a1 a2
        have hv2 := Lib.hid (valid_wider (P' := P') (os' := os.drop 1) hv'.out (show j < js.length by rw [← hjl'.out]; exact hjj) hjq'.out hP'20.out hft.out.1 hft.out.2 (fun o ho => List.mem_of_mem_drop ho) (by rw [List.length_drop]; omega))
        have hwd := Lib.hid (wider_of (P' := P') (os' := os.drop 1) (show j < js.length by rw [← hjl'.out]; exact hjj) hjq'.out hP'20.out.1 hft.out.1.2 hft.out.2.1 (fun o ho => List.mem_of_mem_drop ho))
        obtain ⟨os', hos'⟩ : ∃ x, x = os.drop 1 := ⟨_, rfl⟩
        rw [← hos'] at hsx hv2 hwd
        clear hos'
        obtain ⟨⟨x0, x1, x2⟩, -⟩ := hTx.out
        have ht : ∃ S, Sched (shOf P' (js.set j ⟨f', t', l, q⟩) os') S := ⟨_, hwd.out.sched hFl'.out.is⟩
        have hV2 := Lib.hid (valid_sh hv2.out)
        have hl2 := Lib.hid (show jl = (js.set j ⟨f', t', l, q⟩).length by rw [List.length_set]; exact hjl'.out)
        have h72 := Lib.hid (show (js.set j ⟨f', t', l, q⟩).length ≤ 7 by rw [List.length_set]; exact h7.out)
        have h212 := Lib.hid (show os'.length ≤ 21 from by have := hV2.out.1.loose.few; rw [show (shOf P' (js.set j ⟨f', t', l, q⟩) os').os.length = os'.length from List.length_map ..] at this; exact Nat.le_succ_of_le this)
        have hF2 := Lib.hid (firstOk (hsx.out Wx (Below.refl _ _)) hv2.out h72.out h212.out ht hl2.out)
        have hS2 := Lib.hid (fun (W : World) (hb : Below Wx.heap.size Wx W) => shortOk (hsx.out W hb) hv2.out h72.out h212.out ht hl2.out)
        have hrlx := Lib.hid (fun (W : World) (hb : Below Wx.heap.size Wx W) => (show Reads W (.slice fa jl fc) ls from ((hrl6.out.below hb6x.out).below hb)))
        have hFi2 := Lib.hid (fun (W : World) (hb : Below Wx.heap.size Wx W) => fitsOk (hsx.out W hb) h72.out h212.out (hrlx.out W hb) (by rw [hll'.out]; omega) hv2.out (hll'.out.trans hl2.out) (d0 := true) ⟨fun _ => hwd.out.sched hFl'.out.is, fun _ => rfl⟩)
        clear ht
        go_wp2_with (
          first
          | (go_at_call 21; refine (hF2.out).mono ?_; rintro e wp ⟨ka, kc, ks, rfl, hkl, -, -, hbp⟩
             have hbp' := Lib.hid hbp
             obtain ⟨⟨x0, x1, x2⟩, -⟩ := hTx.out.keep hbp'.out hzx.out
             have hSp := Lib.hid (hS2.out _ hbp'.out)
             clear hbp hkl)
          | (go_at_call 22; refine (hSp.out).mono ?_; rintro e wq ⟨ua, uc, us, m2, rfl, -, -, hme2, -, hbq⟩
             have hbq' := Lib.hid (below_call hbp'.out hbq)
             have hm2 : m2 ≤ m := hwd.out.end hV.out.1.loose hV2.out.1.loose hme'.out hme2
             have dm2 : decide (m2 ≤ m) = true := by simpa using hm2
             have dm3 : decide ((m2 : Int) ≤ (m : Int)) = true := by simp; omega
             obtain ⟨⟨x0, x1, x2⟩, -⟩ := hTx.out.keep hbq'.out hzx.out
             have hFq := Lib.hid (hFi2.out _ hbq'.out)
             clear hbq hme2)
          | (go_at_call 16; refine (hFq.out).mono ?_; rintro e wr ⟨rfl, hbr⟩
             have hbr' := Lib.hid (below_call hbq'.out hbr)
             have hLv := Lib.hid (lives18 (w := wr))
             clear hbr)
          | (go_at_call 18; refine (hLv.out).mono ?_; rintro e wt ⟨rfl, hbt⟩
             have hbt' := Lib.hid (below_call hbr'.out hbt)
             clear hbt))
        all_goals go_ret
        all_goals exact ⟨rfl, below_call hbW.out (below_call hbx.out hbt'.out)⟩
    · have hcut' : 0 < ol → 128 ≤ c → False := fun h1 h2 => hcut ⟨h1, h2⟩
      have hv2 := Lib.hid (valid_wider (P' := P') (os' := os) hv'.out (show j < js.length by rw [← hjl'.out]; exact hjj) hjq'.out hP'20.out hft.out.1 hft.out.2 (fun o ho => ho) (Nat.le_refl _))
      have hwd := Lib.hid (wider_of (P' := P') (os' := os) (show j < js.length by rw [← hjl'.out]; exact hjj) hjq'.out hP'20.out.1 hft.out.1.2 hft.out.2.1 (fun o ho => ho))
      have hTx := hTc
      have hzx := hzc
      have hbx := hbc
      have hb6x := hbc6
      have hsx := Lib.hid (fun (W : World) (hb : Below Wc.heap.size Wc W) => (show ShV W (.agg #[.int .i64 P', .slice (some ⟨g, 0, none⟩) jl c8, .slice oa ol oc]) P' (js.set j ⟨f', t', l, q⟩) os from ⟨_, _, rfl, hJc.out.reads.below hb, (hrj.out W (below_call hbc.out hb)).2⟩))
      obtain ⟨Wx, rfl⟩ : ∃ Wx, Wx = Wc := ⟨_, rfl⟩
      obtain ⟨os', rfl⟩ : ∃ x, x = os := ⟨_, rfl⟩
      by_cases hol0 : 0 < ol
      · have hc128 : ¬ 128 ≤ c := fun h => hcut' hol0 h
        have hol1 : (0 : Int) < (ol : Int) := by omega
        have hdc : decide (128 ≤ c) = false := by simpa using hc128
        have hdc2 : (c : Int) < 128 := by omega
        clear hcut hcut'
        have ht : ∃ S, Sched (shOf P' (js.set j ⟨f', t', l, q⟩) os') S := ⟨_, hwd.out.sched hFl'.out.is⟩
        have hV2 := Lib.hid (valid_sh hv2.out)
        have hl2 := Lib.hid (show jl = (js.set j ⟨f', t', l, q⟩).length by rw [List.length_set]; exact hjl'.out)
        have h72 := Lib.hid (show (js.set j ⟨f', t', l, q⟩).length ≤ 7 by rw [List.length_set]; exact h7.out)
        have h212 := Lib.hid (show os'.length ≤ 21 from by have := hV2.out.1.loose.few; rw [show (shOf P' (js.set j ⟨f', t', l, q⟩) os').os.length = os'.length from List.length_map ..] at this; exact Nat.le_succ_of_le this)
        have hF2 := Lib.hid (firstOk (hsx.out Wx (Below.refl _ _)) hv2.out h72.out h212.out ht hl2.out)
        have hS2 := Lib.hid (fun (W : World) (hb : Below Wx.heap.size Wx W) => shortOk (hsx.out W hb) hv2.out h72.out h212.out ht hl2.out)
        have hrlx := Lib.hid (fun (W : World) (hb : Below Wx.heap.size Wx W) => (show Reads W (.slice fa jl fc) ls from ((hrl6.out.below hb6x.out).below hb)))
        have hFi2 := Lib.hid (fun (W : World) (hb : Below Wx.heap.size Wx W) => fitsOk (hsx.out W hb) h72.out h212.out (hrlx.out W hb) (by rw [hll'.out]; omega) hv2.out (hll'.out.trans hl2.out) (d0 := true) ⟨fun _ => hwd.out.sched hFl'.out.is, fun _ => rfl⟩)
        clear ht
        go_wp2_with (
          first
          | (go_at_call 21; refine (hF2.out).mono ?_; rintro e wp ⟨ka, kc, ks, rfl, hkl, -, -, hbp⟩
             have hbp' := Lib.hid hbp
             obtain ⟨⟨x0, x1, x2⟩, -⟩ := hTx.out.keep hbp'.out hzx.out
             have hSp := Lib.hid (hS2.out _ hbp'.out)
             clear hbp hkl)
          | (go_at_call 22; refine (hSp.out).mono ?_; rintro e wq ⟨ua, uc, us, m2, rfl, -, -, hme2, -, hbq⟩
             have hbq' := Lib.hid (below_call hbp'.out hbq)
             have hm2 : m2 ≤ m := hwd.out.end hV.out.1.loose hV2.out.1.loose hme'.out hme2
             have dm2 : decide (m2 ≤ m) = true := by simpa using hm2
             have dm3 : decide ((m2 : Int) ≤ (m : Int)) = true := by simp; omega
             obtain ⟨⟨x0, x1, x2⟩, -⟩ := hTx.out.keep hbq'.out hzx.out
             have hFq := Lib.hid (hFi2.out _ hbq'.out)
             clear hbq hme2)
          | (go_at_call 16; refine (hFq.out).mono ?_; rintro e wr ⟨rfl, hbr⟩
             have hbr' := Lib.hid (below_call hbq'.out hbr)
             have hLv := Lib.hid (lives18 (w := wr))
             clear hbr)
          | (go_at_call 18; refine (hLv.out).mono ?_; rintro e wt ⟨rfl, hbt⟩
             have hbt' := Lib.hid (below_call hbr'.out hbt)
             clear hbt))
        all_goals go_ret
        all_goals exact ⟨rfl, below_call hbW.out (below_call hbx.out hbt'.out)⟩
      · obtain rfl : ol = 0 := by omega
        clear hcut hcut'
        have ht : ∃ S, Sched (shOf P' (js.set j ⟨f', t', l, q⟩) os') S := ⟨_, hwd.out.sched hFl'.out.is⟩
        have hV2 := Lib.hid (valid_sh hv2.out)
        have hl2 := Lib.hid (show jl = (js.set j ⟨f', t', l, q⟩).length by rw [List.length_set]; exact hjl'.out)
        have h72 := Lib.hid (show (js.set j ⟨f', t', l, q⟩).length ≤ 7 by rw [List.length_set]; exact h7.out)
        have h212 := Lib.hid (show os'.length ≤ 21 from by have := hV2.out.1.loose.few; rw [show (shOf P' (js.set j ⟨f', t', l, q⟩) os').os.length = os'.length from List.length_map ..] at this; exact Nat.le_succ_of_le this)
        have hF2 := Lib.hid (firstOk (hsx.out Wx (Below.refl _ _)) hv2.out h72.out h212.out ht hl2.out)
        have hS2 := Lib.hid (fun (W : World) (hb : Below Wx.heap.size Wx W) => shortOk (hsx.out W hb) hv2.out h72.out h212.out ht hl2.out)
        have hrlx := Lib.hid (fun (W : World) (hb : Below Wx.heap.size Wx W) => (show Reads W (.slice fa jl fc) ls from ((hrl6.out.below hb6x.out).below hb)))
        have hFi2 := Lib.hid (fun (W : World) (hb : Below Wx.heap.size Wx W) => fitsOk (hsx.out W hb) h72.out h212.out (hrlx.out W hb) (by rw [hll'.out]; omega) hv2.out (hll'.out.trans hl2.out) (d0 := true) ⟨fun _ => hwd.out.sched hFl'.out.is, fun _ => rfl⟩)
        clear ht
        go_wp2_with (
          first
          | (go_at_call 21; refine (hF2.out).mono ?_; rintro e wp ⟨ka, kc, ks, rfl, hkl, -, -, hbp⟩
             have hbp' := Lib.hid hbp
             obtain ⟨⟨x0, x1, x2⟩, -⟩ := hTx.out.keep hbp'.out hzx.out
             have hSp := Lib.hid (hS2.out _ hbp'.out)
             clear hbp hkl)
          | (go_at_call 22; refine (hSp.out).mono ?_; rintro e wq ⟨ua, uc, us, m2, rfl, -, -, hme2, -, hbq⟩
             have hbq' := Lib.hid (below_call hbp'.out hbq)
             have hm2 : m2 ≤ m := hwd.out.end hV.out.1.loose hV2.out.1.loose hme'.out hme2
             have dm2 : decide (m2 ≤ m) = true := by simpa using hm2
             have dm3 : decide ((m2 : Int) ≤ (m : Int)) = true := by simp; omega
             obtain ⟨⟨x0, x1, x2⟩, -⟩ := hTx.out.keep hbq'.out hzx.out
             have hFq := Lib.hid (hFi2.out _ hbq'.out)
             clear hbq hme2)
          | (go_at_call 16; refine (hFq.out).mono ?_; rintro e wr ⟨rfl, hbr⟩
             have hbr' := Lib.hid (below_call hbq'.out hbr)
             have hLv := Lib.hid (lives18 (w := wr))
             clear hbr)
          | (go_at_call 18; refine (hLv.out).mono ?_; rintro e wt ⟨rfl, hbt⟩
             have hbt' := Lib.hid (below_call hbr'.out hbt)
             clear hbt))
        all_goals go_ret
        all_goals exact ⟨rfl, below_call hbW.out (below_call hbx.out hbt'.out)⟩
  · have hF := Lib.hid (firstNo (hsh.out W4 (Below.refl _ _)) hv'.out h7.out h21.out hs)
    have hS := Lib.hid (fun (W : World) (hb : Below W4.heap.size W4 W) => shortNo (hsh.out W hb) hv'.out h7.out h21.out hs)
    clear hs
    go_upto_region 5 with (
      first
      | (go_at_call 21; refine (hF.out).mono ?_; rintro e w5 ⟨fa, fc, rfl, hb5⟩
         have hb5' := Lib.hid hb5
         obtain ⟨⟨y0, y1, y2⟩, -⟩ := hT.out.keep hb5'.out hz.out
         have hS5 := Lib.hid (hS.out _ hb5'.out)
         clear hb5)
      | (go_at_call 22; refine (hS5.out).mono ?_; rintro e w6 ⟨ga, gc, rfl, hb6⟩
         have hb6' := Lib.hid (below_call hb5'.out hb6)
         obtain ⟨⟨y0, y1, y2⟩, -⟩ := hT.out.keep hb6'.out hz.out
         clear hb6))
    obtain ⟨W7, hW7⟩ : ∃ W7, W7 = w6.alloc (Obj.cells #[Value.int IntKind.i64 P, Value.slice (some ⟨gj, 0, none⟩) jl jc, Value.slice oa ol oc] 25) := ⟨_, rfl⟩
    have hT11 := Lib.hid (show Three W7 w6.heap.size (.int .i64 P) (.slice (some ⟨gj, 0, none⟩) jl jc) (.slice oa ol oc) by rw [hW7]; exact Three.new w6 _ _ _ 25)
    have hz7 := Lib.hid (show w6.heap.size < W7.heap.size by rw [hW7]; simp)
    have hb7 := Lib.hid (show Below w6.heap.size w6 W7 by rw [hW7]; exact below_alloc1 w6 _)
    have hb47 := Lib.hid (below_call hb6'.out hb7.out)
    obtain ⟨G, hG⟩ : ∃ G, G = w6.heap.size := ⟨_, rfl⟩
    rw [← hW7, ← hG]
    rw [← hG] at hT11 hz7
    have hG4 : W4.heap.size ≤ G := by rw [hG]; exact hb6'.out.size
    have hG6 := Lib.hid (show w6.heap.size ≤ G by rw [hG]; exact Nat.le_refl _)
    have hG4' := Lib.hid hG4
    clear hW7
    clear hG hG4
    have hb1 := Lib.hid (below_alloc1 W7 (.cells #[] 56))
    have hlit := Lib.hid (lit_own W7 W7.heap.size W7.heap.size 4 56 (Nat.le_refl _) rfl)
    have hf := Lib.hid (((hrj.out W7 hb47.out).1.flat hne.out).below hb1.out)
    rw [← hjl'.out] at hf
    obtain ⟨⟨y0, y1, y2⟩, -⟩ := hT.out.keep hb47.out hz.out
    obtain ⟨⟨q0, q1, q2⟩, -⟩ := hT.out.keep (below_call hb47.out hb1.out) hz.out
    go_upto_region 6 with (
      at_builtin; refine app_flat Try.underlying22 hiJ hJ0 hJ1 hJ2 rfl (by decide) (by decide) hlit.out hf.out (one_flatJ js) (by omega) (by simp) rfl _ _ rfl rfl rfl ?_; intro v' w8 hown hbw
      rw [List.nil_append, Nat.zero_add] at hown
      rw [hjl'.out] at hown
      have hp := OwnJ.parts (show OwnJ w8 W7.heap.size v' js from hown) hne.out
      rw [← hjl'.out] at hown hp
      obtain ⟨g, c8, rfl, hc8, hg8, -⟩ := hp
      have hown' := Lib.hid (show w8.ownsRow W7.heap.size 56 4 (.slice (some ⟨g, 0, none⟩) jl c8) jl (flat encJ js) from hown)
      have hb8 := Lib.hid (hb1.out.trans hbw)
      have hT8 := Lib.hid (hT11.out.keep hb8.out hz7.out)
      obtain ⟨⟨x0, x1, x2⟩, xf⟩ := hT8.out
      have xf1 := xf 1
      clear hown hbw xf)
    obtain ⟨W9, hW9⟩ : ∃ W9, W9 = w8.setCell ⟨G, 1, none⟩ (.slice (some ⟨g, 0, none⟩) jl c8) := ⟨_, rfl⟩
    have hgG := Lib.hid (show W7.heap.size ≤ g from hg8)
    have hT9 := Lib.hid (show Three W9 G (.int .i64 P) (.slice (some ⟨g, 0, none⟩) jl c8) (.slice oa ol oc) by rw [hW9]; exact hT8.out.set1)
    have hJ9 := Lib.hid (show OwnJ W9 W7.heap.size (.slice (some ⟨g, 0, none⟩) jl c8) js by rw [hW9]; exact ownsRow_setCell_below (by have := hown'.out; rw [hjl'.out] at this; rw [hjl'.out]; exact this) (by show G < _; exact hz7.out) _)
    have hb96 := Lib.hid (show Below w6.heap.size w6 W9 by rw [hW9]; exact below_set (below_call hb7.out hb8.out) hG6.out)
    have hb9 := Lib.hid (show Below W4.heap.size W4 W9 by rw [hW9]; exact below_set (below_call hb47.out hb8.out) hG4'.out)
    rw [← hW9]
    clear hW9 q0 q1 q2 y0 y1 y2 x0 x1 x2 xf1 hg8
    obtain ⟨⟨x0, x1, x2⟩, xf⟩ := hT9.out
    have xf0 := xf 0
    obtain ⟨⟨y0, y1, y2⟩, -⟩ := hT.out.keep hb9.out hz.out
    obtain ⟨⟨a0, a1, a2⟩, -⟩ := hA.out.keep hb9.out (Nat.lt_trans hAz.out hz.out)
    clear xf
    go_upto_region 7 with fail
    obtain ⟨Wa, hWa⟩ : ∃ Wa, Wa = W9.setCell ⟨G, 0, none⟩ (.int .i64 P') := ⟨_, rfl⟩
    have hTa := Lib.hid (show Three Wa G (.int .i64 P') (.slice (some ⟨g, 0, none⟩) jl c8) (.slice oa ol oc) by rw [hWa]; exact hT9.out.set0)
    have hJa := Lib.hid (show OwnJ Wa W7.heap.size (.slice (some ⟨g, 0, none⟩) jl c8) js by rw [hWa]; exact ownsRow_setCell_below hJ9.out (by show G < _; exact hz7.out) _)
    have hba6 := Lib.hid (show Below w6.heap.size w6 Wa by rw [hWa]; exact below_set hb96.out hG6.out)
    have hba := Lib.hid (show Below W4.heap.size W4 Wa by rw [hWa]; exact below_set hb9.out hG4'.out)
    rw [← hWa]
    clear hWa y0 y1 y2 a0 a1 a2 x0 x1 x2 xf0
    obtain ⟨⟨x0, x1, x2⟩, -⟩ := hTa.out
    obtain ⟨⟨a0, a1, a2⟩, -⟩ := hA.out.keep hba.out (Nat.lt_trans hAz.out hz.out)
    go_upto_region 8 with fail
    rw [hj]
    obtain ⟨g', c', e', -, -, hgw, hfz, hat, hsf, -⟩ := hJa.out.parts hne.out
    obtain ⟨rfl, rfl⟩ : g = g' ∧ c8 = c' := by injection e' with a _ b; injection a with a; injection a with a; exact ⟨a, b⟩
    have hJa2 := Lib.hid (hsf j f' (by rw [← hjl'.out]; exact hjj))
    obtain ⟨d0, d1, -, -⟩ := hat j (by rw [← hjl'.out]; exact hjj)
    rw [hjq'.out] at d0 d1 hJa2
    simp only at d0 d1 hJa2
    have fz := hfz (j * 4)
    have hjj' : (j : Int) < (jl : Int) := by omega
    clear e' hat hsf hfz
    refine wp_region_still_tail 17 (by kernel_rfl) (by kernel_rfl) ?_
    simp only [List.take_succ_cons, List.take_zero, List.drop_succ_cons, List.drop_zero]
    iterate 17 still_step
    refine wpStill_nil ?_
    go_upto_region 9 with fail
    obtain ⟨Wb, hWb⟩ : ∃ Wb, Wb = (Wa.setCell ⟨g, j * 4, none⟩ (.int .i64 f')).drew := ⟨_, rfl⟩
    have hgG2 : ¬ (g = G) := by have := hgG.out; have := hz7.out; omega
    have hgW4 := Lib.hid (show W4.heap.size ≤ g by have := hgG.out; have := hz7.out; have := hG4'.out; omega)
    have hTb := Lib.hid (show Three Wb G (.int .i64 P') (.slice (some ⟨g, 0, none⟩) jl c8) (.slice oa ol oc) by rw [hWb]; exact hTa.out.other (by omega))
    have hJb := Lib.hid (show OwnJ Wb W7.heap.size (.slice (some ⟨g, 0, none⟩) jl c8) (js.set j ⟨f', t, l, q⟩) by rw [hWb]; exact hJa2.out)
    have hgW6 := Lib.hid (show w6.heap.size ≤ g by have := hgG.out; have := hz7.out; have := hG6.out; omega)
    have hbb6 := Lib.hid (show Below w6.heap.size w6 Wb by rw [hWb]; exact (below_set hba6.out hgW6.out).drew)
    have hbb := Lib.hid (show Below W4.heap.size W4 Wb by rw [hWb]; exact (below_set hba.out hgW4.out).drew)
    rw [← hWb]
    clear hWb x0 x1 x2 a0 a1 a2 d0 d1 fz hgw
    obtain ⟨⟨x0, x1, x2⟩, -⟩ := hTb.out
    obtain ⟨⟨a0, a1, a2⟩, -⟩ := hA.out.keep hbb.out (Nat.lt_trans hAz.out hz.out)
    have hjs1 := Lib.hid (show j < (js.set j ⟨f', t, l, q⟩).length by rw [List.length_set, ← hjl'.out]; exact hjj)
    obtain ⟨g', c', e', -, -, hgw, hfz, hat, -, hst⟩ := hJb.out.parts (fun e => by have := hjs1.out; rw [e] at this; simp at this)
    obtain ⟨rfl, rfl⟩ : g = g' ∧ c8 = c' := by injection e' with a _ b; injection a with a; injection a with a; exact ⟨a, b⟩
    have hJb2 := Lib.hid (hst j t' hjs1.out)
    obtain ⟨d0, d1, -, -⟩ := hat j hjs1.out
    rw [set_getD (by rw [← hjl'.out]; exact hjj), if_pos rfl] at d0 d1 hJb2
    rw [List.set_set] at hJb2
    simp only at d0 d1 hJb2
    have fz := hfz (j * 4 + 1)
    clear e' hat hst hfz
    refine wp_region_still_tail 18 (by kernel_rfl) (by kernel_rfl) ?_
    simp only [List.take_succ_cons, List.take_zero, List.drop_succ_cons, List.drop_zero]
    iterate 18 still_step
    refine wpStill_nil ?_
    go_upto_region 10 with fail
    obtain ⟨Wc, hWc⟩ : ∃ Wc, Wc = (Wb.setCell ⟨g, j * 4 + 1, none⟩ (.int .i64 t')).drew := ⟨_, rfl⟩
    have hTc := Lib.hid (show Three Wc G (.int .i64 P') (.slice (some ⟨g, 0, none⟩) jl c8) (.slice oa ol oc) by rw [hWc]; exact hTb.out.other (by omega))
    have hJc := Lib.hid (show OwnJ Wc W7.heap.size (.slice (some ⟨g, 0, none⟩) jl c8) (js.set j ⟨f', t', l, q⟩) by rw [hWc]; exact hJb2.out)
    have hbc6 := Lib.hid (show Below w6.heap.size w6 Wc by rw [hWc]; exact (below_set hbb6.out hgW6.out).drew)
    have hbc := Lib.hid (show Below W4.heap.size W4 Wc by rw [hWc]; exact (below_set hbb.out hgW4.out).drew)
    rw [← hWc]
    have hzc := Lib.hid (show G < Wc.heap.size by rw [hWc]; show G < (Wb.setCell _ _).heap.size; rw [World.size_setCell]; have := hgG.out; have := hz7.out; omega)
    clear hWc x0 x1 x2 a0 a1 a2 d0 d1 fz hgw
    obtain ⟨⟨x0, x1, x2⟩, xf⟩ := hTc.out
    have xf2 := xf 2
    clear xf
    obtain ⟨⟨a0, a1, a2⟩, -⟩ := hA.out.keep hbc.out (Nat.lt_trans hAz.out hz.out)
    obtain ⟨⟨y0, y1, y2⟩, -⟩ := hT.out.keep hbc.out hz.out
    by_cases hcut : 0 < ol ∧ 128 ≤ c
    · obtain ⟨hcut1, hcut2⟩ := hcut
      have hcut3 : (0 : Int) < (ol : Int) := by omega
      have hcut4 : (128 : Int) ≤ (c : Int) := by omega
      obtain ⟨go, rfl⟩ : ∃ g, oa = some ⟨g, 0, none⟩ := readsO_at (hrj.out W4 (Below.refl _ _)).2 hcut1
      have hb1c := Lib.hid (below_alloc1 Wc (.cells #[] 78))
      have hlitO := Lib.hid (lit_own Wc Wc.heap.size Wc.heap.size 2 78 (Nat.le_refl _) rfl)
      have hoc := readsO_cap (hrj.out W4 (Below.refl _ _)).2
      obtain ⟨⟨q0, q1, q2⟩, -⟩ := hT.out.keep (below_call hbc.out hb1c.out) hz.out
      have hfO := Lib.hid (show FlatR (Wc.alloc (.cells #[] 78)) 2 (.slice (some ⟨go, if oc = 1 then 0 else 2, none⟩) (ol - 1) (oc - 1)) (ol - 1) (flat encO (os.drop 1)) from
        (flatO_drop ((hrj.out _ (below_call hbc.out hb1c.out)).2) hcut1))
      obtain ⟨iO, hiO, hO0, hO1, hO2⟩ := info_parts info78
      have hol20 := Lib.hid (show ol ≤ 21 by rw [hol'.out]; exact h21.out)
      go_upto_region 12 with (
        at_builtin; refine app_flat Try.underlying23 hiO hO0 hO1 hO2 rfl (by decide) (by decide) hlitO.out hfO.out (one_flatO _) (by have := hol20.out; omega) (by simp) rfl _ _ rfl rfl (by simp [Act.eval]; split <;> rfl) ?_; intro v' wd hown hbw
        rw [List.nil_append, Nat.zero_add] at hown
        obtain ⟨va, vl, vc, rfl, hvl⟩ := own_len hown
        have hownO := Lib.hid (show OwnO wd Wc.heap.size (.slice va vl vc) (os.drop 1) from by unfold OwnO; rw [List.length_drop, ← hol'.out]; exact hown)
        have hbd := Lib.hid (hb1c.out.trans hbw)
        have hTd := Lib.hid (hTc.out.keep hbd.out hzc.out)
        obtain ⟨⟨x0, x1, x2⟩, xf⟩ := hTd.out
        have xf2 := xf 2
        clear xf hown hbw hvl)
      all_goals
        obtain ⟨Wx, hWx⟩ : ∃ Wx, Wx = wd.setCell ⟨G, 2, none⟩ (.slice va vl vc) := ⟨_, rfl⟩
        have hTx := Lib.hid (show Three Wx G (.int .i64 P') (.slice (some ⟨g, 0, none⟩) jl c8) (.slice va vl vc) by rw [hWx]; exact hTd.out.set2)
        have hb6x := Lib.hid (show Below w6.heap.size w6 Wx by rw [hWx]; exact below_set (below_call hbc6.out hbd.out) hG6.out)
        have hbx := Lib.hid (show Below W4.heap.size W4 Wx by rw [hWx]; exact below_set (below_call hbc.out hbd.out) hG4'.out)
        have hzx := Lib.hid (show G < Wx.heap.size by rw [hWx, World.size_setCell]; exact Nat.lt_of_lt_of_le hzc.out hbd.out.size)
        have hJx := Lib.hid (show OwnJ Wx W7.heap.size (.slice (some ⟨g, 0, none⟩) jl c8) (js.set j ⟨f', t', l, q⟩) by rw [hWx]; exact ownsRow_setCell_below (hJc.out.below hbd.out) (by show G < _; exact hz7.out) _)
        have hOx := Lib.hid (show OwnO Wx Wc.heap.size (.slice va vl vc) (os.drop 1) by rw [hWx]; exact ownsRow_setCell_below hownO.out (by show G < _; exact hzc.out) _)
        have hsx := Lib.hid (fun (W : World) (hb : Below Wx.heap.size Wx W) => (show ShV W (.agg #[.int .i64 P', .slice (some ⟨g, 0, none⟩) jl c8, .slice va vl vc]) P' (js.set j ⟨f', t', l, q⟩) (os.drop 1) from ⟨_, _, rfl, hJx.out.reads.below hb, hOx.out.reads.below hb⟩))
        rw [← hWx]
        clear hWx x0 x1 x2 xf2 y0 y1 y2 q0 q1 q2 a0 a1 a2
        have hv2 := Lib.hid (valid_wider (P' := P') (os' := os.drop 1) hv'.out (show j < js.length by rw [← hjl'.out]; exact hjj) hjq'.out hP'20.out hft.out.1 hft.out.2 (fun o ho => List.mem_of_mem_drop ho) (by rw [List.length_drop]; omega))
        have hwd := Lib.hid (wider_of (P' := P') (os' := os.drop 1) (show j < js.length by rw [← hjl'.out]; exact hjj) hjq'.out hP'20.out.1 hft.out.1.2 hft.out.2.1 (fun o ho => List.mem_of_mem_drop ho))
        obtain ⟨os', hos'⟩ : ∃ x, x = os.drop 1 := ⟨_, rfl⟩
        rw [← hos'] at hsx hv2 hwd
        clear hos'
        obtain ⟨⟨x0, x1, x2⟩, -⟩ := hTx.out
        have hV2 := Lib.hid (valid_sh hv2.out)
        have hl2 := Lib.hid (show jl = (js.set j ⟨f', t', l, q⟩).length by rw [List.length_set]; exact hjl'.out)
        have h72 := Lib.hid (show (js.set j ⟨f', t', l, q⟩).length ≤ 7 by rw [List.length_set]; exact h7.out)
        have h212 := Lib.hid (show os'.length ≤ 21 from by have := hV2.out.1.loose.few; rw [show (shOf P' (js.set j ⟨f', t', l, q⟩) os').os.length = os'.length from List.length_map ..] at this; exact Nat.le_succ_of_le this)
        by_cases ht : ∃ S, Sched (shOf P' (js.set j ⟨f', t', l, q⟩) os') S
        · have hF2 := Lib.hid (firstOk (hsx.out Wx (Below.refl _ _)) hv2.out h72.out h212.out ht hl2.out)
          have hS2 := Lib.hid (fun (W : World) (hb : Below Wx.heap.size Wx W) => shortOk (hsx.out W hb) hv2.out h72.out h212.out ht hl2.out)
          clear ht
          go_wp2_with (
            first
            | (go_at_call 21; refine (hF2.out).mono ?_; rintro e wp ⟨ka, kc, ks, rfl, -, -, -, hbp⟩
               have hbp' := Lib.hid hbp
               obtain ⟨⟨x0, x1, x2⟩, -⟩ := hTx.out.keep hbp'.out hzx.out
               have hSp := Lib.hid (hS2.out _ hbp'.out)
               clear hbp)
            | (go_at_call 22; refine (hSp.out).mono ?_; rintro e wq ⟨ua, uc, us, m2, rfl, -, -, -, -, hbq⟩
               have hbq' := Lib.hid (below_call hbp'.out hbq)
               have hLv := Lib.hid (lives18 (w := wq))
               clear hbq)
            | (go_at_call 18; refine (hLv.out).mono ?_; rintro e wt ⟨rfl, hbt⟩
               have hbt' := Lib.hid (below_call hbq'.out hbt)
               clear hbt))
          all_goals go_ret
          all_goals exact ⟨rfl, below_call hbW.out (below_call hbx.out hbt'.out)⟩
        · have hF2 := Lib.hid (firstNo (hsx.out Wx (Below.refl _ _)) hv2.out h72.out h212.out ht)
          have hS2 := Lib.hid (fun (W : World) (hb : Below Wx.heap.size Wx W) => shortNo (hsx.out W hb) hv2.out h72.out h212.out ht)
          clear ht
          go_wp2_with (
            first
            | (go_at_call 21; refine (hF2.out).mono ?_; rintro e wp ⟨ka, kc, rfl, hbp⟩
               have hbp' := Lib.hid hbp
               obtain ⟨⟨x0, x1, x2⟩, -⟩ := hTx.out.keep hbp'.out hzx.out
               have hSp := Lib.hid (hS2.out _ hbp'.out)
               clear hbp)
            | (go_at_call 22; refine (hSp.out).mono ?_; rintro e wq ⟨ua, uc, rfl, hbq⟩
               have hbq' := Lib.hid (below_call hbp'.out hbq)
               have hLv := Lib.hid (lives18 (w := wq))
               clear hbq)
            | (go_at_call 18; refine (hLv.out).mono ?_; rintro e wt ⟨rfl, hbt⟩
               have hbt' := Lib.hid (below_call hbq'.out hbt)
               clear hbt))
          all_goals go_ret
          all_goals exact ⟨rfl, below_call hbW.out (below_call hbx.out hbt'.out)⟩
    · have hcut' : 0 < ol → 128 ≤ c → False := fun h1 h2 => hcut ⟨h1, h2⟩
      have hv2 := Lib.hid (valid_wider (P' := P') (os' := os) hv'.out (show j < js.length by rw [← hjl'.out]; exact hjj) hjq'.out hP'20.out hft.out.1 hft.out.2 (fun o ho => ho) (Nat.le_refl _))
      have hwd := Lib.hid (wider_of (P' := P') (os' := os) (show j < js.length by rw [← hjl'.out]; exact hjj) hjq'.out hP'20.out.1 hft.out.1.2 hft.out.2.1 (fun o ho => ho))
      have hTx := hTc
      have hzx := hzc
      have hbx := hbc
      have hb6x := hbc6
      have hsx := Lib.hid (fun (W : World) (hb : Below Wc.heap.size Wc W) => (show ShV W (.agg #[.int .i64 P', .slice (some ⟨g, 0, none⟩) jl c8, .slice oa ol oc]) P' (js.set j ⟨f', t', l, q⟩) os from ⟨_, _, rfl, hJc.out.reads.below hb, (hrj.out W (below_call hbc.out hb)).2⟩))
      obtain ⟨Wx, rfl⟩ : ∃ Wx, Wx = Wc := ⟨_, rfl⟩
      obtain ⟨os', rfl⟩ : ∃ x, x = os := ⟨_, rfl⟩
      by_cases hol0 : 0 < ol
      · have hc128 : ¬ 128 ≤ c := fun h => hcut' hol0 h
        have hol1 : (0 : Int) < (ol : Int) := by omega
        have hdc : decide (128 ≤ c) = false := by simpa using hc128
        have hdc2 : (c : Int) < 128 := by omega
        clear hcut hcut'
        have hV2 := Lib.hid (valid_sh hv2.out)
        have hl2 := Lib.hid (show jl = (js.set j ⟨f', t', l, q⟩).length by rw [List.length_set]; exact hjl'.out)
        have h72 := Lib.hid (show (js.set j ⟨f', t', l, q⟩).length ≤ 7 by rw [List.length_set]; exact h7.out)
        have h212 := Lib.hid (show os'.length ≤ 21 from by have := hV2.out.1.loose.few; rw [show (shOf P' (js.set j ⟨f', t', l, q⟩) os').os.length = os'.length from List.length_map ..] at this; exact Nat.le_succ_of_le this)
        by_cases ht : ∃ S, Sched (shOf P' (js.set j ⟨f', t', l, q⟩) os') S
        · have hF2 := Lib.hid (firstOk (hsx.out Wx (Below.refl _ _)) hv2.out h72.out h212.out ht hl2.out)
          have hS2 := Lib.hid (fun (W : World) (hb : Below Wx.heap.size Wx W) => shortOk (hsx.out W hb) hv2.out h72.out h212.out ht hl2.out)
          clear ht
          go_wp2_with (
            first
            | (go_at_call 21; refine (hF2.out).mono ?_; rintro e wp ⟨ka, kc, ks, rfl, -, -, -, hbp⟩
               have hbp' := Lib.hid hbp
               obtain ⟨⟨x0, x1, x2⟩, -⟩ := hTx.out.keep hbp'.out hzx.out
               have hSp := Lib.hid (hS2.out _ hbp'.out)
               clear hbp)
            | (go_at_call 22; refine (hSp.out).mono ?_; rintro e wq ⟨ua, uc, us, m2, rfl, -, -, -, -, hbq⟩
               have hbq' := Lib.hid (below_call hbp'.out hbq)
               have hLv := Lib.hid (lives18 (w := wq))
               clear hbq)
            | (go_at_call 18; refine (hLv.out).mono ?_; rintro e wt ⟨rfl, hbt⟩
               have hbt' := Lib.hid (below_call hbq'.out hbt)
               clear hbt))
          all_goals go_ret
          all_goals exact ⟨rfl, below_call hbW.out (below_call hbx.out hbt'.out)⟩
        · have hF2 := Lib.hid (firstNo (hsx.out Wx (Below.refl _ _)) hv2.out h72.out h212.out ht)
          have hS2 := Lib.hid (fun (W : World) (hb : Below Wx.heap.size Wx W) => shortNo (hsx.out W hb) hv2.out h72.out h212.out ht)
          clear ht
          go_wp2_with (
            first
            | (go_at_call 21; refine (hF2.out).mono ?_; rintro e wp ⟨ka, kc, rfl, hbp⟩
               have hbp' := Lib.hid hbp
               obtain ⟨⟨x0, x1, x2⟩, -⟩ := hTx.out.keep hbp'.out hzx.out
               have hSp := Lib.hid (hS2.out _ hbp'.out)
               clear hbp)
            | (go_at_call 22; refine (hSp.out).mono ?_; rintro e wq ⟨ua, uc, rfl, hbq⟩
               have hbq' := Lib.hid (below_call hbp'.out hbq)
               have hLv := Lib.hid (lives18 (w := wq))
               clear hbq)
            | (go_at_call 18; refine (hLv.out).mono ?_; rintro e wt ⟨rfl, hbt⟩
               have hbt' := Lib.hid (below_call hbq'.out hbt)
               clear hbt))
          all_goals go_ret
          all_goals exact ⟨rfl, below_call hbW.out (below_call hbx.out hbt'.out)⟩
      · obtain rfl : ol = 0 := by omega
        clear hcut hcut'
        have hV2 := Lib.hid (valid_sh hv2.out)
        have hl2 := Lib.hid (show jl = (js.set j ⟨f', t', l, q⟩).length by rw [List.length_set]; exact hjl'.out)
        have h72 := Lib.hid (show (js.set j ⟨f', t', l, q⟩).length ≤ 7 by rw [List.length_set]; exact h7.out)
        have h212 := Lib.hid (show os'.length ≤ 21 from by have := hV2.out.1.loose.few; rw [show (shOf P' (js.set j ⟨f', t', l, q⟩) os').os.length = os'.length from List.length_map ..] at this; exact Nat.le_succ_of_le this)
        by_cases ht : ∃ S, Sched (shOf P' (js.set j ⟨f', t', l, q⟩) os') S
        · have hF2 := Lib.hid (firstOk (hsx.out Wx (Below.refl _ _)) hv2.out h72.out h212.out ht hl2.out)
          have hS2 := Lib.hid (fun (W : World) (hb : Below Wx.heap.size Wx W) => shortOk (hsx.out W hb) hv2.out h72.out h212.out ht hl2.out)
          clear ht
          go_wp2_with (
            first
            | (go_at_call 21; refine (hF2.out).mono ?_; rintro e wp ⟨ka, kc, ks, rfl, -, -, -, hbp⟩
               have hbp' := Lib.hid hbp
               obtain ⟨⟨x0, x1, x2⟩, -⟩ := hTx.out.keep hbp'.out hzx.out
               have hSp := Lib.hid (hS2.out _ hbp'.out)
               clear hbp)
            | (go_at_call 22; refine (hSp.out).mono ?_; rintro e wq ⟨ua, uc, us, m2, rfl, -, -, -, -, hbq⟩
               have hbq' := Lib.hid (below_call hbp'.out hbq)
               have hLv := Lib.hid (lives18 (w := wq))
               clear hbq)
            | (go_at_call 18; refine (hLv.out).mono ?_; rintro e wt ⟨rfl, hbt⟩
               have hbt' := Lib.hid (below_call hbq'.out hbt)
               clear hbt))
          all_goals go_ret
          all_goals exact ⟨rfl, below_call hbW.out (below_call hbx.out hbt'.out)⟩
        · have hF2 := Lib.hid (firstNo (hsx.out Wx (Below.refl _ _)) hv2.out h72.out h212.out ht)
          have hS2 := Lib.hid (fun (W : World) (hb : Below Wx.heap.size Wx W) => shortNo (hsx.out W hb) hv2.out h72.out h212.out ht)
          clear ht
          go_wp2_with (
            first
            | (go_at_call 21; refine (hF2.out).mono ?_; rintro e wp ⟨ka, kc, rfl, hbp⟩
               have hbp' := Lib.hid hbp
               obtain ⟨⟨x0, x1, x2⟩, -⟩ := hTx.out.keep hbp'.out hzx.out
               have hSp := Lib.hid (hS2.out _ hbp'.out)
               clear hbp)
            | (go_at_call 22; refine (hSp.out).mono ?_; rintro e wq ⟨ua, uc, rfl, hbq⟩
               have hbq' := Lib.hid (below_call hbp'.out hbq)
               have hLv := Lib.hid (lives18 (w := wq))
               clear hbq)
            | (go_at_call 18; refine (hLv.out).mono ?_; rintro e wt ⟨rfl, hbt⟩
               have hbt' := Lib.hid (below_call hbq'.out hbt)
               clear hbt))
          all_goals go_ret
          all_goals exact ⟨rfl, below_call hbW.out (below_call hbx.out hbt'.out)⟩
end Go.Proofs.Ytjkbhdlbomcbeaa
