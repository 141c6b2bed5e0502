import Derived.Test.YtjkbhdlbomcbeaaXl
import Derived.Test.YtjkbhdlbomcbeaaXm
namespace Go.Proofs.Ytjkbhdlbomcbeaa
open Go.RowKit Go.Shelf Shf

theorem own_struct (w : World) (B : Nat) (a b c : Value) (hB : B ≤ w.heap.size) : (w.alloc (.cells #[a, b, c] 25)).ownsRow B 25 3 (.slice (some ⟨w.heap.size, 0, none⟩) 1 1) 1 [a, b, c] :=
  ⟨rfl, .inr ⟨w.heap.size, 1, #[a, b, c], rfl, hB, heap_alloc_new w _, Nat.le_refl _, by unfold maxLen; omega, rfl, rfl⟩⟩
theorem InRow.flat {w : World} {v : Value} {xs : List Int} (h : InRow w v xs) : FlatR w 1 v xs.length (xs.map (Value.int .i64)) := by
  obtain ⟨⟨ao, c, rfl, hc, h⟩, _, ao', c', e, hn⟩ := h
  obtain ⟨rfl, rfl⟩ : ao = ao' ∧ c = c' := by injection e with a _ b; exact ⟨a, b⟩
  refine ⟨by simp, ao, c, rfl, hc, hn, fun hne => ?_⟩
  obtain ⟨g, o, rfl, hg, hcl⟩ := h (fun e => hne (by rw [e]; rfl))
  refine ⟨g, o, rfl, hg, fun j u hj => ?_⟩
  rw [List.getElem?_map, Option.map_eq_some_iff] at hj
  obtain ⟨x, hx, rfl⟩ := hj
  have hjl := (List.getElem?_eq_some_iff.1 hx).1
  rw [hcl j hjl, List.getD_eq_getElem?_getD, hx]; rfl
theorem one_ints (xs : List Int) : ∀ u ∈ xs.map (Value.int .i64), u.oneCell' = true := fun u hu => by
  obtain ⟨x, _, rfl⟩ := List.mem_map.1 hu; rfl
/-- The two copies that a law begins with. -/
def Cut1 (w : World) (P : Int) (js : List J) (os : List (Int × Int)) (xs : List Int) (p q : Value) (wx : World) : Prop :=
  ∃ b ja jc oa oc, p = .pointer (some ⟨b, 0, none⟩) ∧ w.heap.size ≤ b ∧ Three wx b (.int .i64 P) (.slice ja (js.take 7).length jc) (.slice oa (os.take 21).length oc) ∧ b < wx.heap.size ∧ OwnJ wx w.heap.size (.slice ja (js.take 7).length jc) (js.take 7) ∧ OwnO wx w.heap.size (.slice oa (os.take 21).length oc) (os.take 21) ∧ Ints wx w.heap.size q (xs.take 7) ∧ Below w.heap.size w wx
theorem own_set_other {w : World} {B B2 e e2 z z2 n n2 g c : Nat} {u : Value} {xs ys : List Value} (hT : w.ownsRow B e z (.slice (some ⟨g, 0, none⟩) n c) n xs) (h : w.ownsRow B2 e2 z2 u n2 ys) (hne : e2 ≠ e) (k : Nat) (x : Value) : (w.setCell ⟨g, k, none⟩ x).ownsRow B2 e2 z2 u n2 ys := by
  refine ⟨h.1, ?_⟩
  rcases h.2 with h0 | ⟨g', cap, cur, rfl, hB, hg, rest⟩
  · exact .inl h0
  · refine .inr ⟨g', cap, cur, rfl, hB, ?_, rest⟩
    rw [Below.heap_setCell w ⟨g, k, none⟩ x g' ?_]
    · exact hg
    · rintro rfl
      rcases hT.2 with ⟨h1, _⟩ | ⟨g2, cap2, cur2, h1, _, hg2, _⟩
      · simp at h1
      · simp only [Value.slice.injEq, Option.some.injEq, Addr.mk.injEq, and_true, true_and] at h1
        obtain ⟨rfl, rfl⟩ := h1
        rw [hg] at hg2
        simp at hg2
        exact hne hg2.2
theorem struct_there {w : World} {B g : Nat} {a b c : Value} (h : w.ownsRow B 25 3 (.slice (some ⟨g, 0, none⟩) 1 1) 1 [a, b, c]) : w.there g 0 3 := fun j hj => by
  refine ⟨?_, h.frozenAt _⟩
  rw [Nat.zero_add, h.cellAt j (by omega)]
  match j, hj with
  | 0, _ | 1, _ | 2, _ => rfl
theorem cut1_end {w W wk : World} {B0 gt q jn jc on oc : Nat} {ja oa : Option Addr} {lv z0 z1 z2 : Value} {P : Int} {js : List J} {os : List (Int × Int)} {xs : List Int} (hW : Below w.heap.size w W) (hb : w.heap.size ≤ B0) (hH : Below B0 W wk) (hgt : B0 ≤ gt) (hql : (xs.take 7).length = q)
    (fJ : OwnJ wk B0 (.slice ja jn jc) (js.take 7)) (fO : OwnO wk B0 (.slice oa on oc) (os.take 21)) (fI : wk.ownsRow B0 3 1 lv q ((xs.take 7).map (Value.int .i64))) (fT : wk.ownsRow B0 25 3 (.slice (some ⟨gt, 0, none⟩) 1 1) 1 [z0, z1, z2]) :
    Cut1 w P js os xs (.pointer (some ⟨gt, 0, none⟩)) lv (wk.setCells gt 0 [.int .i64 P, .slice ja jn jc, .slice oa on oc]) ∧ Below B0 W (wk.setCells gt 0 [.int .i64 P, .slice ja jn jc, .slice oa on oc]) := by
  obtain rfl : jn = (js.take 7).length := by obtain ⟨_, _, e, _⟩ := own_cells fJ; injection e
  obtain rfl : on = (os.take 21).length := by obtain ⟨_, _, e, _⟩ := own_cells fO; injection e
  have hB : Below B0 W (wk.setCells gt 0 [.int .i64 P, .slice ja (js.take 7).length jc, .slice oa (os.take 21).length oc]) := below_setC hgt _ _ _ hH
  have t1 := (fT.stored 0 (.int .i64 P)).1
  have t2 := (t1.stored 1 (.slice ja (js.take 7).length jc)).1
  have t3 := (t2.stored 2 (.slice oa (os.take 21).length oc)).1
  have lift : ∀ {B2 e2 z2' n2 : Nat} {u : Value} {ys : List Value}, wk.ownsRow B2 e2 z2' u n2 ys → e2 ≠ 25 → (wk.setCells gt 0 [.int .i64 P, .slice ja (js.take 7).length jc, .slice oa (os.take 21).length oc]).ownsRow B2 e2 z2' u n2 ys := fun h hne =>
    own_set_other t2 (own_set_other t1 (own_set_other fT h hne 0 _) hne 1 _) hne 2 _
  have t3' : (wk.setCells gt 0 [.int .i64 P, .slice ja (js.take 7).length jc, .slice oa (os.take 21).length oc]).ownsRow B0 25 3 (.slice (some ⟨gt, 0, none⟩) 1 1) 1 [.int .i64 P, .slice ja (js.take 7).length jc, .slice oa (os.take 21).length oc] := t3
  refine ⟨⟨gt, ja, jc, oa, oc, rfl, Nat.le_trans hb hgt, ⟨⟨?_, ?_, ?_⟩, fun j => t3'.frozenAt j⟩, (World.ownsRow.lt t3' gt rfl).2, own_base (lift fJ (by decide)) hb, own_base (lift fO (by decide)) hb, ?_, hW.trans (hB.mono hb)⟩, hB⟩
  · rw [t3'.cellAt 0 (by decide)]; rfl
  · rw [t3'.cellAt 1 (by decide)]; rfl
  · rw [t3'.cellAt 2 (by decide)]; rfl
  · unfold Ints
    rw [hql]
    exact own_base (lift fI (by decide)) hb
theorem own_len {w : World} {B e sz n : Nat} {v : Value} {xs : List Value} (h : w.ownsRow B e sz v n xs) : ∃ ao m c, v = .slice ao m c ∧ m = n := by
  obtain ⟨ao, c, e, _⟩ := own_cells h
  exact ⟨ao, n, c, e, rfl⟩
theorem one3 {P : Int} {a b : Option Addr} {n m n' m' : Nat} : ([.int .i64 P, .slice a n n', .slice b m m'] : List Value).toArray.all (·.oneCell') = true :=
  all_oneCell_toArray fun v hv => by
    simp only [List.mem_cons, List.not_mem_nil, or_false] at hv
    rcases hv with rfl | rfl | rfl <;> rfl
/-- Load refuses. -/
def LoadBad (w : World) (err : Int) (e : Ending) (w' : World) : Prop := ∃ a c, e = .returned (.tuple #[.slice a 0 c, .int .i64 err]) ∧ Below w.heap.size w w'
theorem loadBad {w : World} {v u : Value} {P : Int} {js : List J} {os : List (Int × Int)} {xs : List Int} (h : ShV w v P js os) (h7 : js.length ≤ 7) (h21 : os.length ≤ 21) (hx : Reads w u xs) (hl : xs.length ≤ 1000000) {err : Int} (he : (validB P js os = false ∧ err = 1) ∨ (validB P js os = true ∧ (xs.length ≠ js.length ∨ xs.any outB = true) ∧ err = 2)) :
    Calls Try.prog 33 #[v, u] w (LoadBad w err) := by
  refine (load33 h h7 h21 hx hl).mono ?_
  rintro e w' ⟨u, ys, err', rfl, hI, hb, ha⟩
  have hy : ys = [] ∧ err' = err := by
    rcases ha with ⟨h1, h2, h3⟩ | ⟨h1, ⟨h2, h3, h4⟩ | ⟨h2, h3, h4, h5⟩⟩ <;> rcases he with ⟨g1, g2⟩ | ⟨g1, g2, g3⟩
    · exact ⟨h2, by rw [h3, g2]⟩
    · rw [h1] at g1; cases g1
    · rw [h1] at g1; cases g1
    · exact ⟨h3, by rw [h4, g3]⟩
    · rw [h1] at g1; cases g1
    · rcases g2 with g2 | g2
      · exact absurd h2 g2
      · rw [h3] at g2; cases g2
  obtain ⟨rfl, rfl⟩ := hy
  obtain ⟨a, c, rfl, _⟩ := hI.shape
  exact ⟨a, c, rfl, hb⟩
def LoadOk (w : World) (ys : List Int) (e : Ending) (w' : World) : Prop := ∃ a c, e = .returned (.tuple #[.slice a ys.length c, .int .i64 0]) ∧ Reads w' (.slice a ys.length c) ys ∧ Below w.heap.size w w'
theorem loadOk {w : World} {v u : Value} {P : Int} {js : List J} {os : List (Int × Int)} {xs : List Int} (h : ShV w v P js os) (h7 : js.length ≤ 7) (h21 : os.length ≤ 21) (hx : Reads w u xs) (hl : xs.length ≤ 1000000) (h1 : validB P js os = true) (h2 : xs.length = js.length) (h3 : xs.any outB = false) :
    Calls Try.prog 33 #[v, u] w (LoadOk w (loadL (shOf P js os) fun i => xs.getD i 0)) := by
  refine (load33 h h7 h21 hx hl).mono ?_
  rintro e w' ⟨u, ys, err', rfl, hI, hb, ha⟩
  have hy : ys = loadL (shOf P js os) (fun i => xs.getD i 0) ∧ err' = 0 := by
    rcases ha with ⟨g1, _⟩ | ⟨_, ⟨g2 | g2, _⟩ | ⟨_, _, g4, g5⟩⟩
    · rw [h1] at g1; cases g1
    · exact absurd h2 g2
    · rw [h3] at g2; cases g2
    · exact ⟨g4, g5⟩
  obtain ⟨rfl, rfl⟩ := hy
  have hr := hI.shape
  obtain ⟨a, c, rfl, _⟩ := id hr
  exact ⟨a, c, rfl, hr, hb⟩
theorem valid17' {w : World} {v : Value} {P : Int} {js : List J} {os : List (Int × Int)} (h : ShV w v P js os) (hj7 : js.length ≤ 7) (ho21 : os.length ≤ 21) {d : Bool} (hd : validB P js os = d) :
    Calls Try.prog 17 #[v] w fun e w' => e = .returned (.bool d) ∧ Below w.heap.size w w' := by subst hd; exact valid17 h hj7 ho21
set_option maxHeartbeats 8000000 in
set_option maxRecDepth 100000 in
theorem walk8 {w : World} {v u : Value} {P : Int} {js : List J} {os : List (Int × Int)} {xs : List Int} (h : InSh w v P js os) (hx : InRow w u xs) :
    Calls Try.prog 8 #[v, u] w fun e w' => e = .returned (.bool true) ∧ Below w.heap.size w w' := by
  have hfw := fun (W : World) (hb : Below w.heap.size w W) => few15 (w := W) (v := v) (P := P) (js := js) (os := os) (by
    obtain ⟨jv, ov, e, h1, h2, h3, h4⟩ := h
    exact ⟨jv, ov, e, h1.below hb, h2.below hb, h3, h4⟩)
  obtain ⟨jv, ov, rfl, hj, ho, hjm, hom⟩ := h
  obtain ⟨ja, jn, jc, rfl⟩ : ∃ a n c, jv = .slice a n c := by obtain ⟨_, a, c, e, _⟩ := hj; exact ⟨_, _, _, e⟩
  obtain ⟨oa, om, oc, rfl⟩ : ∃ a n c, ov = .slice a n c := by obtain ⟨_, a, c, e, _⟩ := ho; exact ⟨_, _, _, e⟩
  have hxf := hx.flat
  have hxm := hx.2.1
  unfold maxLen at hxm
  obtain ⟨n, hn⟩ : ∃ n, n = xs.length := ⟨_, rfl⟩
  rw [← hn] at hxf hxm
  obtain ⟨xa, xc, rfl, hxc⟩ : ∃ a c, u = .slice a n c ∧ n ≤ c := by obtain ⟨_, a, c, e, h, _⟩ := hxf; exact ⟨a, c, e, h⟩
  obtain ⟨q, hq⟩ : ∃ q, q = min n 7 := ⟨_, rfl⟩
  have hxt := Lib.hid (hxf.take (m := q) (by omega))
  rw [Nat.mul_one, ← List.map_take, show xs.take q = xs.take 7 by rw [hq, hn, List.take_eq_take_min (i := 7), Nat.min_comm]] at hxt
  have hql := Lib.hid (show (xs.take 7).length = q by rw [List.length_take, hq, hn]; exact Nat.min_comm _ _)
  have hq7 : (if (7 : Int) < (n : Int) then 7 else (n : Int)) = (q : Int) := by split <;> omega
  have hq7' : min (n : Int) 7 = (q : Int) := by omega
  have hqc : (q : Int) ≤ (xc : Int) := by omega
  have hqn : q ≤ 7 := by omega
  have hn' := Lib.hid hn
  obtain ⟨iI, hiI, hI0, hI1, hI2⟩ := info_parts info3
  have hone := Lib.hid (one_ints (xs.take 7))
  have hfw' := Lib.hid hfw
  clear hj ho hjm hom hx hxf hfw hn hq
  go_enter Try.func8, Try.ntmps8
  go_wp2_with fail
  obtain ⟨W, hW⟩ : ∃ W, W = w.alloc (Obj.cells #[Value.int IntKind.i64 P, Value.slice ja jn jc, Value.slice oa om oc] 25) := ⟨_, rfl⟩
  rw [← hW]
  have c0 : W.cell? ⟨w.heap.size, 0, none⟩ = some (.int .i64 P) := by rw [hW]; rw [World.cell?_alloc_at (hn := rfl)]; rfl
  have c1 : W.cell? ⟨w.heap.size, 1, none⟩ = some (.slice ja jn jc) := by rw [hW]; rw [World.cell?_alloc_at (hn := rfl)]; rfl
  have c2 : W.cell? ⟨w.heap.size, 2, none⟩ = some (.slice oa om oc) := by rw [hW]; rw [World.cell?_alloc_at (hn := rfl)]; rfl
  have hWb : Below w.heap.size w W := by rw [hW]; exact below_alloc1 _ _
  have hWs : W.heap.size = w.heap.size + 1 := by rw [hW]; simp
  obtain ⟨b1, hb1⟩ : ∃ b1, b1 = w.heap.size := ⟨_, rfl⟩
  rw [← hb1] at c0 c1 c2 hWs ⊢
  obtain ⟨B0, hB0⟩ : ∃ B0, B0 = W.heap.size := ⟨_, rfl⟩
  have hsW : B0 ≤ W.heap.size := Nat.le_of_eq hB0
  have hb12 : b1 < B0 := by omega
  have hbB := Lib.hid (show w.heap.size ≤ B0 by omega)
  have hfew := Lib.hid (fun (V : World) (hb : Below B0 W V) => hfw'.out V (hWb.trans (hb.mono hbB.out)))
  have hxs := Lib.hid (fun (V : World) (hb : Below B0 W V) => hxt.out.below (hWb.trans (hb.mono hbB.out)))
  have hb1' := Lib.hid hb1
  have hWb' := Lib.hid hWb
  have hB0' := Lib.hid hB0
  clear hW hWb hb1 hWs hB0
  go_cut [5, 6] from 11 to 19 (fun p q wx => ∃ w4 : World, w4 = wx ∧ Cut1 w P js os xs p q w4)
  case rest =>
    obtain ⟨w4, rfl, b, ja', jc', oa', oc', rfl, hb, hT, hbw, oj, oo, oI, hbe⟩ := hcut
    obtain ⟨js', hjs⟩ : ∃ x, x = js.take 7 := ⟨_, rfl⟩
    obtain ⟨os', hos⟩ : ∃ x, x = os.take 21 := ⟨_, rfl⟩
    obtain ⟨xs', hxs'⟩ : ∃ x, x = xs.take 7 := ⟨_, rfl⟩
    rw [← hjs] at hT oj
    rw [← hos] at hT oo
    rw [← hxs'] at oI
    have h7 := Lib.hid (show js'.length ≤ 7 by rw [hjs, List.length_take]; omega)
    have h21 := Lib.hid (show os'.length ≤ 21 by rw [hos, List.length_take]; omega)
    have hx7 : xs'.length ≤ 7 := by rw [hxs', List.length_take]; omega
    have hsh := Lib.hid (fun (W : World) (hb : Below w4.heap.size w4 W) => (show ShV W (.agg #[.int .i64 P, .slice ja' js'.length jc', .slice oa' os'.length oc']) P js' os' from ⟨_, _, rfl, oj.reads.below hb, oo.reads.below hb⟩))
    have hxr := oI.shape
    obtain ⟨qa, qc, rfl, hqc'⟩ := hxr.len
    obtain ⟨jl, hjl⟩ : ∃ x, x = js'.length := ⟨_, rfl⟩
    obtain ⟨ol, hol⟩ : ∃ x, x = os'.length := ⟨_, rfl⟩
    obtain ⟨ql, hql2⟩ : ∃ x, x = xs'.length := ⟨_, rfl⟩
    rw [← hjl] at hT hsh
    rw [← hol] at hT hsh
    rw [← hql2] at hxr hx7 hqc' ⊢
    have hxat := Lib.hid (fun (k : Nat) (hk : k < ql) => hxr.at hql2.symm hk)
    have hx' := Lib.hid hxr
    have hT' := Lib.hid hT
    have hbw' := Lib.hid hbw
    have hbe' := Lib.hid hbe
    have hjl' := Lib.hid hjl
    have hql' := Lib.hid hql2
    have hlen := Lib.hid (show xs'.length ≤ 1000000 by omega)
    obtain ⟨⟨z0, z1, z2⟩, -⟩ := hT
    clear hjs hos hxs' hxr hbe hjl hol hql2 oj oo oI hb
    cases hv : validB P js' os' with
    | false =>
      have hL := Lib.hid (loadBad (hsh.out w4 (Below.refl _ _)) h7.out h21.out hx'.out hlen.out (err := 1) (.inl ⟨hv, rfl⟩))
      have hV := Lib.hid (fun (W : World) (hb : Below w4.heap.size w4 W) => valid17' (hsh.out W hb) h7.out h21.out hv)
      clear hv hbw
      go_wp2_with (
          first
          | (go_at_call 33; refine (hL.out).mono ?_; rintro e w5 ⟨pa, pc, rfl, hb5⟩
             have hb5' := Lib.hid hb5
             have hbe5 := Lib.hid (below_call hbe'.out hb5)
             obtain ⟨⟨y0, y1, y2⟩, -⟩ := hT'.out.keep hb5 hbw'.out
             have hV5 := Lib.hid (hV.out _ hb5)
             clear hb5)
          | (go_at_call 17; refine (hV5.out).mono ?_; rintro e w6 ⟨rfl, hb6⟩
             have hb6' := Lib.hid (below_call hbe5.out hb6)
             obtain ⟨⟨y0, y1, y2⟩, -⟩ := hT'.out.keep (below_call hb5'.out hb6) hbw'.out
             clear hb6))
      go_loopw [9, 10] (fun bv iv wr => bv = .int .i64 1 ∧ iv = .int .i64 0 ∧ w6 = wr) (fun _ _ _ => 0)
      case atStart => exact ⟨rfl, rfl, rfl⟩
      case round =>
        obtain ⟨rfl, rfl, rfl⟩ := hrel
        have hl6 := Lib.hid (lives18 (w := w6))
        by_cases h0 : 0 < ql
        · go_wp2_with (go_at_call 18; refine (hl6.out).mono ?_; rintro e w7 ⟨rfl, hb7⟩; have hb7' := Lib.hid (below_call hb6'.out hb7); clear hb7)
          go_ret
          exact ⟨rfl, hb7'.out⟩
        · obtain rfl : ql = 0 := by omega
          go_wp2_with (go_at_call 18; refine (hl6.out).mono ?_; rintro e w7 ⟨rfl, hb7⟩; have hb7' := Lib.hid (below_call hb6'.out hb7); clear hb7)
          go_ret
          exact ⟨rfl, hb7'.out⟩
    | true =>
      have hV := Lib.hid (fun (W : World) (hb : Below w4.heap.size w4 W) => valid17' (hsh.out W hb) h7.out h21.out hv)
      by_cases hjq : ql = jl
      · have hjl2 := Lib.hid (show xs'.length = js'.length by rw [← hql'.out, ← hjl'.out]; exact hjq)
        have hnt : ((ql : Int) != (jl : Int)) = false := by simp; omega
        have hjq' := Lib.hid hjq
        clear hjq hbw
        cases ha : xs'.any outB with
        | true =>
          have hL := Lib.hid (loadBad (hsh.out w4 (Below.refl _ _)) h7.out h21.out hx'.out hlen.out (err := 2) (.inr ⟨hv, .inr ha, rfl⟩))
          have ha' := Lib.hid ha
          clear hv ha
          go_wp2_with (
            first
            | (go_at_call 33; refine (hL.out).mono ?_; rintro e w5 ⟨pa, pc, rfl, hb5⟩
               have hb5' := Lib.hid hb5
               have hbe5 := Lib.hid (below_call hbe'.out hb5)
               obtain ⟨⟨y0, y1, y2⟩, -⟩ := hT'.out.keep hb5 hbw'.out
               have hV5 := Lib.hid (hV.out _ hb5)
               clear hb5)
            | (go_at_call 17; refine (hV5.out).mono ?_; rintro e w6 ⟨rfl, hb6⟩
               have hb6' := Lib.hid (below_call hbe5.out hb6)
               have hbx := Lib.hid (below_call hb5'.out hb6)
               have hT6 := Lib.hid (hT'.out.keep hbx.out hbw'.out)
               have hbw6 := Lib.hid (Nat.lt_of_lt_of_le hbw'.out hbx.out.size)
               obtain ⟨⟨y0, y1, y2⟩, -⟩ := hT6.out
               clear hb6))
          go_loopw [9, 10] (fun bv iv wr => ∃ i : Nat, i ≤ ql ∧ iv = .int .i64 i ∧ w6 = wr ∧ ((bv = .int .i64 0 ∧ Hid ((xs'.take i).any outB = false)) ∨ (bv = .int .i64 2 ∧ Hid (xs'.any outB = true)))) (fun _ iv _ => ql - (intOf iv).toNat)
          case atStart => exact ⟨0, Nat.zero_le _, rfl, rfl, .inl ⟨rfl, Lib.hid rfl⟩⟩
          case round =>
            obtain ⟨i, hi, rfl, rfl, hc⟩ := hrel
            rcases hc with ⟨rfl, hany⟩ | ⟨rfl, hany⟩
            · by_cases hin : i < ql
              · obtain ⟨g, o, rfl, hg, hcell⟩ := hxat.out i hin
                have c := (hbx.out.cell (p := ⟨g, o + i, none⟩) hg).trans (hcell i hin)
                have hno := Lib.hid (fun (h : outB (xs'.getD i 0) = false) => any_take hany.out (by rw [← hql'.out]; exact hin) h)
                have hyes := Lib.hid (fun (h : outB (xs'.getD i 0) = true) => any_at (xs := xs') (by rw [← hql'.out]; exact hin) h)
                obtain ⟨x, hx⟩ : ∃ x, x = xs'.getD i 0 := ⟨_, rfl⟩
                rw [← hx] at c hno hyes
                have hinI : (i : Int) < (ql : Int) := by omega
                clear hx hcell hg
                by_cases c1 : x < 0
                · have hy := Lib.hid (hyes.out (by unfold outB; simp [c1]))
                  go_wp2_with fail
                  go_roundw
                  case rel => exact ⟨i + 1, by omega, by go_num, trivial, .inr ⟨rfl, hy⟩⟩
                  case measure => simp [intOf]; omega
                · have c1' : decide (x < 0) = false := by simpa using c1
                  by_cases c2 : 24 < x
                  · have hy := Lib.hid (hyes.out (by unfold outB; simp [c2]))
                    go_wp2_with fail
                    go_roundw
                    case rel => exact ⟨i + 1, by omega, by go_num, trivial, .inr ⟨rfl, hy⟩⟩
                    case measure => simp [intOf]; omega
                  · have hn := Lib.hid (hno.out (by unfold outB; simp [c1, c2]))
                    go_wp2_with fail
                    go_roundw
                    case rel => exact ⟨i + 1, by omega, by go_num, trivial, .inl ⟨rfl, hn⟩⟩
                    case measure => simp [intOf]; omega
              · obtain rfl : i = ql := by omega
                exact absurd ha'.out (by have h := hany.out; rw [List.take_of_length_le (by rw [← hql'.out]; exact Nat.le_refl _)] at h; rw [h]; decide)
            · have hl6 := Lib.hid (lives18 (w := w6))
              by_cases hin : i < ql
              · have hinI : (i : Int) < (ql : Int) := by omega
                go_wp2_with (go_at_call 18; refine (hl6.out).mono ?_; rintro e w7 ⟨rfl, hb7⟩; have hb7' := Lib.hid (below_call hb6'.out hb7); clear hb7)
                go_ret
                exact ⟨rfl, hb7'.out⟩
              · obtain rfl : i = ql := by omega
                go_wp2_with (go_at_call 18; refine (hl6.out).mono ?_; rintro e w7 ⟨rfl, hb7⟩; have hb7' := Lib.hid (below_call hb6'.out hb7); clear hb7)
                go_ret
                exact ⟨rfl, hb7'.out⟩
        | false =>
          have hL := Lib.hid (loadOk (hsh.out w4 (Below.refl _ _)) h7.out h21.out hx'.out hlen.out hv hjl2.out ha)
          have ha' := Lib.hid ha
          have hval := Lib.hid (valid_sh hv).1
          have hlen24 := Lib.hid (show (loadL (shOf P js' os') fun i => xs'.getD i 0).length = 24 from tab_len _ _)
          clear ha hv
          go_wp2_with (
            first
            | (go_at_call 33; refine (hL.out).mono ?_; rintro e w5 ⟨pa, pc, rfl, hr5, hb5⟩
               have hb5' := Lib.hid hb5
               have hbe5 := Lib.hid (below_call hbe'.out hb5)
               obtain ⟨⟨y0, y1, y2⟩, -⟩ := hT'.out.keep hb5 hbw'.out
               have hV5 := Lib.hid (hV.out _ hb5)
               have hr5' := Lib.hid hr5
               clear hb5 hr5)
            | (go_at_call 17; refine (hV5.out).mono ?_; rintro e w6 ⟨rfl, hb6⟩
               have hb6' := Lib.hid (below_call hbe5.out hb6)
               have hbx := Lib.hid (below_call hb5'.out hb6)
               have hT6 := Lib.hid (hT'.out.keep hbx.out hbw'.out)
               have hbw6 := Lib.hid (Nat.lt_of_lt_of_le hbw'.out hbx.out.size)
               obtain ⟨⟨y0, y1, y2⟩, -⟩ := hT6.out
               have hp6 := Lib.hid (hr5'.out.below hb6)
               clear hb6))
          go_loopw [9, 10] (fun bv iv wr => ∃ i : Nat, i ≤ ql ∧ iv = .int .i64 i ∧ w6 = wr ∧ ((bv = .int .i64 0 ∧ Hid ((xs'.take i).any outB = false)) ∨ (bv = .int .i64 2 ∧ Hid (xs'.any outB = true)))) (fun _ iv _ => ql - (intOf iv).toNat)
          case atStart => exact ⟨0, Nat.zero_le _, rfl, rfl, .inl ⟨rfl, Lib.hid rfl⟩⟩
          case round =>
            obtain ⟨i, hi, rfl, rfl, hc⟩ := hrel
            rcases hc with ⟨rfl, hany⟩ | ⟨rfl, hany⟩
            · by_cases hin : i < ql
              · obtain ⟨g, o, rfl, hg, hcell⟩ := hxat.out i hin
                have c := (hbx.out.cell (p := ⟨g, o + i, none⟩) hg).trans (hcell i hin)
                have hno := Lib.hid (fun (h : outB (xs'.getD i 0) = false) => any_take hany.out (by rw [← hql'.out]; exact hin) h)
                have hyes := Lib.hid (fun (h : outB (xs'.getD i 0) = true) => any_at (xs := xs') (by rw [← hql'.out]; exact hin) h)
                obtain ⟨x, hx⟩ : ∃ x, x = xs'.getD i 0 := ⟨_, rfl⟩
                rw [← hx] at c hno hyes
                have hinI : (i : Int) < (ql : Int) := by omega
                clear hx hcell hg
                by_cases c1 : x < 0
                · have hy := Lib.hid (hyes.out (by unfold outB; simp [c1]))
                  go_wp2_with fail
                  go_roundw
                  case rel => exact ⟨i + 1, by omega, by go_num, trivial, .inr ⟨rfl, hy⟩⟩
                  case measure => simp [intOf]; omega
                · have c1' : decide (x < 0) = false := by simpa using c1
                  by_cases c2 : 24 < x
                  · have hy := Lib.hid (hyes.out (by unfold outB; simp [c2]))
                    go_wp2_with fail
                    go_roundw
                    case rel => exact ⟨i + 1, by omega, by go_num, trivial, .inr ⟨rfl, hy⟩⟩
                    case measure => simp [intOf]; omega
                  · have hn := Lib.hid (hno.out (by unfold outB; simp [c1, c2]))
                    go_wp2_with fail
                    go_roundw
                    case rel => exact ⟨i + 1, by omega, by go_num, trivial, .inl ⟨rfl, hn⟩⟩
                    case measure => simp [intOf]; omega
              · obtain rfl : i = ql := by omega
                have hV0 := hval.out
                have hld := Lib.hid (refLoad34 (w := w6) (s := shOf P js' os') (os := os') hV0.loose (hsh.out w6 hbx.out) (hx'.out.below hbx.out) (by show xs'.length = js'.length; exact hjl2.out) (fun j hj => any_in ha'.out (by have h1 := hjl2.out; have h3 : (shOf P js' os').n = js'.length := rfl; omega)))
                go_wp2_with (
                  first
                  | (go_at_call 34; refine (hld.out).mono ?_; rintro e w7 ⟨lv, rfl, hI7, hb7⟩
                     have hb7' := Lib.hid (below_call hb6'.out hb7)
                     obtain ⟨la, lc, rfl, -⟩ := hI7.shape.len
                     have hsm := Lib.hid (same25 (hp6.out.below hb7) hI7.shape (by rw [hlen24.out]; omega))
                     rw [sameL_self] at hsm
                     clear hI7 hb7)
                  | (go_at_call 25; refine (hsm.out).mono ?_; rintro e w8 ⟨rfl, hb8⟩
                     have hb8' := Lib.hid (below_call hb7'.out hb8)
                     have hl8 := Lib.hid (lives18 (w := w8))
                     clear hb8)
                  | (go_at_call 18; refine (hl8.out).mono ?_; rintro e w9 ⟨rfl, hb9⟩; have hb9' := Lib.hid (below_call hb8'.out hb9); clear hb9))
                go_ret
                exact ⟨rfl, hb9'.out⟩
            · exact absurd hany.out (by rw [ha'.out]; decide)
      · have hL := Lib.hid (loadBad (hsh.out w4 (Below.refl _ _)) h7.out h21.out hx'.out hlen.out (err := 2) (.inr ⟨hv, .inl (by rw [← hql'.out, ← hjl'.out]; exact hjq), rfl⟩))
        have hnt : ((ql : Int) != (jl : Int)) = true := by simp; omega
        have hjq' := Lib.hid hjq
        clear hv hbw hjq
        go_wp2_with (
            first
            | (go_at_call 33; refine (hL.out).mono ?_; rintro e w5 ⟨pa, pc, rfl, hb5⟩
               have hb5' := Lib.hid hb5
               have hbe5 := Lib.hid (below_call hbe'.out hb5)
               obtain ⟨⟨y0, y1, y2⟩, -⟩ := hT'.out.keep hb5 hbw'.out
               have hV5 := Lib.hid (hV.out _ hb5)
               clear hb5)
            | (go_at_call 17; refine (hV5.out).mono ?_; rintro e w6 ⟨rfl, hb6⟩
               have hb6' := Lib.hid (below_call hbe5.out hb6)
               obtain ⟨⟨y0, y1, y2⟩, -⟩ := hT'.out.keep (below_call hb5'.out hb6) hbw'.out
               clear hb6))
        go_loopw [9, 10] (fun bv iv wr => bv = .int .i64 2 ∧ iv = .int .i64 0 ∧ w6 = wr) (fun _ _ _ => 0)
        case atStart => exact ⟨rfl, rfl, rfl⟩
        case round =>
          obtain ⟨rfl, rfl, rfl⟩ := hrel
          have hl6 := Lib.hid (lives18 (w := w6))
          by_cases h0 : 0 < ql
          · go_wp2_with (go_at_call 18; refine (hl6.out).mono ?_; rintro e w7 ⟨rfl, hb7⟩; have hb7' := Lib.hid (below_call hb6'.out hb7); clear hb7)
            go_ret
            exact ⟨rfl, hb7'.out⟩
          · obtain rfl : ql = 0 := by omega
            go_wp2_with (go_at_call 18; refine (hl6.out).mono ?_; rintro e w7 ⟨rfl, hb7⟩; have hb7' := Lib.hid (below_call hb6'.out hb7); clear hb7)
            go_ret
            exact ⟨rfl, hb7'.out⟩
  case first =>
    refine wp_region_noPanic ?_
    refine wp_region_any (by kernel_rfl) (wpAny_of_held (S := fun w' => Below B0 W w') _ _ _ _ ?_)
    have hHeld : Below B0 W W.drew := (Below.refl _ _).drew
    change wpAnyH _ _ _ _ _ _ _ _ W.drew
    simp only [List.size_toArray, List.length_cons, List.length_nil, Nat.reduceAdd, Array.replicate_succ, Array.replicate_zero, List.push_toArray, List.nil_append, List.cons_append]
    refine wpAnyH_take (i := 0) (v := .agg #[.int .i64 P, .slice ja jn jc, .slice oa om oc]) rfl (by kernel_rfl) (by kernel_rfl) (by kernel_rfl) (fun _ _ _ h => h) (Or.inl ⟨by rfl, ?_⟩) hHeld ?_
    · intro w' hSw; have a0 := (hSw.cell (p := ⟨b1, 0, none⟩) hb12).trans c0; have a1 := (hSw.cell (p := ⟨b1, 1, none⟩) hb12).trans c1; have a2 := (hSw.cell (p := ⟨b1, 2, none⟩) hb12).trans c2; go_simp
    simp only [Act.put, List.setIfInBounds_toArray, List.set_cons_zero, List.set_cons_succ, List.getElem_toArray, List.getElem_cons_zero]
    refine wpAnyH_take (i := 3) (v := .slice xa n xc) rfl (by kernel_rfl) (by kernel_rfl) (by kernel_rfl) (fun _ _ _ h => h) (Or.inl ⟨by rfl, ?_⟩) hHeld ?_
    · intro w' hSw; go_simp
    simp only [Act.put, List.setIfInBounds_toArray, List.set_cons_zero, List.set_cons_succ, List.getElem_toArray, List.getElem_cons_succ, List.getElem_cons_zero]
    refine wpAnyH_take (i := 4) (v := .slice xa n xc) rfl (by kernel_rfl) (by kernel_rfl) (by kernel_rfl) (fun _ _ _ h => h) (Or.inl ⟨by rfl, ?_⟩) hHeld ?_
    · intro w' hSw; go_simp
    simp only [Act.put, List.setIfInBounds_toArray, List.set_cons_zero, List.set_cons_succ, List.getElem_toArray, List.getElem_cons_succ, List.getElem_cons_zero]
    refine wpAnyH_take (i := 5) (v := .int .i64 n) rfl (by kernel_rfl) (by kernel_rfl) (by kernel_rfl) (fun _ _ _ h => h) (Or.inl ⟨by rfl, ?_⟩) hHeld ?_
    · intro w' hSw; go_simp
    simp only [Act.put, List.setIfInBounds_toArray, List.set_cons_zero, List.set_cons_succ, List.getElem_toArray, List.getElem_cons_succ, List.getElem_cons_zero]
    refine wpAnyH_take (i := 6) (v := .int .i64 q) rfl (by kernel_rfl) (by kernel_rfl) (by kernel_rfl) (fun _ _ _ h => h) (Or.inl ⟨by rfl, ?_⟩) hHeld ?_
    · intro w' hSw; go_simp
    simp only [Act.put, List.setIfInBounds_toArray, List.set_cons_zero, List.set_cons_succ, List.getElem_toArray, List.getElem_cons_succ, List.getElem_cons_zero]
    refine wpAnyH_take (i := 7) (v := .slice xa q xc) rfl (by kernel_rfl) (by kernel_rfl) (by kernel_rfl) (fun _ _ _ h => h) (Or.inl ⟨by rfl, ?_⟩) hHeld ?_
    · intro w' hSw; go_simp
    simp only [Act.put, List.setIfInBounds_toArray, List.set_cons_zero, List.set_cons_succ, List.getElem_toArray, List.getElem_cons_succ, List.getElem_cons_zero]
    refine wpAnyH_ready (rs := [1, 2, 9]) (by kernel_rfl) (by simp) ?_
    refine AllReadyH.cons rfl (fun K hK => ?_) (AllReadyH.cons rfl (fun K hK => ?_) (AllReadyH.cons rfl (fun K hK => ?_) AllReadyH.nil))
    · have hV := Lib.hid (hfew.out W.drew (Below.refl _ _).drew)
      go_simp
      refine hV.out.mono ?_
      rintro e w1 ⟨jvw1, ovw1, rfl, oj, oo, hbc⟩
      have halw1 : Below B0 W w1 := ((Below.refl _ _).drew).trans (hbc.mono hsW)
      have fJw1 := own_base oj (show B0 ≤ _ from hsW)
      have fOw1 := own_base oo (show B0 ≤ _ from hsW)
      refine hK.out _ _ halw1 (fun hHeld => ?_)
      clear hK K halw1 oj oo hbc hV
      simp only [List.setIfInBounds_toArray, List.set_cons_zero, List.set_cons_succ]
      have hsw1 : B0 ≤ w1.heap.size := Nat.le_trans hsW hHeld.size
      refine wpAnyH_ready (rs := [2, 9]) (by kernel_rfl) (by simp) ?_
      refine AllReadyH.cons rfl (fun K hK => ?_) (AllReadyH.cons rfl (fun K hK => ?_) AllReadyH.nil)
      · have halw2 : Below B0 W (w1.alloc (.cells #[] 3)) := ((hHeld).alloc hsw1 _)
        have fIw2 := lit_own w1 B0 w1.heap.size 1 3 hsw1 rfl
        have fJw2 := own_alloc fJw1 (.cells #[] 3)
        have fOw2 := own_alloc fOw1 (.cells #[] 3)
        go_simp
        refine hK.out _ _ halw2 (fun hHeld => ?_)
        clear hK K halw2
        simp only [List.setIfInBounds_toArray, List.set_cons_zero, List.set_cons_succ]
        change Below B0 W (w1.alloc (.cells #[] 3)) at hHeld
        change wpAnyH _ _ _ _ _ _ _ _ (w1.alloc (.cells #[] 3))
        obtain ⟨w2, hqw2⟩ : ∃ x, x = w1.alloc (.cells #[] 3) := ⟨_, rfl⟩
        rw [← hqw2] at hHeld fIw2 fJw2 fOw2 ⊢
        clear hqw2
        obtain ⟨g3, hqg3⟩ : ∃ x, x = w1.heap.size := ⟨_, rfl⟩
        rw [← hqg3] at fIw2 ⊢
        clear hqg3
        have hsw2 : B0 ≤ w2.heap.size := Nat.le_trans hsW hHeld.size
        refine wpAnyH_ready (rs := [8, 9]) (by kernel_rfl) (by simp) ?_
        refine AllReadyH.cons rfl (fun K hK => ?_) (AllReadyH.cons rfl (fun K hK => ?_) AllReadyH.nil)
        · refine step_flat Try.underlying26 hiI hI0 hI1 hI2 rfl (by decide) (by decide) rfl (.tmp 13) (.tmp 18) rfl fIw2 (by simp [Act.eval]) (by simp [Act.eval]) (hxs.out w2 hHeld) hone.out (by omega) hsw2 ?_
          intro lv5 w4 fIw4 hbq hkp
          simp only [Nat.zero_add, List.nil_append] at fIw4
          have fJw4 := hkp _ _ _ _ _ _ (by decide) fJw2
          have fOw4 := hkp _ _ _ _ _ _ (by decide) fOw2
          refine hK.out _ _ (hHeld.trans hbq) (fun hHeld => ?_)
          clear hK K hbq hkp
          simp only [Act.put, List.setIfInBounds_toArray, List.set_cons_zero, List.set_cons_succ, List.getElem_toArray, List.getElem_cons_succ, List.getElem_cons_zero]
          have hsw4 : B0 ≤ w4.heap.size := Nat.le_trans hsW hHeld.size
          refine wpAnyH_ready (rs := [9]) (by kernel_rfl) (by simp) ?_
          refine AllReadyH.cons rfl (fun K hK => ?_) AllReadyH.nil
          have halw6 : Below B0 W (w4.alloc (.cells #[.int .i64 0, .slice none 0 0, .slice none 0 0] 25)) := ((hHeld).alloc hsw4 _)
          have fTw6 := own_struct w4 B0 (.int .i64 0) (.slice none 0 0) (.slice none 0 0) hsw4
          have fIw6 := own_alloc fIw4 (.cells #[.int .i64 0, .slice none 0 0, .slice none 0 0] 25)
          have fJw6 := own_alloc fJw4 (.cells #[.int .i64 0, .slice none 0 0, .slice none 0 0] 25)
          have fOw6 := own_alloc fOw4 (.cells #[.int .i64 0, .slice none 0 0, .slice none 0 0] 25)
          go_simp
          refine hK.out _ _ halw6 (fun hHeld => ?_)
          clear hK K halw6
          simp only [List.setIfInBounds_toArray, List.set_cons_zero, List.set_cons_succ]
          change Below B0 W (w4.alloc (.cells #[.int .i64 0, .slice none 0 0, .slice none 0 0] 25)) at hHeld
          change wpAnyH _ _ _ _ _ _ _ _ (w4.alloc (.cells #[.int .i64 0, .slice none 0 0, .slice none 0 0] 25))
          obtain ⟨w6, hqw6⟩ : ∃ x, x = w4.alloc (.cells #[.int .i64 0, .slice none 0 0, .slice none 0 0] 25) := ⟨_, rfl⟩
          rw [← hqw6] at hHeld fTw6 fIw6 fJw6 fOw6 ⊢
          clear hqw6
          obtain ⟨g7, hqg7⟩ : ∃ x, x = w4.heap.size := ⟨_, rfl⟩
          rw [← hqg7] at fTw6 ⊢
          clear hqg7
          have hsw6 : B0 ≤ w6.heap.size := Nat.le_trans hsW hHeld.size
          obtain ⟨ja', jl, jc', rfl, -⟩ := own_len fJw6
          obtain ⟨oa', ol, oc', rfl, -⟩ := own_len fOw6
          have hgt := (World.ownsRow.lt fTw6 g7 rfl).1
          have hfin := Lib.hid (cut1_end (P := P) hWb'.out hbB.out hHeld hgt hql.out fJw6 fOw6 fIw6 fTw6)
          refine wpAnyH_ready (rs := [10]) (by kernel_rfl) (by simp) ?_
          refine AllReadyH.cons rfl (fun K hK => ?_) AllReadyH.nil
          refine wp_store_mid 25 (.tmp 5) (.tmp 12) rfl g7 0 [.int .i64 P, .slice ja' jl jc', .slice oa' ol oc'].toArray (by rfl) (by rfl) (struct_there fTw6) (by kernel_rfl) one3 ?_
          refine hK.out _ _ hfin.out.2 (fun hHeld => ?_)
          clear hK K
          simp only [Act.put, List.setIfInBounds_toArray, List.set_cons_zero, List.set_cons_succ, List.getElem_toArray, List.getElem_cons_succ, List.getElem_cons_zero]
          refine wpAnyH_ready (rs := [11]) (by kernel_rfl) (by simp) ?_
          refine AllReadyH.cons rfl (fun K hK => ?_) AllReadyH.nil
          go_simp
          refine hK.out _ _ hfin.out.2 (fun hHeld => ?_)
          clear hK K
          simp only [List.setIfInBounds_toArray, List.set_cons_zero, List.set_cons_succ]
          refine wpAnyH_done (by kernel_rfl) ?_ _
          refine NoPanic.normal ?_
          go_wp2_with fail
          go_meet
          exact ⟨_, rfl, hfin.out.1⟩
        · have halw8 : Below B0 W (w2.alloc (.cells #[.int .i64 0, .slice none 0 0, .slice none 0 0] 25)) := ((hHeld).alloc hsw2 _)
          have fTw8 := own_struct w2 B0 (.int .i64 0) (.slice none 0 0) (.slice none 0 0) hsw2
          have fIw8 := own_alloc fIw2 (.cells #[.int .i64 0, .slice none 0 0, .slice none 0 0] 25)
          have fJw8 := own_alloc fJw2 (.cells #[.int .i64 0, .slice none 0 0, .slice none 0 0] 25)
          have fOw8 := own_alloc fOw2 (.cells #[.int .i64 0, .slice none 0 0, .slice none 0 0] 25)
          go_simp
          refine hK.out _ _ halw8 (fun hHeld => ?_)
          clear hK K halw8
          simp only [List.setIfInBounds_toArray, List.set_cons_zero, List.set_cons_succ]
          change Below B0 W (w2.alloc (.cells #[.int .i64 0, .slice none 0 0, .slice none 0 0] 25)) at hHeld
          change wpAnyH _ _ _ _ _ _ _ _ (w2.alloc (.cells #[.int .i64 0, .slice none 0 0, .slice none 0 0] 25))
          obtain ⟨w8, hqw8⟩ : ∃ x, x = w2.alloc (.cells #[.int .i64 0, .slice none 0 0, .slice none 0 0] 25) := ⟨_, rfl⟩
          rw [← hqw8] at hHeld fTw8 fIw8 fJw8 fOw8 ⊢
          clear hqw8
          obtain ⟨g9, hqg9⟩ : ∃ x, x = w2.heap.size := ⟨_, rfl⟩
          rw [← hqg9] at fTw8 ⊢
          clear hqg9
          have hsw8 : B0 ≤ w8.heap.size := Nat.le_trans hsW hHeld.size
          refine wpAnyH_ready (rs := [8]) (by kernel_rfl) (by simp) ?_
          refine AllReadyH.cons rfl (fun K hK => ?_) AllReadyH.nil
          refine step_flat Try.underlying26 hiI hI0 hI1 hI2 rfl (by decide) (by decide) rfl (.tmp 13) (.tmp 18) rfl fIw8 (by simp [Act.eval]) (by simp [Act.eval]) (hxs.out w8 hHeld) hone.out (by omega) hsw8 ?_
          intro lv11 w10 fIw10 hbq hkp
          simp only [Nat.zero_add, List.nil_append] at fIw10
          have fTw10 := hkp _ _ _ _ _ _ (by decide) fTw8
          have fJw10 := hkp _ _ _ _ _ _ (by decide) fJw8
          have fOw10 := hkp _ _ _ _ _ _ (by decide) fOw8
          refine hK.out _ _ (hHeld.trans hbq) (fun hHeld => ?_)
          clear hK K hbq hkp
          simp only [Act.put, List.setIfInBounds_toArray, List.set_cons_zero, List.set_cons_succ, List.getElem_toArray, List.getElem_cons_succ, List.getElem_cons_zero]
          have hsw10 : B0 ≤ w10.heap.size := Nat.le_trans hsW hHeld.size
          obtain ⟨ja', jl, jc', rfl, -⟩ := own_len fJw10
          obtain ⟨oa', ol, oc', rfl, -⟩ := own_len fOw10
          have hgt := (World.ownsRow.lt fTw10 g9 rfl).1
          have hfin := Lib.hid (cut1_end (P := P) hWb'.out hbB.out hHeld hgt hql.out fJw10 fOw10 fIw10 fTw10)
          refine wpAnyH_ready (rs := [10]) (by kernel_rfl) (by simp) ?_
          refine AllReadyH.cons rfl (fun K hK => ?_) AllReadyH.nil
          refine wp_store_mid 25 (.tmp 5) (.tmp 12) rfl g9 0 [.int .i64 P, .slice ja' jl jc', .slice oa' ol oc'].toArray (by rfl) (by rfl) (struct_there fTw10) (by kernel_rfl) one3 ?_
          refine hK.out _ _ hfin.out.2 (fun hHeld => ?_)
          clear hK K
          simp only [Act.put, List.setIfInBounds_toArray, List.set_cons_zero, List.set_cons_succ, List.getElem_toArray, List.getElem_cons_succ, List.getElem_cons_zero]
          refine wpAnyH_ready (rs := [11]) (by kernel_rfl) (by simp) ?_
          refine AllReadyH.cons rfl (fun K hK => ?_) AllReadyH.nil
          go_simp
          refine hK.out _ _ hfin.out.2 (fun hHeld => ?_)
          clear hK K
          simp only [List.setIfInBounds_toArray, List.set_cons_zero, List.set_cons_succ]
          refine wpAnyH_done (by kernel_rfl) ?_ _
          refine NoPanic.normal ?_
          go_wp2_with fail
          go_meet
          exact ⟨_, rfl, hfin.out.1⟩
      · have halw12 : Below B0 W (w1.alloc (.cells #[.int .i64 0, .slice none 0 0, .slice none 0 0] 25)) := ((hHeld).alloc hsw1 _)
        have fTw12 := own_struct w1 B0 (.int .i64 0) (.slice none 0 0) (.slice none 0 0) hsw1
        have fJw12 := own_alloc fJw1 (.cells #[.int .i64 0, .slice none 0 0, .slice none 0 0] 25)
        have fOw12 := own_alloc fOw1 (.cells #[.int .i64 0, .slice none 0 0, .slice none 0 0] 25)
        go_simp
        refine hK.out _ _ halw12 (fun hHeld => ?_)
        clear hK K halw12
        simp only [List.setIfInBounds_toArray, List.set_cons_zero, List.set_cons_succ]
        change Below B0 W (w1.alloc (.cells #[.int .i64 0, .slice none 0 0, .slice none 0 0] 25)) at hHeld
        change wpAnyH _ _ _ _ _ _ _ _ (w1.alloc (.cells #[.int .i64 0, .slice none 0 0, .slice none 0 0] 25))
        obtain ⟨w12, hqw12⟩ : ∃ x, x = w1.alloc (.cells #[.int .i64 0, .slice none 0 0, .slice none 0 0] 25) := ⟨_, rfl⟩
        rw [← hqw12] at hHeld fTw12 fJw12 fOw12 ⊢
        clear hqw12
        obtain ⟨g13, hqg13⟩ : ∃ x, x = w1.heap.size := ⟨_, rfl⟩
        rw [← hqg13] at fTw12 ⊢
        clear hqg13
        have hsw12 : B0 ≤ w12.heap.size := Nat.le_trans hsW hHeld.size
        refine wpAnyH_ready (rs := [2]) (by kernel_rfl) (by simp) ?_
        refine AllReadyH.cons rfl (fun K hK => ?_) AllReadyH.nil
        have halw14 : Below B0 W (w12.alloc (.cells #[] 3)) := ((hHeld).alloc hsw12 _)
        have fIw14 := lit_own w12 B0 w12.heap.size 1 3 hsw12 rfl
        have fTw14 := own_alloc fTw12 (.cells #[] 3)
        have fJw14 := own_alloc fJw12 (.cells #[] 3)
        have fOw14 := own_alloc fOw12 (.cells #[] 3)
        go_simp
        refine hK.out _ _ halw14 (fun hHeld => ?_)
        clear hK K halw14
        simp only [List.setIfInBounds_toArray, List.set_cons_zero, List.set_cons_succ]
        change Below B0 W (w12.alloc (.cells #[] 3)) at hHeld
        change wpAnyH _ _ _ _ _ _ _ _ (w12.alloc (.cells #[] 3))
        obtain ⟨w14, hqw14⟩ : ∃ x, x = w12.alloc (.cells #[] 3) := ⟨_, rfl⟩
        rw [← hqw14] at hHeld fIw14 fTw14 fJw14 fOw14 ⊢
        clear hqw14
        obtain ⟨g15, hqg15⟩ : ∃ x, x = w12.heap.size := ⟨_, rfl⟩
        rw [← hqg15] at fIw14 ⊢
        clear hqg15
        have hsw14 : B0 ≤ w14.heap.size := Nat.le_trans hsW hHeld.size
        refine wpAnyH_ready (rs := [8]) (by kernel_rfl) (by simp) ?_
        refine AllReadyH.cons rfl (fun K hK => ?_) AllReadyH.nil
        refine step_flat Try.underlying26 hiI hI0 hI1 hI2 rfl (by decide) (by decide) rfl (.tmp 13) (.tmp 18) rfl fIw14 (by simp [Act.eval]) (by simp [Act.eval]) (hxs.out w14 hHeld) hone.out (by omega) hsw14 ?_
        intro lv17 w16 fIw16 hbq hkp
        simp only [Nat.zero_add, List.nil_append] at fIw16
        have fTw16 := hkp _ _ _ _ _ _ (by decide) fTw14
        have fJw16 := hkp _ _ _ _ _ _ (by decide) fJw14
        have fOw16 := hkp _ _ _ _ _ _ (by decide) fOw14
        refine hK.out _ _ (hHeld.trans hbq) (fun hHeld => ?_)
        clear hK K hbq hkp
        simp only [Act.put, List.setIfInBounds_toArray, List.set_cons_zero, List.set_cons_succ, List.getElem_toArray, List.getElem_cons_succ, List.getElem_cons_zero]
        have hsw16 : B0 ≤ w16.heap.size := Nat.le_trans hsW hHeld.size
        obtain ⟨ja', jl, jc', rfl, -⟩ := own_len fJw16
        obtain ⟨oa', ol, oc', rfl, -⟩ := own_len fOw16
        have hgt := (World.ownsRow.lt fTw16 g13 rfl).1
        have hfin := Lib.hid (cut1_end (P := P) hWb'.out hbB.out hHeld hgt hql.out fJw16 fOw16 fIw16 fTw16)
        refine wpAnyH_ready (rs := [10]) (by kernel_rfl) (by simp) ?_
        refine AllReadyH.cons rfl (fun K hK => ?_) AllReadyH.nil
        refine wp_store_mid 25 (.tmp 5) (.tmp 12) rfl g13 0 [.int .i64 P, .slice ja' jl jc', .slice oa' ol oc'].toArray (by rfl) (by rfl) (struct_there fTw16) (by kernel_rfl) one3 ?_
        refine hK.out _ _ hfin.out.2 (fun hHeld => ?_)
        clear hK K
        simp only [Act.put, List.setIfInBounds_toArray, List.set_cons_zero, List.set_cons_succ, List.getElem_toArray, List.getElem_cons_succ, List.getElem_cons_zero]
        refine wpAnyH_ready (rs := [11]) (by kernel_rfl) (by simp) ?_
        refine AllReadyH.cons rfl (fun K hK => ?_) AllReadyH.nil
        go_simp
        refine hK.out _ _ hfin.out.2 (fun hHeld => ?_)
        clear hK K
        simp only [List.setIfInBounds_toArray, List.set_cons_zero, List.set_cons_succ]
        refine wpAnyH_done (by kernel_rfl) ?_ _
        refine NoPanic.normal ?_
        go_wp2_with fail
        go_meet
        exact ⟨_, rfl, hfin.out.1⟩
    · have halw18 : Below B0 W ((W.alloc (.cells #[] 3)).drew) := ((Below.refl _ _).alloc hsW _).drew
      have fIw18 := own_drew (lit_own W B0 W.heap.size 1 3 hsW rfl)
      go_simp
      refine hK.out _ _ halw18 (fun hHeld => ?_)
      clear hK K halw18
      simp only [List.setIfInBounds_toArray, List.set_cons_zero, List.set_cons_succ]
      change Below B0 W ((W.alloc (.cells #[] 3)).drew) at hHeld
      change wpAnyH _ _ _ _ _ _ _ _ ((W.alloc (.cells #[] 3)).drew)
      obtain ⟨w18, hqw18⟩ : ∃ x, x = (W.alloc (.cells #[] 3)).drew := ⟨_, rfl⟩
      rw [← hqw18] at hHeld fIw18 ⊢
      clear hqw18
      obtain ⟨g19, hqg19⟩ : ∃ x, x = W.heap.size := ⟨_, rfl⟩
      rw [← hqg19] at fIw18 ⊢
      clear hqg19
      have hsw18 : B0 ≤ w18.heap.size := Nat.le_trans hsW hHeld.size
      refine wpAnyH_ready (rs := [1, 9]) (by kernel_rfl) (by simp) ?_
      refine AllReadyH.cons rfl (fun K hK => ?_) (AllReadyH.cons rfl (fun K hK => ?_) AllReadyH.nil)
      · have hV := Lib.hid (hfew.out w18 hHeld)
        go_simp
        refine hV.out.mono ?_
        rintro e w20 ⟨jvw20, ovw20, rfl, oj, oo, hbc⟩
        have halw20 : Below B0 W w20 := hHeld.trans (hbc.mono hsw18)
        have fJw20 := own_base oj (show B0 ≤ _ from hsw18)
        have fOw20 := own_base oo (show B0 ≤ _ from hsw18)
        have fIw20 := own_below fIw18 hbc
        refine hK.out _ _ halw20 (fun hHeld => ?_)
        clear hK K halw20 oj oo hbc hV
        simp only [List.setIfInBounds_toArray, List.set_cons_zero, List.set_cons_succ]
        have hsw20 : B0 ≤ w20.heap.size := Nat.le_trans hsW hHeld.size
        refine wpAnyH_ready (rs := [8, 9]) (by kernel_rfl) (by simp) ?_
        refine AllReadyH.cons rfl (fun K hK => ?_) (AllReadyH.cons rfl (fun K hK => ?_) AllReadyH.nil)
        · refine step_flat Try.underlying26 hiI hI0 hI1 hI2 rfl (by decide) (by decide) rfl (.tmp 13) (.tmp 18) rfl fIw20 (by simp [Act.eval]) (by simp [Act.eval]) (hxs.out w20 hHeld) hone.out (by omega) hsw20 ?_
          intro lv22 w21 fIw21 hbq hkp
          simp only [Nat.zero_add, List.nil_append] at fIw21
          have fJw21 := hkp _ _ _ _ _ _ (by decide) fJw20
          have fOw21 := hkp _ _ _ _ _ _ (by decide) fOw20
          refine hK.out _ _ (hHeld.trans hbq) (fun hHeld => ?_)
          clear hK K hbq hkp
          simp only [Act.put, List.setIfInBounds_toArray, List.set_cons_zero, List.set_cons_succ, List.getElem_toArray, List.getElem_cons_succ, List.getElem_cons_zero]
          have hsw21 : B0 ≤ w21.heap.size := Nat.le_trans hsW hHeld.size
          refine wpAnyH_ready (rs := [9]) (by kernel_rfl) (by simp) ?_
          refine AllReadyH.cons rfl (fun K hK => ?_) AllReadyH.nil
          have halw23 : Below B0 W (w21.alloc (.cells #[.int .i64 0, .slice none 0 0, .slice none 0 0] 25)) := ((hHeld).alloc hsw21 _)
          have fTw23 := own_struct w21 B0 (.int .i64 0) (.slice none 0 0) (.slice none 0 0) hsw21
          have fIw23 := own_alloc fIw21 (.cells #[.int .i64 0, .slice none 0 0, .slice none 0 0] 25)
          have fJw23 := own_alloc fJw21 (.cells #[.int .i64 0, .slice none 0 0, .slice none 0 0] 25)
          have fOw23 := own_alloc fOw21 (.cells #[.int .i64 0, .slice none 0 0, .slice none 0 0] 25)
          go_simp
          refine hK.out _ _ halw23 (fun hHeld => ?_)
          clear hK K halw23
          simp only [List.setIfInBounds_toArray, List.set_cons_zero, List.set_cons_succ]
          change Below B0 W (w21.alloc (.cells #[.int .i64 0, .slice none 0 0, .slice none 0 0] 25)) at hHeld
          change wpAnyH _ _ _ _ _ _ _ _ (w21.alloc (.cells #[.int .i64 0, .slice none 0 0, .slice none 0 0] 25))
          obtain ⟨w23, hqw23⟩ : ∃ x, x = w21.alloc (.cells #[.int .i64 0, .slice none 0 0, .slice none 0 0] 25) := ⟨_, rfl⟩
          rw [← hqw23] at hHeld fTw23 fIw23 fJw23 fOw23 ⊢
          clear hqw23
          obtain ⟨g24, hqg24⟩ : ∃ x, x = w21.heap.size := ⟨_, rfl⟩
          rw [← hqg24] at fTw23 ⊢
          clear hqg24
          have hsw23 : B0 ≤ w23.heap.size := Nat.le_trans hsW hHeld.size
          obtain ⟨ja', jl, jc', rfl, -⟩ := own_len fJw23
          obtain ⟨oa', ol, oc', rfl, -⟩ := own_len fOw23
          have hgt := (World.ownsRow.lt fTw23 g24 rfl).1
          have hfin := Lib.hid (cut1_end (P := P) hWb'.out hbB.out hHeld hgt hql.out fJw23 fOw23 fIw23 fTw23)
          refine wpAnyH_ready (rs := [10]) (by kernel_rfl) (by simp) ?_
          refine AllReadyH.cons rfl (fun K hK => ?_) AllReadyH.nil
          refine wp_store_mid 25 (.tmp 5) (.tmp 12) rfl g24 0 [.int .i64 P, .slice ja' jl jc', .slice oa' ol oc'].toArray (by rfl) (by rfl) (struct_there fTw23) (by kernel_rfl) one3 ?_
          refine hK.out _ _ hfin.out.2 (fun hHeld => ?_)
          clear hK K
          simp only [Act.put, List.setIfInBounds_toArray, List.set_cons_zero, List.set_cons_succ, List.getElem_toArray, List.getElem_cons_succ, List.getElem_cons_zero]
          refine wpAnyH_ready (rs := [11]) (by kernel_rfl) (by simp) ?_
          refine AllReadyH.cons rfl (fun K hK => ?_) AllReadyH.nil
          go_simp
          refine hK.out _ _ hfin.out.2 (fun hHeld => ?_)
          clear hK K
          simp only [List.setIfInBounds_toArray, List.set_cons_zero, List.set_cons_succ]
          refine wpAnyH_done (by kernel_rfl) ?_ _
          refine NoPanic.normal ?_
          go_wp2_with fail
          go_meet
          exact ⟨_, rfl, hfin.out.1⟩
        · have halw25 : Below B0 W (w20.alloc (.cells #[.int .i64 0, .slice none 0 0, .slice none 0 0] 25)) := ((hHeld).alloc hsw20 _)
          have fTw25 := own_struct w20 B0 (.int .i64 0) (.slice none 0 0) (.slice none 0 0) hsw20
          have fJw25 := own_alloc fJw20 (.cells #[.int .i64 0, .slice none 0 0, .slice none 0 0] 25)
          have fOw25 := own_alloc fOw20 (.cells #[.int .i64 0, .slice none 0 0, .slice none 0 0] 25)
          have fIw25 := own_alloc fIw20 (.cells #[.int .i64 0, .slice none 0 0, .slice none 0 0] 25)
          go_simp
          refine hK.out _ _ halw25 (fun hHeld => ?_)
          clear hK K halw25
          simp only [List.setIfInBounds_toArray, List.set_cons_zero, List.set_cons_succ]
          change Below B0 W (w20.alloc (.cells #[.int .i64 0, .slice none 0 0, .slice none 0 0] 25)) at hHeld
          change wpAnyH _ _ _ _ _ _ _ _ (w20.alloc (.cells #[.int .i64 0, .slice none 0 0, .slice none 0 0] 25))
          obtain ⟨w25, hqw25⟩ : ∃ x, x = w20.alloc (.cells #[.int .i64 0, .slice none 0 0, .slice none 0 0] 25) := ⟨_, rfl⟩
          rw [← hqw25] at hHeld fTw25 fJw25 fOw25 fIw25 ⊢
          clear hqw25
          obtain ⟨g26, hqg26⟩ : ∃ x, x = w20.heap.size := ⟨_, rfl⟩
          rw [← hqg26] at fTw25 ⊢
          clear hqg26
          have hsw25 : B0 ≤ w25.heap.size := Nat.le_trans hsW hHeld.size
          refine wpAnyH_ready (rs := [8]) (by kernel_rfl) (by simp) ?_
          refine AllReadyH.cons rfl (fun K hK => ?_) AllReadyH.nil
          refine step_flat Try.underlying26 hiI hI0 hI1 hI2 rfl (by decide) (by decide) rfl (.tmp 13) (.tmp 18) rfl fIw25 (by simp [Act.eval]) (by simp [Act.eval]) (hxs.out w25 hHeld) hone.out (by omega) hsw25 ?_
          intro lv28 w27 fIw27 hbq hkp
          simp only [Nat.zero_add, List.nil_append] at fIw27
          have fTw27 := hkp _ _ _ _ _ _ (by decide) fTw25
          have fJw27 := hkp _ _ _ _ _ _ (by decide) fJw25
          have fOw27 := hkp _ _ _ _ _ _ (by decide) fOw25
          refine hK.out _ _ (hHeld.trans hbq) (fun hHeld => ?_)
          clear hK K hbq hkp
          simp only [Act.put, List.setIfInBounds_toArray, List.set_cons_zero, List.set_cons_succ, List.getElem_toArray, List.getElem_cons_succ, List.getElem_cons_zero]
          have hsw27 : B0 ≤ w27.heap.size := Nat.le_trans hsW hHeld.size
          obtain ⟨ja', jl, jc', rfl, -⟩ := own_len fJw27
          obtain ⟨oa', ol, oc', rfl, -⟩ := own_len fOw27
          have hgt := (World.ownsRow.lt fTw27 g26 rfl).1
          have hfin := Lib.hid (cut1_end (P := P) hWb'.out hbB.out hHeld hgt hql.out fJw27 fOw27 fIw27 fTw27)
          refine wpAnyH_ready (rs := [10]) (by kernel_rfl) (by simp) ?_
          refine AllReadyH.cons rfl (fun K hK => ?_) AllReadyH.nil
          refine wp_store_mid 25 (.tmp 5) (.tmp 12) rfl g26 0 [.int .i64 P, .slice ja' jl jc', .slice oa' ol oc'].toArray (by rfl) (by rfl) (struct_there fTw27) (by kernel_rfl) one3 ?_
          refine hK.out _ _ hfin.out.2 (fun hHeld => ?_)
          clear hK K
          simp only [Act.put, List.setIfInBounds_toArray, List.set_cons_zero, List.set_cons_succ, List.getElem_toArray, List.getElem_cons_succ, List.getElem_cons_zero]
          refine wpAnyH_ready (rs := [11]) (by kernel_rfl) (by simp) ?_
          refine AllReadyH.cons rfl (fun K hK => ?_) AllReadyH.nil
          go_simp
          refine hK.out _ _ hfin.out.2 (fun hHeld => ?_)
          clear hK K
          simp only [List.setIfInBounds_toArray, List.set_cons_zero, List.set_cons_succ]
          refine wpAnyH_done (by kernel_rfl) ?_ _
          refine NoPanic.normal ?_
          go_wp2_with fail
          go_meet
          exact ⟨_, rfl, hfin.out.1⟩
      · have halw29 : Below B0 W (w18.alloc (.cells #[.int .i64 0, .slice none 0 0, .slice none 0 0] 25)) := ((hHeld).alloc hsw18 _)
        have fTw29 := own_struct w18 B0 (.int .i64 0) (.slice none 0 0) (.slice none 0 0) hsw18
        have fIw29 := own_alloc fIw18 (.cells #[.int .i64 0, .slice none 0 0, .slice none 0 0] 25)
        go_simp
        refine hK.out _ _ halw29 (fun hHeld => ?_)
        clear hK K halw29
        simp only [List.setIfInBounds_toArray, List.set_cons_zero, List.set_cons_succ]
        change Below B0 W (w18.alloc (.cells #[.int .i64 0, .slice none 0 0, .slice none 0 0] 25)) at hHeld
        change wpAnyH _ _ _ _ _ _ _ _ (w18.alloc (.cells #[.int .i64 0, .slice none 0 0, .slice none 0 0] 25))
        obtain ⟨w29, hqw29⟩ : ∃ x, x = w18.alloc (.cells #[.int .i64 0, .slice none 0 0, .slice none 0 0] 25) := ⟨_, rfl⟩
        rw [← hqw29] at hHeld fTw29 fIw29 ⊢
        clear hqw29
        obtain ⟨g30, hqg30⟩ : ∃ x, x = w18.heap.size := ⟨_, rfl⟩
        rw [← hqg30] at fTw29 ⊢
        clear hqg30
        have hsw29 : B0 ≤ w29.heap.size := Nat.le_trans hsW hHeld.size
        refine wpAnyH_ready (rs := [1]) (by kernel_rfl) (by simp) ?_
        refine AllReadyH.cons rfl (fun K hK => ?_) AllReadyH.nil
        have hV := Lib.hid (hfew.out w29 hHeld)
        go_simp
        refine hV.out.mono ?_
        rintro e w31 ⟨jvw31, ovw31, rfl, oj, oo, hbc⟩
        have halw31 : Below B0 W w31 := hHeld.trans (hbc.mono hsw29)
        have fJw31 := own_base oj (show B0 ≤ _ from hsw29)
        have fOw31 := own_base oo (show B0 ≤ _ from hsw29)
        have fTw31 := own_below fTw29 hbc
        have fIw31 := own_below fIw29 hbc
        refine hK.out _ _ halw31 (fun hHeld => ?_)
        clear hK K halw31 oj oo hbc hV
        simp only [List.setIfInBounds_toArray, List.set_cons_zero, List.set_cons_succ]
        have hsw31 : B0 ≤ w31.heap.size := Nat.le_trans hsW hHeld.size
        refine wpAnyH_ready (rs := [8]) (by kernel_rfl) (by simp) ?_
        refine AllReadyH.cons rfl (fun K hK => ?_) AllReadyH.nil
        refine step_flat Try.underlying26 hiI hI0 hI1 hI2 rfl (by decide) (by decide) rfl (.tmp 13) (.tmp 18) rfl fIw31 (by simp [Act.eval]) (by simp [Act.eval]) (hxs.out w31 hHeld) hone.out (by omega) hsw31 ?_
        intro lv33 w32 fIw32 hbq hkp
        simp only [Nat.zero_add, List.nil_append] at fIw32
        have fJw32 := hkp _ _ _ _ _ _ (by decide) fJw31
        have fOw32 := hkp _ _ _ _ _ _ (by decide) fOw31
        have fTw32 := hkp _ _ _ _ _ _ (by decide) fTw31
        refine hK.out _ _ (hHeld.trans hbq) (fun hHeld => ?_)
        clear hK K hbq hkp
        simp only [Act.put, List.setIfInBounds_toArray, List.set_cons_zero, List.set_cons_succ, List.getElem_toArray, List.getElem_cons_succ, List.getElem_cons_zero]
        have hsw32 : B0 ≤ w32.heap.size := Nat.le_trans hsW hHeld.size
        obtain ⟨ja', jl, jc', rfl, -⟩ := own_len fJw32
        obtain ⟨oa', ol, oc', rfl, -⟩ := own_len fOw32
        have hgt := (World.ownsRow.lt fTw32 g30 rfl).1
        have hfin := Lib.hid (cut1_end (P := P) hWb'.out hbB.out hHeld hgt hql.out fJw32 fOw32 fIw32 fTw32)
        refine wpAnyH_ready (rs := [10]) (by kernel_rfl) (by simp) ?_
        refine AllReadyH.cons rfl (fun K hK => ?_) AllReadyH.nil
        refine wp_store_mid 25 (.tmp 5) (.tmp 12) rfl g30 0 [.int .i64 P, .slice ja' jl jc', .slice oa' ol oc'].toArray (by rfl) (by rfl) (struct_there fTw32) (by kernel_rfl) one3 ?_
        refine hK.out _ _ hfin.out.2 (fun hHeld => ?_)
        clear hK K
        simp only [Act.put, List.setIfInBounds_toArray, List.set_cons_zero, List.set_cons_succ, List.getElem_toArray, List.getElem_cons_succ, List.getElem_cons_zero]
        refine wpAnyH_ready (rs := [11]) (by kernel_rfl) (by simp) ?_
        refine AllReadyH.cons rfl (fun K hK => ?_) AllReadyH.nil
        go_simp
        refine hK.out _ _ hfin.out.2 (fun hHeld => ?_)
        clear hK K
        simp only [List.setIfInBounds_toArray, List.set_cons_zero, List.set_cons_succ]
        refine wpAnyH_done (by kernel_rfl) ?_ _
        refine NoPanic.normal ?_
        go_wp2_with fail
        go_meet
        exact ⟨_, rfl, hfin.out.1⟩
    · have halw34 : Below B0 W ((W.alloc (.cells #[.int .i64 0, .slice none 0 0, .slice none 0 0] 25)).drew) := ((Below.refl _ _).alloc hsW _).drew
      have fTw34 := own_drew (own_struct W B0 (.int .i64 0) (.slice none 0 0) (.slice none 0 0) hsW)
      go_simp
      refine hK.out _ _ halw34 (fun hHeld => ?_)
      clear hK K halw34
      simp only [List.setIfInBounds_toArray, List.set_cons_zero, List.set_cons_succ]
      change Below B0 W ((W.alloc (.cells #[.int .i64 0, .slice none 0 0, .slice none 0 0] 25)).drew) at hHeld
      change wpAnyH _ _ _ _ _ _ _ _ ((W.alloc (.cells #[.int .i64 0, .slice none 0 0, .slice none 0 0] 25)).drew)
      obtain ⟨w34, hqw34⟩ : ∃ x, x = (W.alloc (.cells #[.int .i64 0, .slice none 0 0, .slice none 0 0] 25)).drew := ⟨_, rfl⟩
      rw [← hqw34] at hHeld fTw34 ⊢
      clear hqw34
      obtain ⟨g35, hqg35⟩ : ∃ x, x = W.heap.size := ⟨_, rfl⟩
      rw [← hqg35] at fTw34 ⊢
      clear hqg35
      have hsw34 : B0 ≤ w34.heap.size := Nat.le_trans hsW hHeld.size
      refine wpAnyH_ready (rs := [1, 2]) (by kernel_rfl) (by simp) ?_
      refine AllReadyH.cons rfl (fun K hK => ?_) (AllReadyH.cons rfl (fun K hK => ?_) AllReadyH.nil)
      · have hV := Lib.hid (hfew.out w34 hHeld)
        go_simp
        refine hV.out.mono ?_
        rintro e w36 ⟨jvw36, ovw36, rfl, oj, oo, hbc⟩
        have halw36 : Below B0 W w36 := hHeld.trans (hbc.mono hsw34)
        have fJw36 := own_base oj (show B0 ≤ _ from hsw34)
        have fOw36 := own_base oo (show B0 ≤ _ from hsw34)
        have fTw36 := own_below fTw34 hbc
        refine hK.out _ _ halw36 (fun hHeld => ?_)
        clear hK K halw36 oj oo hbc hV
        simp only [List.setIfInBounds_toArray, List.set_cons_zero, List.set_cons_succ]
        have hsw36 : B0 ≤ w36.heap.size := Nat.le_trans hsW hHeld.size
        refine wpAnyH_ready (rs := [2]) (by kernel_rfl) (by simp) ?_
        refine AllReadyH.cons rfl (fun K hK => ?_) AllReadyH.nil
        have halw37 : Below B0 W (w36.alloc (.cells #[] 3)) := ((hHeld).alloc hsw36 _)
        have fIw37 := lit_own w36 B0 w36.heap.size 1 3 hsw36 rfl
        have fJw37 := own_alloc fJw36 (.cells #[] 3)
        have fOw37 := own_alloc fOw36 (.cells #[] 3)
        have fTw37 := own_alloc fTw36 (.cells #[] 3)
        go_simp
        refine hK.out _ _ halw37 (fun hHeld => ?_)
        clear hK K halw37
        simp only [List.setIfInBounds_toArray, List.set_cons_zero, List.set_cons_succ]
        change Below B0 W (w36.alloc (.cells #[] 3)) at hHeld
        change wpAnyH _ _ _ _ _ _ _ _ (w36.alloc (.cells #[] 3))
        obtain ⟨w37, hqw37⟩ : ∃ x, x = w36.alloc (.cells #[] 3) := ⟨_, rfl⟩
        rw [← hqw37] at hHeld fIw37 fJw37 fOw37 fTw37 ⊢
        clear hqw37
        obtain ⟨g38, hqg38⟩ : ∃ x, x = w36.heap.size := ⟨_, rfl⟩
        rw [← hqg38] at fIw37 ⊢
        clear hqg38
        have hsw37 : B0 ≤ w37.heap.size := Nat.le_trans hsW hHeld.size
        refine wpAnyH_ready (rs := [8]) (by kernel_rfl) (by simp) ?_
        refine AllReadyH.cons rfl (fun K hK => ?_) AllReadyH.nil
        refine step_flat Try.underlying26 hiI hI0 hI1 hI2 rfl (by decide) (by decide) rfl (.tmp 13) (.tmp 18) rfl fIw37 (by simp [Act.eval]) (by simp [Act.eval]) (hxs.out w37 hHeld) hone.out (by omega) hsw37 ?_
        intro lv40 w39 fIw39 hbq hkp
        simp only [Nat.zero_add, List.nil_append] at fIw39
        have fJw39 := hkp _ _ _ _ _ _ (by decide) fJw37
        have fOw39 := hkp _ _ _ _ _ _ (by decide) fOw37
        have fTw39 := hkp _ _ _ _ _ _ (by decide) fTw37
        refine hK.out _ _ (hHeld.trans hbq) (fun hHeld => ?_)
        clear hK K hbq hkp
        simp only [Act.put, List.setIfInBounds_toArray, List.set_cons_zero, List.set_cons_succ, List.getElem_toArray, List.getElem_cons_succ, List.getElem_cons_zero]
        have hsw39 : B0 ≤ w39.heap.size := Nat.le_trans hsW hHeld.size
        obtain ⟨ja', jl, jc', rfl, -⟩ := own_len fJw39
        obtain ⟨oa', ol, oc', rfl, -⟩ := own_len fOw39
        have hgt := (World.ownsRow.lt fTw39 g35 rfl).1
        have hfin := Lib.hid (cut1_end (P := P) hWb'.out hbB.out hHeld hgt hql.out fJw39 fOw39 fIw39 fTw39)
        refine wpAnyH_ready (rs := [10]) (by kernel_rfl) (by simp) ?_
        refine AllReadyH.cons rfl (fun K hK => ?_) AllReadyH.nil
        refine wp_store_mid 25 (.tmp 5) (.tmp 12) rfl g35 0 [.int .i64 P, .slice ja' jl jc', .slice oa' ol oc'].toArray (by rfl) (by rfl) (struct_there fTw39) (by kernel_rfl) one3 ?_
        refine hK.out _ _ hfin.out.2 (fun hHeld => ?_)
        clear hK K
        simp only [Act.put, List.setIfInBounds_toArray, List.set_cons_zero, List.set_cons_succ, List.getElem_toArray, List.getElem_cons_succ, List.getElem_cons_zero]
        refine wpAnyH_ready (rs := [11]) (by kernel_rfl) (by simp) ?_
        refine AllReadyH.cons rfl (fun K hK => ?_) AllReadyH.nil
        go_simp
        refine hK.out _ _ hfin.out.2 (fun hHeld => ?_)
        clear hK K
        simp only [List.setIfInBounds_toArray, List.set_cons_zero, List.set_cons_succ]
        refine wpAnyH_done (by kernel_rfl) ?_ _
        refine NoPanic.normal ?_
        go_wp2_with fail
        go_meet
        exact ⟨_, rfl, hfin.out.1⟩
      · have halw41 : Below B0 W (w34.alloc (.cells #[] 3)) := ((hHeld).alloc hsw34 _)
        have fIw41 := lit_own w34 B0 w34.heap.size 1 3 hsw34 rfl
        have fTw41 := own_alloc fTw34 (.cells #[] 3)
        go_simp
        refine hK.out _ _ halw41 (fun hHeld => ?_)
        clear hK K halw41
        simp only [List.setIfInBounds_toArray, List.set_cons_zero, List.set_cons_succ]
        change Below B0 W (w34.alloc (.cells #[] 3)) at hHeld
        change wpAnyH _ _ _ _ _ _ _ _ (w34.alloc (.cells #[] 3))
        obtain ⟨w41, hqw41⟩ : ∃ x, x = w34.alloc (.cells #[] 3) := ⟨_, rfl⟩
        rw [← hqw41] at hHeld fIw41 fTw41 ⊢
        clear hqw41
        obtain ⟨g42, hqg42⟩ : ∃ x, x = w34.heap.size := ⟨_, rfl⟩
        rw [← hqg42] at fIw41 ⊢
        clear hqg42
        have hsw41 : B0 ≤ w41.heap.size := Nat.le_trans hsW hHeld.size
        refine wpAnyH_ready (rs := [1]) (by kernel_rfl) (by simp) ?_
        refine AllReadyH.cons rfl (fun K hK => ?_) AllReadyH.nil
        have hV := Lib.hid (hfew.out w41 hHeld)
        go_simp
        refine hV.out.mono ?_
        rintro e w43 ⟨jvw43, ovw43, rfl, oj, oo, hbc⟩
        have halw43 : Below B0 W w43 := hHeld.trans (hbc.mono hsw41)
        have fJw43 := own_base oj (show B0 ≤ _ from hsw41)
        have fOw43 := own_base oo (show B0 ≤ _ from hsw41)
        have fIw43 := own_below fIw41 hbc
        have fTw43 := own_below fTw41 hbc
        refine hK.out _ _ halw43 (fun hHeld => ?_)
        clear hK K halw43 oj oo hbc hV
        simp only [List.setIfInBounds_toArray, List.set_cons_zero, List.set_cons_succ]
        have hsw43 : B0 ≤ w43.heap.size := Nat.le_trans hsW hHeld.size
        refine wpAnyH_ready (rs := [8]) (by kernel_rfl) (by simp) ?_
        refine AllReadyH.cons rfl (fun K hK => ?_) AllReadyH.nil
        refine step_flat Try.underlying26 hiI hI0 hI1 hI2 rfl (by decide) (by decide) rfl (.tmp 13) (.tmp 18) rfl fIw43 (by simp [Act.eval]) (by simp [Act.eval]) (hxs.out w43 hHeld) hone.out (by omega) hsw43 ?_
        intro lv45 w44 fIw44 hbq hkp
        simp only [Nat.zero_add, List.nil_append] at fIw44
        have fJw44 := hkp _ _ _ _ _ _ (by decide) fJw43
        have fOw44 := hkp _ _ _ _ _ _ (by decide) fOw43
        have fTw44 := hkp _ _ _ _ _ _ (by decide) fTw43
        refine hK.out _ _ (hHeld.trans hbq) (fun hHeld => ?_)
        clear hK K hbq hkp
        simp only [Act.put, List.setIfInBounds_toArray, List.set_cons_zero, List.set_cons_succ, List.getElem_toArray, List.getElem_cons_succ, List.getElem_cons_zero]
        have hsw44 : B0 ≤ w44.heap.size := Nat.le_trans hsW hHeld.size
        obtain ⟨ja', jl, jc', rfl, -⟩ := own_len fJw44
        obtain ⟨oa', ol, oc', rfl, -⟩ := own_len fOw44
        have hgt := (World.ownsRow.lt fTw44 g35 rfl).1
        have hfin := Lib.hid (cut1_end (P := P) hWb'.out hbB.out hHeld hgt hql.out fJw44 fOw44 fIw44 fTw44)
        refine wpAnyH_ready (rs := [10]) (by kernel_rfl) (by simp) ?_
        refine AllReadyH.cons rfl (fun K hK => ?_) AllReadyH.nil
        refine wp_store_mid 25 (.tmp 5) (.tmp 12) rfl g35 0 [.int .i64 P, .slice ja' jl jc', .slice oa' ol oc'].toArray (by rfl) (by rfl) (struct_there fTw44) (by kernel_rfl) one3 ?_
        refine hK.out _ _ hfin.out.2 (fun hHeld => ?_)
        clear hK K
        simp only [Act.put, List.setIfInBounds_toArray, List.set_cons_zero, List.set_cons_succ, List.getElem_toArray, List.getElem_cons_succ, List.getElem_cons_zero]
        refine wpAnyH_ready (rs := [11]) (by kernel_rfl) (by simp) ?_
        refine AllReadyH.cons rfl (fun K hK => ?_) AllReadyH.nil
        go_simp
        refine hK.out _ _ hfin.out.2 (fun hHeld => ?_)
        clear hK K
        simp only [List.setIfInBounds_toArray, List.set_cons_zero, List.set_cons_succ]
        refine wpAnyH_done (by kernel_rfl) ?_ _
        refine NoPanic.normal ?_
        go_wp2_with fail
        go_meet
        exact ⟨_, rfl, hfin.out.1⟩
end Go.Proofs.Ytjkbhdlbomcbeaa
