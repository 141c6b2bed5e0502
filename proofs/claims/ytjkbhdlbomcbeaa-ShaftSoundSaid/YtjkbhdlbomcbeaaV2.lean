import Derived.Test.YtjkbhdlbomcbeaaV1
import Derived.Deep.RegionLaw
import Derived.Deep.RegionHeld3
namespace Go.Proofs.Ytjkbhdlbomcbeaa
open Go.RowKit Shf

theorem FlatR.take {w : World} {z n c m : Nat} {ao : Option Addr} {cs : List Value} (h : FlatR w z (.slice ao n c) n cs) (hm : m ≤ n) : FlatR w z (.slice ao m c) m (cs.take (m * z)) := by
  obtain ⟨h0, ao', c', e, hc, h2, h⟩ := h
  obtain ⟨rfl, rfl⟩ : ao = ao' ∧ c = c' := by injection e with a _ b; exact ⟨a, b⟩
  have hz : m * z ≤ n * z := Nat.mul_le_mul_right z hm
  refine ⟨by rw [List.length_take, h0]; omega, ao, c, rfl, by omega, h2, fun hn => ?_⟩
  obtain ⟨g, o, rfl, hg, hcl⟩ := h (by omega)
  exact ⟨g, o, rfl, hg, fun j u hj => hcl j u (by
    rw [List.getElem?_take] at hj
    split at hj
    · exact hj
    · cases hj)⟩
/-- append(s, src...) of structs, at the model. -/
theorem run_app_flat {w : World} {B m n z bytes : Nat} {t e ty : TypeId} {i0 : TypeInfo} {zv : Value} (ht : Try.prog.underlying t = some (.slice e)) (hi : Try.prog.info? e = some i0) (hz0 : i0.zero = some zv) (hz1 : i0.size = z) (hz2 : i0.bytes = bytes) (hzc : zv.cells.size = z) (hz : 0 < z) (hby : bytes ≤ 100)
    {v x : Value} {xs ys : List Value} (hown : w.ownsRow B e z v n xs) (hx : FlatR w z x m ys) (h1 : ∀ u ∈ ys, u.oneCell' = true) (hlen : n + m ≤ 1000000) (hB : B ≤ w.heap.size) :
    ∃ v' w', (Builtin.append_ #[t, t] ty #[v, x]).run Try.prog w = .ok v' w' ∧ w'.ownsRow B e z v' (n + m) (xs ++ ys) ∧ w.grownBy w' v.ownBlock := by
  obtain ⟨h0, ao, c, rfl, hc, hnone, hcl⟩ := hx
  cases ao with
  | none =>
    have := hnone rfl; subst this
    obtain rfl : m = 0 := by omega
    obtain rfl : ys = [] := List.length_eq_zero_iff.1 (by rw [h0]; omega)
    exact ⟨v, w, run_append_owned_none (P := Try.prog) (w := w) B t ty e i0 z ht hi v n xs hown, by rw [List.append_nil]; exact hown, ⟨rfl, rfl, rfl, Nat.le_refl _, fun _ _ _ => rfl⟩⟩
  | some a =>
    have hnews : ∀ j u, ys[j]? = some u → w.cell? (a.add j) = some u := fun j u hj => by
      by_cases hm : m = 0
      · subst hm
        have := (List.getElem?_eq_some_iff.1 hj).1
        rw [h0] at this; omega
      · obtain ⟨g, o, e1, _, hcell⟩ := hcl hm
        obtain rfl : a = ⟨g, o, none⟩ := by injection e1
        rw [show (⟨g, o, none⟩ : Addr).add j = ⟨g, o + j, none⟩ from by simp [Addr.add]]
        exact hcell j u hj
    obtain ⟨v', w', hrun, r1, r2, _⟩ := run_append_own (P := Try.prog) w B t ty e i0 zv z bytes ht hi hz0 hz1 hz2 hzc hz v n xs hown a m c ys h0 hnews h1 (by unfold maxLen; omega)
      (Nat.le_trans (Nat.mul_le_mul hlen hby) (by omega)) hB
    exact ⟨v', w', hrun, r1, r2⟩
/-- The same at one step of a region that draws its order; rows of another type stay. -/
theorem step_flat {ops : Array Oper} {o : Oper} {a : Act} {w : World} {K : Act → World → Prop} {Q : Exit → Act → World → Prop} {E : Prop} {B m n z bytes : Nat} {t e : TypeId} {i0 : TypeInfo} {zv : Value} (ht : Try.prog.underlying t = some (.slice e)) (hi : Try.prog.info? e = some i0) (hz0 : i0.zero = some zv) (hz1 : i0.size = z) (hz2 : i0.bytes = bytes) (hzc : zv.cells.size = z) (hz : 0 < z) (hby : bytes ≤ 100)
    (hg : o.guard = none) (s x : Operand) (hop : o.op = Op.call { callee := Callee.builtin Builtin.append, args := #[s, x], argTypes := #[t, t] })
    {v xv : Value} {xs ys : List Value} (hown : w.ownsRow B e z v n xs) (hs : a.eval s = v) (hxv : a.eval x = xv) (hx : FlatR w z xv m ys) (h1 : ∀ u ∈ ys, u.oneCell' = true) (hlen : n + m ≤ 1000000) (hB : B ≤ w.heap.size)
    (hK : ∀ v' w', w'.ownsRow B e z v' (n + m) (xs ++ ys) → Below B w w' → (∀ B2 e2 z2 u k zs, e2 ≠ e → w.ownsRow B2 e2 z2 u k zs → w'.ownsRow B2 e2 z2 u k zs) → K (a.put o.dst v') w') :
    if Region.wanted o (yielded ops a.tmps) = true then Oper.wp Try.prog o a w K Q else E := by
  have hw : Region.wanted o (yielded ops a.tmps) = true := by simp [Region.wanted, hg]
  rw [if_pos hw]
  obtain ⟨v', w', hrun, r1, r2⟩ := run_app_flat (ty := o.type) ht hi hz0 hz1 hz2 hzc hz hby hown hx h1 hlen hB
  unfold Oper.wp
  simp [execOp, hop, resolve, invoke, builtin, hs, hxv, hrun, Result.andThen]
  refine hK v' w' r1 ((Below.refl B w).grown r2 hB (fun k hk => (World.ownsRow.lt hown k hk).1)) ?_
  intro B2 e2 z2 u k zs hne hz
  refine World.ownsRow.kept hz r2 ?_
  rcases hz.2 with ⟨rfl, _⟩ | ⟨g, cap, cur, rfl, _, hg, _⟩
  · exact .inl rfl
  · right
    intro e3
    rcases hown.2 with ⟨rfl, _⟩ | ⟨g', cap', cur', rfl, _, hg', _⟩
    · simp [Value.ownBlock] at e3
    · simp only [Value.ownBlock, Option.some.injEq] at e3
      subst e3
      rw [hg] at hg'
      simp at hg'
      exact hne hg'.2
theorem lit_own (w : World) (B g z : Nat) (e : TypeId) (hB : B ≤ w.heap.size) (hg : g = w.heap.size) : (w.alloc (.cells #[] e)).ownsRow B e z (.slice (some ⟨g, 0, none⟩) 0 0) 0 [] := by
  subst hg; exact World.ownsRow_made w #[] 0 hB (by unfold maxLen; omega) (by simp)
theorem own_drew {w : World} {B z n : Nat} {e : TypeId} {v : Value} {xs : List Value} (h : w.ownsRow B e z v n xs) : w.drew.ownsRow B e z v n xs := h
theorem own_alloc {w : World} {B z n : Nat} {e : TypeId} {v : Value} {xs : List Value} (h : w.ownsRow B e z v n xs) (o : Obj) : (w.alloc o).ownsRow B e z v n xs := World.ownsRow.alloc h o

theorem results_cell_mid {fn : Func} {p : Tmp} {ty : TypeId} (h : fn.results = #[.cell p ty]) (tmps : Array Value) (w : World) (g : Nat) (cs : List Value) (d : TypeDesc) (hp : tmps.getD p undef = .pointer (some ⟨g, 0, none⟩)) (hc : w.rangeAt g 0 cs)
    (hu : Try.prog.underlying ty = some d) (hd : d.isRow = true) (hi : (Try.prog.info? ty).map (·.size) = some cs.length) : (results fn tmps).run Try.prog w = .ok (.agg cs.toArray) w := by
  have hl := run_loadVar_mid (P := Try.prog) w g 0 ty cs d hc hu hd hi
  have hp' : tmps[p]?.getD undef = .pointer (some ⟨g, 0, none⟩) := by simpa using hp
  simp [results, h, hp', asAddr, hl]
theorem range3 {w : World} {g : Nat} {a b c : Value} (h0 : w.cell? ⟨g, 0, none⟩ = some a) (h1 : w.cell? ⟨g, 1, none⟩ = some b) (h2 : w.cell? ⟨g, 2, none⟩ = some c) : w.rangeAt g 0 [a, b, c] := fun j v hv => by
  obtain ⟨hj, rfl⟩ := List.getElem?_eq_some_iff.1 hv
  rw [Nat.zero_add]
  match j, hj with
  | 0, _ => exact h0
  | 1, _ => exact h1
  | 2, _ => exact h2
theorem fin3 {W w : World} {b2 B0 n m : Nat} {jv ov z0 z1 z2 : Value} {xs ys : List Value} (d0 : w.cell? ⟨b2, 0, none⟩ = some z0) (d1 : w.cell? ⟨b2, 1, none⟩ = some z1) (d2 : w.cell? ⟨b2, 2, none⟩ = some z2)
    (hb : Below b2 W w) (ht : w.there b2 0 3) (hj : w.ownsRow B0 56 4 jv n xs) (ho : w.ownsRow B0 78 2 ov m ys) (hB : b2 < B0) (u v : Value) (P : Int) :
    (Below b2 W (((w.setCell ⟨b2, 0, none⟩ (.int .i64 P)).setCell ⟨b2, 1, none⟩ u).setCell ⟨b2, 2, none⟩ v) ∧ (((w.setCell ⟨b2, 0, none⟩ (.int .i64 P)).setCell ⟨b2, 1, none⟩ u).setCell ⟨b2, 2, none⟩ v).there b2 0 3) ∧
    (((w.setCell ⟨b2, 0, none⟩ (.int .i64 P)).setCell ⟨b2, 1, none⟩ u).setCell ⟨b2, 2, none⟩ v).ownsRow B0 56 4 jv n xs ∧ (((w.setCell ⟨b2, 0, none⟩ (.int .i64 P)).setCell ⟨b2, 1, none⟩ u).setCell ⟨b2, 2, none⟩ v).ownsRow B0 78 2 ov m ys ∧
    (((w.setCell ⟨b2, 0, none⟩ (.int .i64 P)).setCell ⟨b2, 1, none⟩ u).setCell ⟨b2, 2, none⟩ v).cell? ⟨b2, 0, none⟩ = some (.int .i64 P) ∧
    (((w.setCell ⟨b2, 0, none⟩ (.int .i64 P)).setCell ⟨b2, 1, none⟩ u).setCell ⟨b2, 2, none⟩ v).cell? ⟨b2, 1, none⟩ = some u ∧
    (((w.setCell ⟨b2, 0, none⟩ (.int .i64 P)).setCell ⟨b2, 1, none⟩ u).setCell ⟨b2, 2, none⟩ v).cell? ⟨b2, 2, none⟩ = some v := by
  refine ⟨⟨below_set (below_set (below_set hb (Nat.le_refl _)) (Nat.le_refl _)) (Nat.le_refl _), World.there_setCells ht b2 0 [.int .i64 P, u, v]⟩, ownsRow_setCell_below (ownsRow_setCell_below (ownsRow_setCell_below hj hB _) hB _) hB _, ownsRow_setCell_below (ownsRow_setCell_below (ownsRow_setCell_below ho hB _) hB _) hB _, ?_, ?_, ?_⟩
  · rw [World.cell?_setCell_other _ _ _ _ (by simp), World.cell?_setCell_other _ _ _ _ (by simp), World.cell?_setCell_same' _ _ _ (by rw [d0]; rfl)]
  · rw [World.cell?_setCell_other _ _ _ _ (by simp), World.cell?_setCell_same' _ _ _ (by rw [World.cell?_setCell_other _ _ _ _ (by simp), d1]; rfl)]
  · rw [World.cell?_setCell_same' _ _ _ (by rw [World.cell?_setCell_other _ _ _ _ (by simp), World.cell?_setCell_other _ _ _ _ (by simp), d2]; rfl)]
/-- A shaft that came in. -/
def InSh (w : World) (v : Value) (P : Int) (js : List J) (os : List (Int × Int)) : Prop := ∃ jv ov, v = .agg #[.int .i64 P, jv, ov] ∧ FlatR w 4 jv js.length (flat encJ js) ∧ FlatR w 2 ov os.length (flat encO os) ∧ js.length ≤ maxLen ∧ os.length ≤ maxLen
set_option maxHeartbeats 4000000 in
set_option maxRecDepth 100000 in
theorem few15 {w : World} {v : Value} {P : Int} {js : List J} {os : List (Int × Int)} (h : InSh w v P js os) :
    Calls Try.prog 15 #[v] w fun e w' => ∃ jv ov, e = .returned (.agg #[.int .i64 P, jv, ov]) ∧ OwnJ w' w.heap.size jv (js.take 7) ∧ OwnO w' w.heap.size ov (os.take 21) ∧ Below w.heap.size w w' := by
  obtain ⟨jv, ov, rfl, hj, ho, hjm, hom⟩ := h
  obtain ⟨n, hn⟩ : ∃ n, n = js.length := ⟨_, rfl⟩
  obtain ⟨m, hm⟩ : ∃ m, m = os.length := ⟨_, rfl⟩
  rw [← hn] at hj hjm
  rw [← hm] at ho hom
  obtain ⟨a, c, rfl, hac⟩ : ∃ a c, jv = .slice a n c ∧ n ≤ c := by obtain ⟨_, a, c, e, h, _⟩ := hj; exact ⟨a, c, e, h⟩
  obtain ⟨b, d, rfl, hbd⟩ : ∃ a c, ov = .slice a m c ∧ m ≤ c := by obtain ⟨_, a, c, e, h, _⟩ := ho; exact ⟨a, c, e, h⟩
  have tj := Lib.hid (hj.take (m := min n 7) (by omega))
  have to := Lib.hid (ho.take (m := min m 21) (by omega))
  rw [← flat_take encJ_len] at tj
  rw [← flat_take encO_len] at to
  have hlj := Lib.hid (show (js.take 7).length = min n 7 by rw [List.length_take, hn]; omega)
  have hlo := Lib.hid (show (os.take 21).length = min m 21 by rw [List.length_take, hm]; omega)
  have e7 := Lib.hid (show js.take (min n 7) = js.take 7 by rw [hn, List.take_eq_take_min (i := 7), Nat.min_comm])
  have e21 := Lib.hid (show os.take (min m 21) = os.take 21 by rw [hm, List.take_eq_take_min (i := 21), Nat.min_comm])
  rw [e7.out] at tj
  rw [e21.out] at to
  have hp7 : min (n : Int) 7 = ((min n 7 : Nat) : Int) := by omega
  have hq21 : min (m : Int) 21 = ((min m 21 : Nat) : Int) := by omega
  obtain ⟨p, hp⟩ : ∃ p, p = min n 7 := ⟨_, rfl⟩
  obtain ⟨q, hq⟩ : ∃ q, q = min m 21 := ⟨_, rfl⟩
  rw [← hp] at tj hlj hp7
  rw [← hq] at to hlo hq21
  have hpn : p ≤ n := by omega
  have hp7' : (if (7 : Int) < (n : Int) then 7 else (n : Int)) = (p : Int) := by split <;> omega
  have hq21' : (if (21 : Int) < (m : Int) then 21 else (m : Int)) = (q : Int) := by split <;> omega
  have hqm : q ≤ m := by omega
  have hp8 : p ≤ 7 := by omega
  have hq22 : q ≤ 21 := by omega
  have hpc : (p : Int) ≤ (c : Int) := by omega
  have hqd : (q : Int) ≤ (d : Int) := by omega
  unfold maxLen at hjm hom
  obtain ⟨iJ, hiJ, hJ0, hJ1, hJ2⟩ := info_parts info56
  obtain ⟨iO, hiO, hO0, hO1, hO2⟩ := info_parts info78
  clear hj ho e7 e21 hn hm hp hq
  go_enter Try.func15, Try.ntmps15
  go_wp2_with fail
  obtain ⟨W, hW⟩ : ∃ W, W = ((w.alloc (Obj.cells #[Value.int IntKind.i64 P, Value.slice a n c, Value.slice b m d] 25)).alloc (Obj.cells #[Value.int IntKind.i64 0, Value.slice none 0 0, Value.slice none 0 0] 25)) := ⟨_, rfl⟩
  have c0 : W.cell? ⟨w.heap.size, 0, none⟩ = some (.int .i64 P) := by rw [hW]; exact ((below_alloc1 _ _).cell (p := ⟨w.heap.size, 0, none⟩) (by simp)).trans (by rw [World.cell?_alloc_at (hn := rfl)]; rfl)
  have c1 : W.cell? ⟨w.heap.size, 1, none⟩ = some (.slice a n c) := by rw [hW]; exact ((below_alloc1 _ _).cell (p := ⟨w.heap.size, 1, none⟩) (by simp)).trans (by rw [World.cell?_alloc_at (hn := rfl)]; rfl)
  have c2 : W.cell? ⟨w.heap.size, 2, none⟩ = some (.slice b m d) := by rw [hW]; exact ((below_alloc1 _ _).cell (p := ⟨w.heap.size, 2, none⟩) (by simp)).trans (by rw [World.cell?_alloc_at (hn := rfl)]; rfl)
  have hth : W.there (w.heap.size + 1) 0 3 := fun j hj => by
    rw [hW]
    have h2 := heap_alloc_new (w.alloc (Obj.cells #[Value.int IntKind.i64 P, Value.slice a n c, Value.slice b m d] 25)) (Obj.cells #[Value.int IntKind.i64 0, Value.slice none 0 0, Value.slice none 0 0] 25)
    rw [World.size_alloc] at h2
    refine ⟨?_, frozen_of_row _ _ _ _ 25 h2⟩
    rw [Nat.zero_add, cell_of_row _ _ j _ _ _ h2]
    match j, hj with
    | 0, _ | 1, _ | 2, _ => rfl
  have hWb : Below w.heap.size w W := by rw [hW]; exact ((Below.refl _ _).alloc (Nat.le_refl _) _).alloc (by simp) _
  have hWs : W.heap.size = w.heap.size + 1 + 1 := by rw [hW]; simp
  rw [← hW]
  clear hW
  obtain ⟨b1, hb1⟩ : ∃ b1, b1 = w.heap.size := ⟨_, rfl⟩
  obtain ⟨b2, hb2⟩ : ∃ b2, b2 = b1 + 1 := ⟨_, rfl⟩
  have hWw := Lib.hid (fun (w' : World) (h : Below b2 W w') => (show Below w.heap.size w w' from hWb.trans (h.mono (by omega))))
  have hwb := Lib.hid (show w.heap.size = b1 from hb1.symm)
  rw [← hb1] at c0 c1 c2 hth hWs ⊢
  rw [← hb2] at hth hWs ⊢
  have hb12 : b1 < b2 := by omega
  have hb2W : b2 ≤ W.heap.size := by omega
  obtain ⟨B0, hB0⟩ : ∃ B0, B0 = W.heap.size := ⟨_, rfl⟩
  have hb2B : b2 ≤ B0 := by omega
  have hb2B' : b2 < B0 := by omega
  clear hb1 hb2 hWs hWb
  refine Code.wp_mono (Q := fun e a' W3 => e = .normal ∧ ∃ jv ov, (∃ tmps, a' = { tmps, defers := [] } ∧ tmps.getD 2 undef = .pointer (some ⟨b2, 0, none⟩)) ∧ Below b2 W W3 ∧ OwnJ W3 B0 jv (js.take 7) ∧ OwnO W3 B0 ov (os.take 21) ∧ W3.cell? ⟨b2, 0, none⟩ = some (.int .i64 P) ∧ W3.cell? ⟨b2, 1, none⟩ = some jv ∧ W3.cell? ⟨b2, 2, none⟩ = some ov) ?_ ?_
  · rintro e a' W3 ⟨rfl, jv, ov, ⟨tmps, rfl, htm⟩, hbe, oj, oo, k0, k1, k2⟩
    have hbe' := Lib.hid (hWw.out _ hbe)
    have hle : w.heap.size ≤ B0 := by have := hwb.out; omega
    have oj' := Lib.hid (show OwnJ W3 w.heap.size jv (js.take 7) from own_base oj hle)
    have oo' := Lib.hid (show OwnO W3 w.heap.size ov (os.take 21) from own_base oo hle)
    have hrg := Lib.hid (range3 k0 k1 k2)
    clear oj oo hbe k0 k1 k2 c0 c1 c2 hth hWw
    go_wp2_with fail
    refine bodyPost_ret (results_cell_mid rfl _ _ b2 _ _ htm hrg.out Try.underlying25 rfl (by kernel_rfl)) rfl ?_
    exact ⟨jv, ov, rfl, oj'.out, oo'.out, hbe'.out⟩
  · refine wp_region_any (by kernel_rfl) (wpAny_of_held (S := fun w' => Below b2 W w' ∧ w'.there b2 0 3) _ _ _ _ ?_)
    have hHeld : Below b2 W W.drew ∧ W.drew.there b2 0 3 := ⟨(Below.refl _ _).drew, hth⟩
    change wpAnyH _ _ _ _ _ _ _ _ W.drew
    simp only [List.size_toArray, List.length_cons, List.length_nil, Nat.reduceAdd, Array.replicate_succ, Array.replicate_zero, List.push_toArray, List.nil_append, List.cons_append]
    refine wpAnyH_take (i := 0) (v := .pointer (some ⟨b1, 0, none⟩)) rfl (by kernel_rfl) (by kernel_rfl) (by kernel_rfl) (fun _ _ _ h => by cases h.1) (Or.inl ⟨by rfl, ?_⟩) hHeld ?_
    · intro w' hSw; go_simp
    simp only [Act.put, List.setIfInBounds_toArray, List.set_cons_zero, List.set_cons_succ, List.getElem_toArray, List.getElem_cons_zero]
    refine wpAnyH_take (i := 1) (v := .int .i64 P) rfl (by kernel_rfl) (by kernel_rfl) (by kernel_rfl) (fun _ _ _ h => by cases h.1) (Or.inl ⟨by rfl, ?_⟩) hHeld ?_
    · intro w' hSw; have a1 := (hSw.1.cell (p := ⟨b1, 0, none⟩) hb12).trans c0; go_simp
    simp only [Act.put, List.setIfInBounds_toArray, List.set_cons_zero, List.set_cons_succ, List.getElem_toArray, List.getElem_cons_succ, List.getElem_cons_zero]
    refine wpAnyH_take (i := 3) (v := .pointer (some ⟨b1, 1, none⟩)) rfl (by kernel_rfl) (by kernel_rfl) (by kernel_rfl) (fun _ _ _ h => by cases h.1) (Or.inl ⟨by rfl, ?_⟩) hHeld ?_
    · intro w' hSw; go_simp
    simp only [Act.put, List.setIfInBounds_toArray, List.set_cons_zero, List.set_cons_succ, List.getElem_toArray, List.getElem_cons_succ, List.getElem_cons_zero]
    refine wpAnyH_take (i := 4) (v := .slice a n c) rfl (by kernel_rfl) (by kernel_rfl) (by kernel_rfl) (fun _ _ _ h => by cases h.1) (Or.inl ⟨by rfl, ?_⟩) hHeld ?_
    · intro w' hSw; have a1 := (hSw.1.cell (p := ⟨b1, 1, none⟩) hb12).trans c1; go_simp
    simp only [Act.put, List.setIfInBounds_toArray, List.set_cons_zero, List.set_cons_succ, List.getElem_toArray, List.getElem_cons_succ, List.getElem_cons_zero]
    refine wpAnyH_take (i := 5) (v := .pointer (some ⟨b1, 1, none⟩)) rfl (by kernel_rfl) (by kernel_rfl) (by kernel_rfl) (fun _ _ _ h => by cases h.1) (Or.inl ⟨by rfl, ?_⟩) hHeld ?_
    · intro w' hSw; go_simp
    simp only [Act.put, List.setIfInBounds_toArray, List.set_cons_zero, List.set_cons_succ, List.getElem_toArray, List.getElem_cons_succ, List.getElem_cons_zero]
    refine wpAnyH_take (i := 6) (v := .slice a n c) rfl (by kernel_rfl) (by kernel_rfl) (by kernel_rfl) (fun _ _ _ h => by cases h.1) (Or.inl ⟨by rfl, ?_⟩) hHeld ?_
    · intro w' hSw; have a1 := (hSw.1.cell (p := ⟨b1, 1, none⟩) hb12).trans c1; go_simp
    simp only [Act.put, List.setIfInBounds_toArray, List.set_cons_zero, List.set_cons_succ, List.getElem_toArray, List.getElem_cons_succ, List.getElem_cons_zero]
    refine wpAnyH_take (i := 7) (v := .int .i64 n) rfl (by kernel_rfl) (by kernel_rfl) (by kernel_rfl) (fun _ _ _ h => by cases h.1) (Or.inl ⟨by rfl, ?_⟩) hHeld ?_
    · intro w' hSw; go_simp
    simp only [Act.put, List.setIfInBounds_toArray, List.set_cons_zero, List.set_cons_succ, List.getElem_toArray, List.getElem_cons_succ, List.getElem_cons_zero]
    refine wpAnyH_take (i := 8) (v := .int .i64 p) rfl (by kernel_rfl) (by kernel_rfl) (by kernel_rfl) (fun _ _ _ h => by cases h.1) (Or.inl ⟨by rfl, ?_⟩) hHeld ?_
    · intro w' hSw; go_simp
    simp only [Act.put, List.setIfInBounds_toArray, List.set_cons_zero, List.set_cons_succ, List.getElem_toArray, List.getElem_cons_succ, List.getElem_cons_zero]
    refine wpAnyH_take (i := 9) (v := .slice a p c) rfl (by kernel_rfl) (by kernel_rfl) (by kernel_rfl) (fun _ _ _ h => by cases h.1) (Or.inl ⟨by rfl, ?_⟩) hHeld ?_
    · intro w' hSw; go_simp
    simp only [Act.put, List.setIfInBounds_toArray, List.set_cons_zero, List.set_cons_succ, List.getElem_toArray, List.getElem_cons_succ, List.getElem_cons_zero]
    refine wpAnyH_take (i := 12) (v := .pointer (some ⟨b1, 2, none⟩)) rfl (by kernel_rfl) (by kernel_rfl) (by kernel_rfl) (fun _ _ _ h => by cases h.1) (Or.inl ⟨by rfl, ?_⟩) hHeld ?_
    · intro w' hSw; go_simp
    simp only [Act.put, List.setIfInBounds_toArray, List.set_cons_zero, List.set_cons_succ, List.getElem_toArray, List.getElem_cons_succ, List.getElem_cons_zero]
    refine wpAnyH_take (i := 13) (v := .slice b m d) rfl (by kernel_rfl) (by kernel_rfl) (by kernel_rfl) (fun _ _ _ h => by cases h.1) (Or.inl ⟨by rfl, ?_⟩) hHeld ?_
    · intro w' hSw; have a1 := (hSw.1.cell (p := ⟨b1, 2, none⟩) hb12).trans c2; go_simp
    simp only [Act.put, List.setIfInBounds_toArray, List.set_cons_zero, List.set_cons_succ, List.getElem_toArray, List.getElem_cons_succ, List.getElem_cons_zero]
    refine wpAnyH_take (i := 14) (v := .pointer (some ⟨b1, 2, none⟩)) rfl (by kernel_rfl) (by kernel_rfl) (by kernel_rfl) (fun _ _ _ h => by cases h.1) (Or.inl ⟨by rfl, ?_⟩) hHeld ?_
    · intro w' hSw; go_simp
    simp only [Act.put, List.setIfInBounds_toArray, List.set_cons_zero, List.set_cons_succ, List.getElem_toArray, List.getElem_cons_succ, List.getElem_cons_zero]
    refine wpAnyH_take (i := 15) (v := .slice b m d) rfl (by kernel_rfl) (by kernel_rfl) (by kernel_rfl) (fun _ _ _ h => by cases h.1) (Or.inl ⟨by rfl, ?_⟩) hHeld ?_
    · intro w' hSw; have a1 := (hSw.1.cell (p := ⟨b1, 2, none⟩) hb12).trans c2; go_simp
    simp only [Act.put, List.setIfInBounds_toArray, List.set_cons_zero, List.set_cons_succ, List.getElem_toArray, List.getElem_cons_succ, List.getElem_cons_zero]
    refine wpAnyH_take (i := 16) (v := .int .i64 m) rfl (by kernel_rfl) (by kernel_rfl) (by kernel_rfl) (fun _ _ _ h => by cases h.1) (Or.inl ⟨by rfl, ?_⟩) hHeld ?_
    · intro w' hSw; go_simp
    simp only [Act.put, List.setIfInBounds_toArray, List.set_cons_zero, List.set_cons_succ, List.getElem_toArray, List.getElem_cons_succ, List.getElem_cons_zero]
    refine wpAnyH_take (i := 17) (v := .int .i64 q) rfl (by kernel_rfl) (by kernel_rfl) (by kernel_rfl) (fun _ _ _ h => by cases h.1) (Or.inl ⟨by rfl, ?_⟩) hHeld ?_
    · intro w' hSw; go_simp
    simp only [Act.put, List.setIfInBounds_toArray, List.set_cons_zero, List.set_cons_succ, List.getElem_toArray, List.getElem_cons_succ, List.getElem_cons_zero]
    refine wpAnyH_take (i := 18) (v := .slice b q d) rfl (by kernel_rfl) (by kernel_rfl) (by kernel_rfl) (fun _ _ _ h => by cases h.1) (Or.inl ⟨by rfl, ?_⟩) hHeld ?_
    · intro w' hSw; go_simp
    simp only [Act.put, List.setIfInBounds_toArray, List.set_cons_zero, List.set_cons_succ, List.getElem_toArray, List.getElem_cons_succ, List.getElem_cons_zero]
    refine wpAnyH_ready (rs := [2, 11]) (by kernel_rfl) (by simp) ?_
    refine AllReadyH.cons rfl (fun K hK => ?_) (AllReadyH.cons rfl (fun K hK => ?_) AllReadyH.nil)
    · have hal : Below b2 W (W.alloc (.cells #[] 56)).drew ∧ (W.alloc (.cells #[] 56)).drew.there b2 0 3 := ⟨((Below.refl _ _).alloc hb2W _).drew, World.there_alloc hth _⟩
      have oja := own_drew (lit_own W B0 W.heap.size 4 56 (Nat.le_of_eq hB0) rfl)
      go_simp
      refine hK.out _ _ hal (fun hHeld => ?_)
      clear hK K hal
      simp only [List.setIfInBounds_toArray, List.set_cons_zero, List.set_cons_succ]
      obtain ⟨wa, hqwa⟩ : ∃ x, x = (W.alloc (.cells #[] 56)).drew := ⟨_, rfl⟩
      rw [← hqwa] at oja hHeld  ⊢
      obtain ⟨ga, hgga⟩ : ∃ x, x = W.heap.size := ⟨_, rfl⟩
      rw [← hgga] at oja ⊢
      clear hqwa hgga
      refine wpAnyH_ready (rs := [10, 11]) (by kernel_rfl) (by simp) ?_
      refine AllReadyH.cons rfl (fun K hK => ?_) (AllReadyH.cons rfl (fun K hK => ?_) AllReadyH.nil)
      · refine step_flat Try.underlying22 hiJ hJ0 hJ1 hJ2 rfl (by decide) (by decide) rfl (.tmp 5) (.tmp 12) rfl oja (by simp [Act.eval]) (by simp [Act.eval]) (tj.out.below (hWw.out _ hHeld.1)) (one_flatJ _) (by omega) (Nat.le_trans (Nat.le_of_eq hB0) hHeld.1.size) ?_
        intro jv1 wb ojb hbq hkp
        simp only [Nat.zero_add, List.nil_append] at ojb
        refine hK.out _ _ ⟨hHeld.1.trans (hbq.mono hb2B), fun j hj => by rw [hbq.cell (p := ⟨b2, 0 + j, none⟩) hb2B', hbq.frozen (p := ⟨b2, 0 + j, none⟩) hb2B']; exact hHeld.2 j hj⟩ (fun hHeld => ?_)
        clear hK K hbq hkp
        simp only [Act.put, List.setIfInBounds_toArray, List.set_cons_zero, List.set_cons_succ, List.getElem_toArray, List.getElem_cons_succ, List.getElem_cons_zero]
        refine wpAnyH_ready (rs := [11]) (by kernel_rfl) (by simp) ?_
        refine AllReadyH.cons rfl (fun K hK => ?_) AllReadyH.nil
        have hal : Below b2 W (wb.alloc (.cells #[] 78)) ∧ (wb.alloc (.cells #[] 78)).there b2 0 3 := ⟨hHeld.1.alloc (Nat.le_trans hb2W hHeld.1.size) _, World.there_alloc hHeld.2 _⟩
        have ooc := lit_own wb B0 wb.heap.size 2 78 (Nat.le_trans (Nat.le_of_eq hB0) hHeld.1.size) rfl
        have ojc := own_alloc ojb (.cells #[] 78)
        go_simp
        refine hK.out _ _ hal (fun hHeld => ?_)
        clear hK K hal
        simp only [List.setIfInBounds_toArray, List.set_cons_zero, List.set_cons_succ]
        obtain ⟨wc, hqwc⟩ : ∃ x, x = wb.alloc (.cells #[] 78) := ⟨_, rfl⟩
        rw [← hqwc] at ooc hHeld ojc ⊢
        obtain ⟨gc, hggc⟩ : ∃ x, x = wb.heap.size := ⟨_, rfl⟩
        rw [← hggc] at ooc ⊢
        clear hqwc hggc
        refine wpAnyH_ready (rs := [19]) (by kernel_rfl) (by simp) ?_
        refine AllReadyH.cons rfl (fun K hK => ?_) AllReadyH.nil
        refine step_flat Try.underlying23 hiO hO0 hO1 hO2 rfl (by decide) (by decide) rfl (.tmp 14) (.tmp 21) rfl ooc (by simp [Act.eval]) (by simp [Act.eval]) (to.out.below (hWw.out _ hHeld.1)) (one_flatO _) (by omega) (Nat.le_trans (Nat.le_of_eq hB0) hHeld.1.size) ?_
        intro ov1 wd ood hbq hkp
        simp only [Nat.zero_add, List.nil_append] at ood
        have ojd := hkp _ _ _ _ _ _ (by decide) ojc
        refine hK.out _ _ ⟨hHeld.1.trans (hbq.mono hb2B), fun j hj => by rw [hbq.cell (p := ⟨b2, 0 + j, none⟩) hb2B', hbq.frozen (p := ⟨b2, 0 + j, none⟩) hb2B']; exact hHeld.2 j hj⟩ (fun hHeld => ?_)
        clear hK K hbq hkp
        simp only [Act.put, List.setIfInBounds_toArray, List.set_cons_zero, List.set_cons_succ, List.getElem_toArray, List.getElem_cons_succ, List.getElem_cons_zero]
        obtain ⟨ja, jc, rfl, _⟩ := own_cells ojd
        obtain ⟨oa, oc, rfl, _⟩ := own_cells ood
        refine wpAnyH_take (i := 20) (v := .agg #[.int .i64 P, (.slice ja p jc), (.slice oa q oc)]) rfl (by kernel_rfl) (by kernel_rfl) (by kernel_rfl) (fun _ _ _ h => by cases h.1) (Or.inl ⟨by rfl, ?_⟩) hHeld ?_
        · intro w' hSw; go_simp
        simp only [Act.put, List.setIfInBounds_toArray, List.set_cons_zero, List.set_cons_succ, List.getElem_toArray, List.getElem_cons_succ, List.getElem_cons_zero]
        refine wpAnyH_ready (rs := [21]) (by kernel_rfl) (by simp) ?_
        refine AllReadyH.cons rfl (fun K hK => ?_) AllReadyH.nil
        have t0 := hHeld.2 0 (by omega)
        have t1 := hHeld.2 1 (by omega)
        have t2 := hHeld.2 2 (by omega)
        rw [Nat.zero_add] at t0 t1 t2
        obtain ⟨⟨z0, d0⟩, r0⟩ : (∃ z, wd.cell? ⟨b2, 0, none⟩ = some z) ∧ wd.frozen? ⟨b2, 0, none⟩ = false := ⟨Option.isSome_iff_exists.1 t0.1, t0.2⟩
        obtain ⟨⟨z1, d1⟩, r1⟩ : (∃ z, wd.cell? ⟨b2, 1, none⟩ = some z) ∧ wd.frozen? ⟨b2, 1, none⟩ = false := ⟨Option.isSome_iff_exists.1 t1.1, t1.2⟩
        obtain ⟨⟨z2, d2⟩, r2⟩ : (∃ z, wd.cell? ⟨b2, 2, none⟩ = some z) ∧ wd.frozen? ⟨b2, 2, none⟩ = false := ⟨Option.isSome_iff_exists.1 t2.1, t2.2⟩
        clear t0 t1 t2
        have hfin := fin3 d0 d1 d2 hHeld.1 hHeld.2 ojd ood hb2B' (.slice ja p jc) (.slice oa q oc) P
        have hfo := Lib.hid hfin
        clear hfin
        go_simp
        refine hK.out _ _ hfo.out.1 (fun hHeld => ?_)
        clear hK K
        simp only [List.setIfInBounds_toArray, List.set_cons_zero, List.set_cons_succ]
        refine wpAnyH_done (by kernel_rfl) ?_ _
        exact ⟨rfl, (.slice ja p jc), (.slice oa q oc), ⟨_, rfl, rfl⟩, hfo.out.1.1, by unfold OwnJ; rw [hlj.out]; exact hfo.out.2.1, by unfold OwnO; rw [hlo.out]; exact hfo.out.2.2.1, hfo.out.2.2.2⟩
      · have hal : Below b2 W (wa.alloc (.cells #[] 78)) ∧ (wa.alloc (.cells #[] 78)).there b2 0 3 := ⟨hHeld.1.alloc (Nat.le_trans hb2W hHeld.1.size) _, World.there_alloc hHeld.2 _⟩
        have oob := lit_own wa B0 wa.heap.size 2 78 (Nat.le_trans (Nat.le_of_eq hB0) hHeld.1.size) rfl
        have ojb := own_alloc oja (.cells #[] 78)
        go_simp
        refine hK.out _ _ hal (fun hHeld => ?_)
        clear hK K hal
        simp only [List.setIfInBounds_toArray, List.set_cons_zero, List.set_cons_succ]
        obtain ⟨wb, hqwb⟩ : ∃ x, x = wa.alloc (.cells #[] 78) := ⟨_, rfl⟩
        rw [← hqwb] at oob hHeld ojb ⊢
        obtain ⟨gb, hggb⟩ : ∃ x, x = wa.heap.size := ⟨_, rfl⟩
        rw [← hggb] at oob ⊢
        clear hqwb hggb
        refine wpAnyH_ready (rs := [10]) (by kernel_rfl) (by simp) ?_
        refine AllReadyH.cons rfl (fun K hK => ?_) AllReadyH.nil
        refine step_flat Try.underlying22 hiJ hJ0 hJ1 hJ2 rfl (by decide) (by decide) rfl (.tmp 5) (.tmp 12) rfl ojb (by simp [Act.eval]) (by simp [Act.eval]) (tj.out.below (hWw.out _ hHeld.1)) (one_flatJ _) (by omega) (Nat.le_trans (Nat.le_of_eq hB0) hHeld.1.size) ?_
        intro jv1 wc ojc hbq hkp
        simp only [Nat.zero_add, List.nil_append] at ojc
        have ooc := hkp _ _ _ _ _ _ (by decide) oob
        refine hK.out _ _ ⟨hHeld.1.trans (hbq.mono hb2B), fun j hj => by rw [hbq.cell (p := ⟨b2, 0 + j, none⟩) hb2B', hbq.frozen (p := ⟨b2, 0 + j, none⟩) hb2B']; exact hHeld.2 j hj⟩ (fun hHeld => ?_)
        clear hK K hbq hkp
        simp only [Act.put, List.setIfInBounds_toArray, List.set_cons_zero, List.set_cons_succ, List.getElem_toArray, List.getElem_cons_succ, List.getElem_cons_zero]
        refine wpAnyH_ready (rs := [19]) (by kernel_rfl) (by simp) ?_
        refine AllReadyH.cons rfl (fun K hK => ?_) AllReadyH.nil
        refine step_flat Try.underlying23 hiO hO0 hO1 hO2 rfl (by decide) (by decide) rfl (.tmp 14) (.tmp 21) rfl ooc (by simp [Act.eval]) (by simp [Act.eval]) (to.out.below (hWw.out _ hHeld.1)) (one_flatO _) (by omega) (Nat.le_trans (Nat.le_of_eq hB0) hHeld.1.size) ?_
        intro ov1 wd ood hbq hkp
        simp only [Nat.zero_add, List.nil_append] at ood
        have ojd := hkp _ _ _ _ _ _ (by decide) ojc
        refine hK.out _ _ ⟨hHeld.1.trans (hbq.mono hb2B), fun j hj => by rw [hbq.cell (p := ⟨b2, 0 + j, none⟩) hb2B', hbq.frozen (p := ⟨b2, 0 + j, none⟩) hb2B']; exact hHeld.2 j hj⟩ (fun hHeld => ?_)
        clear hK K hbq hkp
        simp only [Act.put, List.setIfInBounds_toArray, List.set_cons_zero, List.set_cons_succ, List.getElem_toArray, List.getElem_cons_succ, List.getElem_cons_zero]
        obtain ⟨ja, jc, rfl, _⟩ := own_cells ojd
        obtain ⟨oa, oc, rfl, _⟩ := own_cells ood
        refine wpAnyH_take (i := 20) (v := .agg #[.int .i64 P, (.slice ja p jc), (.slice oa q oc)]) rfl (by kernel_rfl) (by kernel_rfl) (by kernel_rfl) (fun _ _ _ h => by cases h.1) (Or.inl ⟨by rfl, ?_⟩) hHeld ?_
        · intro w' hSw; go_simp
        simp only [Act.put, List.setIfInBounds_toArray, List.set_cons_zero, List.set_cons_succ, List.getElem_toArray, List.getElem_cons_succ, List.getElem_cons_zero]
        refine wpAnyH_ready (rs := [21]) (by kernel_rfl) (by simp) ?_
        refine AllReadyH.cons rfl (fun K hK => ?_) AllReadyH.nil
        have t0 := hHeld.2 0 (by omega)
        have t1 := hHeld.2 1 (by omega)
        have t2 := hHeld.2 2 (by omega)
        rw [Nat.zero_add] at t0 t1 t2
        obtain ⟨⟨z0, d0⟩, r0⟩ : (∃ z, wd.cell? ⟨b2, 0, none⟩ = some z) ∧ wd.frozen? ⟨b2, 0, none⟩ = false := ⟨Option.isSome_iff_exists.1 t0.1, t0.2⟩
        obtain ⟨⟨z1, d1⟩, r1⟩ : (∃ z, wd.cell? ⟨b2, 1, none⟩ = some z) ∧ wd.frozen? ⟨b2, 1, none⟩ = false := ⟨Option.isSome_iff_exists.1 t1.1, t1.2⟩
        obtain ⟨⟨z2, d2⟩, r2⟩ : (∃ z, wd.cell? ⟨b2, 2, none⟩ = some z) ∧ wd.frozen? ⟨b2, 2, none⟩ = false := ⟨Option.isSome_iff_exists.1 t2.1, t2.2⟩
        clear t0 t1 t2
        have hfin := fin3 d0 d1 d2 hHeld.1 hHeld.2 ojd ood hb2B' (.slice ja p jc) (.slice oa q oc) P
        have hfo := Lib.hid hfin
        clear hfin
        go_simp
        refine hK.out _ _ hfo.out.1 (fun hHeld => ?_)
        clear hK K
        simp only [List.setIfInBounds_toArray, List.set_cons_zero, List.set_cons_succ]
        refine wpAnyH_done (by kernel_rfl) ?_ _
        exact ⟨rfl, (.slice ja p jc), (.slice oa q oc), ⟨_, rfl, rfl⟩, hfo.out.1.1, by unfold OwnJ; rw [hlj.out]; exact hfo.out.2.1, by unfold OwnO; rw [hlo.out]; exact hfo.out.2.2.1, hfo.out.2.2.2⟩
    · have hal : Below b2 W (W.alloc (.cells #[] 78)).drew ∧ (W.alloc (.cells #[] 78)).drew.there b2 0 3 := ⟨((Below.refl _ _).alloc hb2W _).drew, World.there_alloc hth _⟩
      have ooa := own_drew (lit_own W B0 W.heap.size 2 78 (Nat.le_of_eq hB0) rfl)
      go_simp
      refine hK.out _ _ hal (fun hHeld => ?_)
      clear hK K hal
      simp only [List.setIfInBounds_toArray, List.set_cons_zero, List.set_cons_succ]
      obtain ⟨wa, hqwa⟩ : ∃ x, x = (W.alloc (.cells #[] 78)).drew := ⟨_, rfl⟩
      rw [← hqwa] at ooa hHeld  ⊢
      obtain ⟨ga, hgga⟩ : ∃ x, x = W.heap.size := ⟨_, rfl⟩
      rw [← hgga] at ooa ⊢
      clear hqwa hgga
      refine wpAnyH_ready (rs := [2]) (by kernel_rfl) (by simp) ?_
      refine AllReadyH.cons rfl (fun K hK => ?_) AllReadyH.nil
      have hal : Below b2 W (wa.alloc (.cells #[] 56)) ∧ (wa.alloc (.cells #[] 56)).there b2 0 3 := ⟨hHeld.1.alloc (Nat.le_trans hb2W hHeld.1.size) _, World.there_alloc hHeld.2 _⟩
      have ojb := lit_own wa B0 wa.heap.size 4 56 (Nat.le_trans (Nat.le_of_eq hB0) hHeld.1.size) rfl
      have oob := own_alloc ooa (.cells #[] 56)
      go_simp
      refine hK.out _ _ hal (fun hHeld => ?_)
      clear hK K hal
      simp only [List.setIfInBounds_toArray, List.set_cons_zero, List.set_cons_succ]
      obtain ⟨wb, hqwb⟩ : ∃ x, x = wa.alloc (.cells #[] 56) := ⟨_, rfl⟩
      rw [← hqwb] at ojb hHeld oob ⊢
      obtain ⟨gb, hggb⟩ : ∃ x, x = wa.heap.size := ⟨_, rfl⟩
      rw [← hggb] at ojb ⊢
      clear hqwb hggb
      refine wpAnyH_ready (rs := [10]) (by kernel_rfl) (by simp) ?_
      refine AllReadyH.cons rfl (fun K hK => ?_) AllReadyH.nil
      refine step_flat Try.underlying22 hiJ hJ0 hJ1 hJ2 rfl (by decide) (by decide) rfl (.tmp 5) (.tmp 12) rfl ojb (by simp [Act.eval]) (by simp [Act.eval]) (tj.out.below (hWw.out _ hHeld.1)) (one_flatJ _) (by omega) (Nat.le_trans (Nat.le_of_eq hB0) hHeld.1.size) ?_
      intro jv1 wc ojc hbq hkp
      simp only [Nat.zero_add, List.nil_append] at ojc
      have ooc := hkp _ _ _ _ _ _ (by decide) oob
      refine hK.out _ _ ⟨hHeld.1.trans (hbq.mono hb2B), fun j hj => by rw [hbq.cell (p := ⟨b2, 0 + j, none⟩) hb2B', hbq.frozen (p := ⟨b2, 0 + j, none⟩) hb2B']; exact hHeld.2 j hj⟩ (fun hHeld => ?_)
      clear hK K hbq hkp
      simp only [Act.put, List.setIfInBounds_toArray, List.set_cons_zero, List.set_cons_succ, List.getElem_toArray, List.getElem_cons_succ, List.getElem_cons_zero]
      refine wpAnyH_ready (rs := [19]) (by kernel_rfl) (by simp) ?_
      refine AllReadyH.cons rfl (fun K hK => ?_) AllReadyH.nil
      refine step_flat Try.underlying23 hiO hO0 hO1 hO2 rfl (by decide) (by decide) rfl (.tmp 14) (.tmp 21) rfl ooc (by simp [Act.eval]) (by simp [Act.eval]) (to.out.below (hWw.out _ hHeld.1)) (one_flatO _) (by omega) (Nat.le_trans (Nat.le_of_eq hB0) hHeld.1.size) ?_
      intro ov1 wd ood hbq hkp
      simp only [Nat.zero_add, List.nil_append] at ood
      have ojd := hkp _ _ _ _ _ _ (by decide) ojc
      refine hK.out _ _ ⟨hHeld.1.trans (hbq.mono hb2B), fun j hj => by rw [hbq.cell (p := ⟨b2, 0 + j, none⟩) hb2B', hbq.frozen (p := ⟨b2, 0 + j, none⟩) hb2B']; exact hHeld.2 j hj⟩ (fun hHeld => ?_)
      clear hK K hbq hkp
      simp only [Act.put, List.setIfInBounds_toArray, List.set_cons_zero, List.set_cons_succ, List.getElem_toArray, List.getElem_cons_succ, List.getElem_cons_zero]
      obtain ⟨ja, jc, rfl, _⟩ := own_cells ojd
      obtain ⟨oa, oc, rfl, _⟩ := own_cells ood
      refine wpAnyH_take (i := 20) (v := .agg #[.int .i64 P, (.slice ja p jc), (.slice oa q oc)]) rfl (by kernel_rfl) (by kernel_rfl) (by kernel_rfl) (fun _ _ _ h => by cases h.1) (Or.inl ⟨by rfl, ?_⟩) hHeld ?_
      · intro w' hSw; go_simp
      simp only [Act.put, List.setIfInBounds_toArray, List.set_cons_zero, List.set_cons_succ, List.getElem_toArray, List.getElem_cons_succ, List.getElem_cons_zero]
      refine wpAnyH_ready (rs := [21]) (by kernel_rfl) (by simp) ?_
      refine AllReadyH.cons rfl (fun K hK => ?_) AllReadyH.nil
      have t0 := hHeld.2 0 (by omega)
      have t1 := hHeld.2 1 (by omega)
      have t2 := hHeld.2 2 (by omega)
      rw [Nat.zero_add] at t0 t1 t2
      obtain ⟨⟨z0, d0⟩, r0⟩ : (∃ z, wd.cell? ⟨b2, 0, none⟩ = some z) ∧ wd.frozen? ⟨b2, 0, none⟩ = false := ⟨Option.isSome_iff_exists.1 t0.1, t0.2⟩
      obtain ⟨⟨z1, d1⟩, r1⟩ : (∃ z, wd.cell? ⟨b2, 1, none⟩ = some z) ∧ wd.frozen? ⟨b2, 1, none⟩ = false := ⟨Option.isSome_iff_exists.1 t1.1, t1.2⟩
      obtain ⟨⟨z2, d2⟩, r2⟩ : (∃ z, wd.cell? ⟨b2, 2, none⟩ = some z) ∧ wd.frozen? ⟨b2, 2, none⟩ = false := ⟨Option.isSome_iff_exists.1 t2.1, t2.2⟩
      clear t0 t1 t2
      have hfin := fin3 d0 d1 d2 hHeld.1 hHeld.2 ojd ood hb2B' (.slice ja p jc) (.slice oa q oc) P
      have hfo := Lib.hid hfin
      clear hfin
      go_simp
      refine hK.out _ _ hfo.out.1 (fun hHeld => ?_)
      clear hK K
      simp only [List.setIfInBounds_toArray, List.set_cons_zero, List.set_cons_succ]
      refine wpAnyH_done (by kernel_rfl) ?_ _
      exact ⟨rfl, (.slice ja p jc), (.slice oa q oc), ⟨_, rfl, rfl⟩, hfo.out.1.1, by unfold OwnJ; rw [hlj.out]; exact hfo.out.2.1, by unfold OwnO; rw [hlo.out]; exact hfo.out.2.2.1, hfo.out.2.2.2⟩
end Go.Proofs.Ytjkbhdlbomcbeaa
