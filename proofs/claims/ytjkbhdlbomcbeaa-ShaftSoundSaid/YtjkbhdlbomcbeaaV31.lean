import Derived.Test.YtjkbhdlbomcbeaaVm
import Derived.Test.YtjkbhdlbomcbeaaV13
import Derived.Test.YtjkbhdlbomcbeaaV14
import Derived.Test.YtjkbhdlbomcbeaaV15
import Derived.Test.YtjkbhdlbomcbeaaV16
import Derived.Test.YtjkbhdlbomcbeaaV17
namespace Go.Proofs.Ytjkbhdlbomcbeaa
open Go.RowKit Go.Shelf Shf
theorem own_nilJ (w : World) (B : Nat) : OwnJ w B (.slice none 0 0) [] := ⟨rfl, .inl ⟨rfl, rfl⟩⟩
theorem own_nilO (w : World) (B : Nat) : OwnO w B (.slice none 0 0) [] := ⟨rfl, .inl ⟨rfl, rfl⟩⟩
theorem MkJ.step {w wo W6 wk : World} {pv av bv v' jv : Value} {P : Int} {js : List J} {j : J} {o : Obj} (h : MkJ w wo pv av bv P jv js) (hb6 : Below wo.heap.size wo W6) (hbk : Below (w.heap.size + 1 + 1 + 1) (W6.alloc o) wk)
    (hown : wk.ownsRow (w.heap.size + 1 + 1 + 1) 56 4 v' (js.length + 1) (flat encJ js ++ flat encJ [j])) : MkJ w (wk.setCell ⟨w.heap.size + 1 + 1, 1, none⟩ v') pv av bv P v' (js ++ [j]) := by
  obtain ⟨h0, h1, h2, h3, h4, h5⟩ := h
  have hB : Below (w.heap.size + 1 + 1 + 1) wo wk := ((hb6.mono h5).trans ((Below.refl _ _).alloc (Nat.le_trans h5 hb6.size) _)).trans hbk
  have k2 := h2.keep hB (by omega)
  refine ⟨(h0.keep hB (by omega)).other (by omega), (h1.keep hB (by omega)).other (by omega), ⟨⟨?_, ?_, ?_⟩, fun i => by rw [World.frozen?_setCell]; exact k2.2 i⟩, ?_, below_set (h4.trans (hB.mono (by omega))) (by omega), by rw [World.size_setCell]; exact Nat.le_trans h5 hB.size⟩
  · rw [World.cell?_setCell_other _ _ _ _ (by simp)]; exact k2.1.1
  · exact World.cell?_setCell_same' _ _ _ (by rw [k2.1.2.1]; rfl)
  · rw [World.cell?_setCell_other _ _ _ _ (by simp)]; exact k2.1.2.2
  · have h6 : OwnJ wk (w.heap.size + 1 + 1 + 1) v' (js ++ [j]) := by
      unfold OwnJ
      rw [flat_app, List.length_append]
      exact hown
    exact ownsRow_setCell_below h6 (by show w.heap.size + 1 + 1 < _; omega) _
theorem lit_job (W : World) (f t l p : Int) : FlatR (W.alloc (.cells #[.int .i64 f, .int .i64 t, .int .i64 l, .int .i64 p] 56)) 4 (.slice (some ⟨W.heap.size, 0, none⟩) 1 1) 1 (flat encJ [⟨f, t, l, p⟩]) :=
  ⟨rfl, _, _, rfl, Nat.le_refl _, (fun e => by cases e), fun _ => ⟨_, _, rfl, by simp, fun j u hj => by
    match j, hj with
    | 0, hj | 1, hj | 2, hj | 3, hj => simp [flat, encJ] at hj; subst hj; simp
    | j + 4, hj => simp [flat, encJ] at hj⟩⟩
theorem MkJ.lit {w wo : World} {pv av bv jv : Value} {P f t l p : Int} (h : MkJ w wo pv av bv P jv []) :
    MkJ w ((wo.alloc (.cells #[.int .i64 f, .int .i64 t, .int .i64 l, .int .i64 p] 56)).setCell ⟨w.heap.size + 1 + 1, 1, none⟩ (.slice (some ⟨wo.heap.size, 0, none⟩) 1 1)) pv av bv P (.slice (some ⟨wo.heap.size, 0, none⟩) 1 1) [⟨f, t, l, p⟩] :=
  h.step (W6 := wo) (j := ⟨f, t, l, p⟩) (Below.refl _ _) (Below.refl _ _) ⟨rfl, .inr ⟨wo.heap.size, 1, #[.int .i64 f, .int .i64 t, .int .i64 l, .int .i64 p], rfl, h.2.2.2.2.2, heap_alloc_new wo _, Nat.le_refl _, by unfold maxLen; omega, rfl, rfl⟩⟩
theorem app_flatK {ops : Array Oper} {rest : List Oper} {o : Oper} {a : Act} {Q : Exit → Act → World → Prop} {w : World} {B m n z bytes : Nat} {t e : TypeId} {i0 : TypeInfo} {zv : Value} (ht : Try.prog.underlying t = some (.slice e)) (hi : Try.prog.info? e = some i0) (hz0 : i0.zero = some zv) (hz1 : i0.size = z) (hz2 : i0.bytes = bytes) (hzc : zv.cells.size = z) (hz : 0 < z) (hby : bytes ≤ 100)
    {v x : Value} {xs ys : List Value} (hown : w.ownsRow B e z v n xs) (hx : FlatR w z x m ys) (h1 : ∀ u ∈ ys, u.oneCell' = true) (hlen : n + m ≤ 1000000) (hB : B ≤ w.heap.size) (hgd : o.guard = none) (sl xo : Operand)
    (ho : o.op = .call { callee := .builtin .append, args := #[sl, xo], argTypes := #[t, t] }) (hs : a.eval sl = v) (hxv : a.eval xo = x)
    (h : ∀ v' w', w'.ownsRow B e z v' (n + m) (xs ++ ys) → Below B w w' → (∀ B2 e2 z2 u k zs, e2 ≠ e → w.ownsRow B2 e2 z2 u k zs → w'.ownsRow B2 e2 z2 u k zs) → wpList Try.prog ops Q rest (a.put o.dst v') w') : wpList Try.prog ops Q (o :: rest) a w := by
  refine wpList_plain hgd fun K hK => ?_
  obtain ⟨v', w', hrun, r1, r2⟩ := run_app_flat (ty := o.type) ht hi hz0 hz1 hz2 hzc hz hby hown hx h1 hlen hB
  unfold Oper.wp execOp
  simp only [ho, resolve, invoke, builtin, Sem.run_bind, Sem.run_pure, Result.andThen_ok, List.map_toArray, List.map_cons, List.map_nil, hs, hxv, hrun]
  refine hK _ _ (h v' w' r1 ((Below.refl B w).grown r2 hB (fun k hk => (World.ownsRow.lt hown k hk).1)) ?_)
  intro B2 e2 z2 u k zs hne hz
  refine World.ownsRow.kept hz r2 ?_
  rcases hz.2 with ⟨rfl, _⟩ | ⟨g, cap, cur, rfl, _, hg, _⟩
  · exact .inl rfl
  · right
    intro e3
    rcases hown.2 with ⟨rfl, _⟩ | ⟨g', cap', cur', rfl, _, hg', _⟩
    · simp [Value.ownBlock] at e3
    · simp only [Value.ownBlock, Option.some.injEq] at e3
      subst e3
      rw [hg] at hg'
      simp at hg'
      exact hne hg'.2
theorem MkO.start {w W : World} {pv av bv jv : Value} {P : Int} {js : List J} (h : MkJ w W pv av bv P jv js) : MkO w W pv av bv P jv js (.slice none 0 0) [] := ⟨h.1, h.2.1, h.2.2.1, h.2.2.2.1, own_nilO _ _, h.2.2.2.2.1, h.2.2.2.2.2⟩
theorem MkO.below {w W W' : World} {pv av bv jv ov : Value} {P : Int} {js : List J} {os : List (Int × Int)} (h : MkO w W pv av bv P jv js ov os) (hb : Below W.heap.size W W') : MkO w W' pv av bv P jv js ov os := by
  obtain ⟨h0, h1, h2, h3, h4, h5, h6⟩ := h
  exact ⟨h0.keep hb (by omega), h1.keep hb (by omega), h2.keep hb (by omega), own_below h3 hb, own_below h4 hb, below_call h5 hb, Nat.le_trans h6 hb.size⟩
theorem MkO.step {w W wk : World} {pv av bv jv ov v' : Value} {P : Int} {js : List J} {os : List (Int × Int)} {x : Int × Int} {o : Obj} (h : MkO w W pv av bv P jv js ov os) (hbk : Below (w.heap.size + 1 + 1 + 1) (W.alloc o) wk)
    (hkp : ∀ B2 e2 z2 u k zs, e2 ≠ 78 → (W.alloc o).ownsRow B2 e2 z2 u k zs → wk.ownsRow B2 e2 z2 u k zs)
    (hown : wk.ownsRow (w.heap.size + 1 + 1 + 1) 78 2 v' (os.length + 1) (flat encO os ++ flat encO [x])) : MkO w (wk.setCell ⟨w.heap.size + 1 + 1, 2, none⟩ v') pv av bv P jv js v' (os ++ [x]) := by
  obtain ⟨h0, h1, h2, h3, h4, h5, h6⟩ := h
  have hB : Below (w.heap.size + 1 + 1 + 1) W wk := ((Below.refl _ _).alloc h6 _).trans hbk
  have k2 := h2.keep hB (by omega)
  refine ⟨(h0.keep hB (by omega)).other (by omega), (h1.keep hB (by omega)).other (by omega), ⟨⟨?_, ?_, ?_⟩, fun i => by rw [World.frozen?_setCell]; exact k2.2 i⟩, ownsRow_setCell_below (hkp _ _ _ _ _ _ (by decide) (own_alloc h3 _)) (by show w.heap.size + 1 + 1 < _; omega) _, ?_, below_set (h5.trans (hB.mono (by omega))) (by omega), by rw [World.size_setCell]; exact Nat.le_trans h6 hB.size⟩
  · rw [World.cell?_setCell_other _ _ _ _ (by simp)]; exact k2.1.1
  · rw [World.cell?_setCell_other _ _ _ _ (by simp)]; exact k2.1.2.1
  · exact World.cell?_setCell_same' _ _ _ (by rw [k2.1.2.2]; rfl)
  · have h6 : OwnO wk (w.heap.size + 1 + 1 + 1) v' (os ++ [x]) := by
      unfold OwnO
      rw [flat_app, List.length_append]
      exact hown
    exact ownsRow_setCell_below h6 (by show w.heap.size + 1 + 1 < _; omega) _
theorem made_fin {w W : World} {pv av bv : Value} {P : Int} {ja oa : Option Addr} {jl jc ol oc : Nat} {js : List J} {os : List (Int × Int)} {jn : Nat} (h : MkO w W pv av bv P (.slice ja jl jc) js (.slice oa ol oc) os) (hj : ∀ j ∈ js, jobB j = true) (h15 : 1 ≤ js.length ∧ js.length ≤ 5) (hn : jn = js.length) (ho : ∀ o ∈ os, ordB jn o = true) (ho6 : os.length ≤ 6) (hP : 1 ≤ P ∧ P ≤ 6) :
    MadeEnd w (.returned (.agg [.int .i64 P, .slice ja jl jc, .slice oa ol oc].toArray)) (((W.setCell ⟨w.heap.size + 1, 0, none⟩ (.int .i64 P)).setCell ⟨w.heap.size + 1, 1, none⟩ (.slice ja jl jc)).setCell ⟨w.heap.size + 1, 2, none⟩ (.slice oa ol oc)) := by
  obtain ⟨-, -, -, h3, h4, h5, h6⟩ := h
  refine ⟨P, _, _, js, os, rfl, own_base (ownsRow_setCell_below (ownsRow_setCell_below (ownsRow_setCell_below h3 (by show w.heap.size + 1 < _; omega) _) (by show w.heap.size + 1 < _; omega) _) (by show w.heap.size + 1 < _; omega) _) (by omega), own_base (ownsRow_setCell_below (ownsRow_setCell_below (ownsRow_setCell_below h4 (by show w.heap.size + 1 < _; omega) _) (by show w.heap.size + 1 < _; omega) _) (by show w.heap.size + 1 < _; omega) _) (by omega), ?_, below_set (below_set (below_set h5 (by omega)) (by omega)) (by omega)⟩
  subst hn
  unfold validB
  simp only [Bool.and_eq_true, List.all_eq_true, inB, decide_eq_true_eq]
  exact ⟨hj, ho, ⟨by omega, by omega⟩, ⟨by omega, by omega⟩, by omega⟩
theorem cells4 {w W : World} {aa : Option Addr} {n ac i : Nat} {xs : List (Nat × Nat × Nat × Nat)} (h : FlatR w 4 (.slice aa n ac) n (flat enc4 xs)) (hn : n = xs.length) (h8 : ∀ x ∈ xs, x.1 < 256 ∧ x.2.1 < 256 ∧ x.2.2.1 < 256 ∧ x.2.2.2 < 256) (hb : Below w.heap.size w W) (hi : i < n) :
    ∃ x0 x1 x2 x3 : Nat, x0 < 256 ∧ x1 < 256 ∧ x2 < 256 ∧ x3 < 256 ∧ ∃ g o, aa = some ⟨g, o, none⟩ ∧ W.cell? ⟨g, o + i * 4, none⟩ = some (.int .u8 x0) ∧ W.cell? ⟨g, o + i * 4 + 1, none⟩ = some (.int .u8 x1) ∧ W.cell? ⟨g, o + i * 4 + 2, none⟩ = some (.int .u8 x2) ∧ W.cell? ⟨g, o + i * 4 + 3, none⟩ = some (.int .u8 x3) := by
  obtain ⟨-, ao, c, e, -, -, hcl⟩ := h
  obtain ⟨g, o, rfl, hg, hcell⟩ := hcl (by omega)
  have hi' : i < xs.length := by omega
  obtain ⟨g0, g1, g2, g3⟩ := h8 _ (List.getElem_mem hi')
  have key : ∀ k (u : Value), k < 4 → (enc4 xs[i])[k]? = some u → W.cell? ⟨g, o + i * 4 + k, none⟩ = some u := fun k u hk hu => by
    have h1 := hcell (i * 4 + k) u ((flat_at (enc := enc4) (fun _ => rfl) xs i k hi' hk).trans hu)
    rw [← Nat.add_assoc] at h1
    exact (hb.cell (p := ⟨g, o + i * 4 + k, none⟩) hg).trans h1
  exact ⟨_, _, _, _, g0, g1, g2, g3, g, o, by injection e, key 0 _ (by decide) rfl, key 1 _ (by decide) rfl, key 2 _ (by decide) rfl, key 3 _ (by decide) rfl⟩
theorem cells2 {w W : World} {aa : Option Addr} {n ac i : Nat} {xs : List (Nat × Nat)} (h : FlatR w 2 (.slice aa n ac) n (flat enc2 xs)) (hn : n = xs.length) (h8 : ∀ x ∈ xs, x.1 < 256 ∧ x.2 < 256) (hb : Below w.heap.size w W) (hi : i < n) :
    ∃ x0 x1 : Nat, x0 < 256 ∧ x1 < 256 ∧ ∃ g o, aa = some ⟨g, o, none⟩ ∧ W.cell? ⟨g, o + i * 2, none⟩ = some (.int .u8 x0) ∧ W.cell? ⟨g, o + i * 2 + 1, none⟩ = some (.int .u8 x1) := by
  obtain ⟨-, ao, c, e, -, -, hcl⟩ := h
  obtain ⟨g, o, rfl, hg, hcell⟩ := hcl (by omega)
  have hi' : i < xs.length := by omega
  obtain ⟨g0, g1⟩ := h8 _ (List.getElem_mem hi')
  have key : ∀ k (u : Value), k < 2 → (enc2 xs[i])[k]? = some u → W.cell? ⟨g, o + i * 2 + k, none⟩ = some u := fun k u hk hu => by
    have h1 := hcell (i * 2 + k) u ((flat_at (enc := enc2) (fun _ => rfl) xs i k hi' hk).trans hu)
    rw [← Nat.add_assoc] at h1
    exact (hb.cell (p := ⟨g, o + i * 2 + k, none⟩) hg).trans h1
  exact ⟨_, _, g0, g1, g, o, by injection e, key 0 _ (by decide) rfl, key 1 _ (by decide) rfl⟩
theorem lit_ord (W : World) (a b : Int) : FlatR (W.alloc (.cells #[.int .i64 a, .int .i64 b] 78)) 2 (.slice (some ⟨W.heap.size, 0, none⟩) 1 1) 1 (flat encO [(a, b)]) :=
  ⟨rfl, _, _, rfl, Nat.le_refl _, (fun e => by cases e), fun _ => ⟨_, _, rfl, by simp, fun j u hj => by
    match j, hj with
    | 0, hj | 1, hj => simp [flat, encO] at hj; subst hj; simp
    | j + 2, hj => simp [flat, encO] at hj⟩⟩
set_option maxHeartbeats 8000000 in
set_option maxRecDepth 100000 in
theorem made35 {w : World} {v : Value} {p : Nat} {xs : List (Nat × Nat × Nat × Nat)} {bs : List (Nat × Nat)} (h : InWork w v p xs bs) : Calls Try.prog 35 #[v] w (MadeEnd w) := by
  obtain ⟨av, bv, rfl, hp, ha, hb, ham, hbm, ha8, hb8⟩ := h
  obtain ⟨n, hn⟩ : ∃ n, n = xs.length := ⟨_, rfl⟩
  obtain ⟨m, hm⟩ : ∃ m, m = bs.length := ⟨_, rfl⟩
  rw [← hn] at ha ham
  rw [← hm] at hb hbm
  obtain ⟨aa, ac, rfl⟩ : ∃ a c, av = .slice a n c := by obtain ⟨_, a, c, e, _⟩ := ha; exact ⟨_, _, e⟩
  obtain ⟨ba, bc, rfl⟩ : ∃ a c, bv = .slice a m c := by obtain ⟨_, a, c, e, _⟩ := hb; exact ⟨_, _, e⟩
  have ha' := Lib.hid ha
  have hb' := Lib.hid hb
  have hn' := Lib.hid hn
  have hm' := Lib.hid hm
  have ha8' := Lib.hid ha8
  have hb8' := Lib.hid hb8
  obtain ⟨P, hP⟩ : ∃ P, (p : Int) % 6 + 1 = P := ⟨_, rfl⟩
  have hPb := Lib.hid (show 1 ≤ P ∧ P ≤ 6 by omega)
  have hP' := Lib.hid hP
  clear ha hb hn hm ha8 hb8 hP
  go_enter Try.func35, Try.ntmps35
  go_upto_region 2 with fail
  rw [hP'.out]
  have b1 := Lib.hid (below_alloc1 w (.cells #[.int .u8 (p : Int), .slice aa n ac, .slice ba m bc] 64))
  have h1 := Lib.hid (Three.new w (.int .u8 (p : Int)) (.slice aa n ac) (.slice ba m bc) 64)
  have s1 : (w.alloc (.cells #[.int .u8 (p : Int), .slice aa n ac, .slice ba m bc] 64)).heap.size = w.heap.size + 1 := by simp
  obtain ⟨w1, hw1⟩ : ∃ w1, w1 = w.alloc (.cells #[.int .u8 (p : Int), .slice aa n ac, .slice ba m bc] 64) := ⟨_, rfl⟩
  rw [← hw1] at b1 h1 s1 ⊢
  have b2 := below_alloc1 w1 (.cells #[.int .i64 0, .slice none 0 0, .slice none 0 0] 25)
  have h2 := Three.new w1 (.int .i64 0) (.slice none 0 0) (.slice none 0 0) 25
  have s2 : (w1.alloc (.cells #[.int .i64 0, .slice none 0 0, .slice none 0 0] 25)).heap.size = w.heap.size + 1 + 1 := by simp [s1]
  obtain ⟨w2, hw2⟩ : ∃ w2, w2 = w1.alloc (.cells #[.int .i64 0, .slice none 0 0, .slice none 0 0] 25) := ⟨_, rfl⟩
  rw [← hw2] at b2 h2 s2 ⊢
  have b3 := below_alloc1 w2 (.cells #[.int .i64 P, .slice none 0 0, .slice none 0 0] 25)
  have h3 := Three.new w2 (.int .i64 P) (.slice none 0 0) (.slice none 0 0) 25
  have s3 : (w2.alloc (.cells #[.int .i64 P, .slice none 0 0, .slice none 0 0] 25)).heap.size = w.heap.size + 1 + 1 + 1 := by simp [s2]
  obtain ⟨w3, hw3⟩ : ∃ w3, w3 = w2.alloc (.cells #[.int .i64 P, .slice none 0 0, .slice none 0 0] 25) := ⟨_, rfl⟩
  rw [← hw3] at b3 h3 s3 ⊢
  have hI0 : MkJ w w3 (.int .u8 (p : Int)) (.slice aa n ac) (.slice ba m bc) P (.slice none 0 0) [] :=
    ⟨h1.out.keep (b2.trans (b3.mono (by omega))) (by omega), s1 ▸ h2.keep b3 (by omega), s2 ▸ h3, own_nilJ _ _, below_call (below_call b1.out b2) b3, by omega⟩
  have hI0' := Lib.hid hI0
  clear hw1 hw2 hw3 b1 h1 s1 b2 h2 s2 b3 h3 s3 hI0
  go_wp2_with fail
  go_loopw [4] (fun iv wr => ∃ i : Nat, ∃ js jv, i ≤ n ∧ i ≤ 5 ∧ iv = .int .i64 i ∧ js.length = i ∧ (∀ j ∈ js, jobB j = true) ∧ Hid (MkJ w wr (.int .u8 (p : Int)) (.slice aa n ac) (.slice ba m bc) P jv js)) (fun iv _ => 5 - (intOf iv).toNat)
  case atStart => exact ⟨0, [], _, Nat.zero_le _, Nat.zero_le _, rfl, rfl, fun j hj => absurd hj List.not_mem_nil, hI0'⟩
  case round =>
    obtain ⟨i, js, jv, hin, hi5, rfl, hjl, hjb, hM⟩ := hrel
    obtain ⟨wo, rfl⟩ : ∃ wo : World, wo = wr := ⟨_, rfl⟩
    clear hI0'
    obtain ⟨⟨⟨a0, a1, a2⟩, -⟩, -, ⟨⟨z0, z1, z2⟩, zf⟩, hJ, hbw, hsz⟩ := hM.out
    have zf1 := zf 1
    by_cases hl : i < n ∧ i < 5
    · obtain ⟨hl1, hl2⟩ := hl
      have hl3 : (i : Int) < (n : Int) := by omega
      have hl4 : decide ((i : Int) < 5) = true := by simp; omega
      obtain ⟨x0, x1, x2, x3, hx0, hx1, hx2, hx3, g, o, rfl, c0, c1, c2, c3⟩ : ∃ x0 x1 x2 x3 : Nat, x0 < 256 ∧ x1 < 256 ∧ x2 < 256 ∧ x3 < 256 ∧ ∃ g o, aa = some ⟨g, o, none⟩ ∧ wo.cell? ⟨g, o + i * 4, none⟩ = some (.int .u8 x0) ∧ wo.cell? ⟨g, o + i * 4 + 1, none⟩ = some (.int .u8 x1) ∧ wo.cell? ⟨g, o + i * 4 + 2, none⟩ = some (.int .u8 x2) ∧ wo.cell? ⟨g, o + i * 4 + 3, none⟩ = some (.int .u8 x3) := cells4 ha'.out hn'.out ha8'.out hbw hl1
      have hM' := hM
      have hjl' := Lib.hid (show js.length ≤ 5 by omega)
      have hjb' := Lib.hid hjb
      have hjn := Lib.hid hjl
      clear hM hJ hbw hsz zf hjb hjl
      obtain ⟨ja, jl, jc, rfl, hjl2⟩ := own_len hM'.out.2.2.2.1
      go_upto_region 7 with fail
      obtain ⟨W5, hW5⟩ : ∃ W5, W5 = wo.alloc (Obj.cells #[Value.int IntKind.u8 (x0 : Int), Value.int IntKind.u8 (x1 : Int), Value.int IntKind.u8 (x2 : Int), Value.int IntKind.u8 (x3 : Int)] 108) := ⟨_, rfl⟩
      have e0 : W5.cell? ⟨wo.heap.size, 0, none⟩ = some (.int .u8 x0) := by rw [hW5]; simp
      have e1 : W5.cell? ⟨wo.heap.size, 1, none⟩ = some (.int .u8 x1) := by rw [hW5]; simp
      have e2 : W5.cell? ⟨wo.heap.size, 2, none⟩ = some (.int .u8 x2) := by rw [hW5]; simp
      have e3 : W5.cell? ⟨wo.heap.size, 3, none⟩ = some (.int .u8 x3) := by rw [hW5]; simp
      have hb5 := Lib.hid (show Below wo.heap.size wo W5 by rw [hW5]; exact below_alloc1 _ _)
      rw [← hW5]
      clear hW5
      obtain ⟨F, hF⟩ : ∃ F, (x0 : Int) % 10 = F := ⟨_, rfl⟩
      obtain ⟨L, hL⟩ : ∃ L, (x1 : Int) % 5 + 1 = L := ⟨_, rfl⟩
      obtain ⟨Y, hY⟩ : ∃ Y, (x2 : Int) % 6 = Y := ⟨_, rfl⟩
      obtain ⟨R, hR⟩ : ∃ R, (x3 : Int) % 6 + 1 = R := ⟨_, rfl⟩
      have hFb : 0 ≤ F ∧ F ≤ 9 := by omega
      have hLb : 1 ≤ L ∧ L ≤ 5 := by omega
      have hYb : 0 ≤ Y ∧ Y ≤ 5 := by omega
      have hRb : 1 ≤ R ∧ R ≤ 6 := by omega
      have hF' := Lib.hid hF
      have hL' := Lib.hid hL
      have hY' := Lib.hid hY
      have hR' := Lib.hid hR
      have hq := Lib.hid (And.intro hFb (And.intro hLb (And.intro hYb hRb)))
      clear hF hL hY hR hFb hLb hYb hRb
      go_quiet (fail)
      rw [hF'.out, hL'.out, hY'.out]
      obtain ⟨W6, hW6⟩ : ∃ W6, W6 = W5.drewN nq := ⟨_, rfl⟩
      have k3 : W6.cell? ⟨wo.heap.size, 3, none⟩ = some (.int .u8 x3) := by rw [hW6]; exact e3
      have hb6 := Lib.hid (show Below wo.heap.size wo W6 by rw [hW6]; exact below_drewN hb5.out nq)
      rw [← hW6]
      clear hW6 e0 e1 e2 e3 hb5
      obtain ⟨hT0, hT1, hT2, hJ, hbw, hsz⟩ := hM'.out
      have hz2 := Lib.hid (hT2.keep hb6.out (by omega))
      have hJ6 := Lib.hid (show OwnJ W6 (w.heap.size + 1 + 1 + 1) (.slice ja jl jc) js from own_below hJ hb6.out)
      obtain ⟨⟨z0, z1, z2⟩, zf⟩ := hz2.out
      have zf1 := zf 1
      have hbw6 := Lib.hid (below_call hbw hb6.out)
      have hsz6 := Lib.hid (Nat.le_trans hsz hb6.out.size)
      clear hT0 hT1 hT2 hJ hbw hsz zf hjl2
      obtain ⟨⟨f0, f9⟩, ⟨l1, l5⟩, ⟨y0, y5⟩, ⟨r1, r6⟩⟩ := hq.out
      obtain ⟨iJ, hiJ, hJ0, hJ1, hJ2⟩ := info_parts info56
      have hlit := Lib.hid (lit_job W6 F (F + L + Y) L ((x3 : Int) % 6 + 1))
      have hlen := Lib.hid (show js.length + 1 ≤ 1000000 by have := hjl'.out; omega)
      go_wp2_with (at_builtin; refine app_flat Try.underlying22 hiJ hJ0 hJ1 hJ2 rfl (by decide) (by decide) (own_alloc hJ6.out _) hlit.out (one_flatJ _) hlen.out (by rw [World.size_alloc]; exact Nat.le_succ_of_le hsz6.out) rfl _ _ rfl rfl rfl ?_; intro v' wk hown hbk; have hstep := Lib.hid (hM'.out.step hb6.out hbk hown); obtain ⟨va, vl, vc, rfl, -⟩ := own_len hown; have hzk := Lib.hid (hz2.out.keep (((Below.refl _ _).alloc hsz6.out _).trans hbk) (by omega)); obtain ⟨⟨z0, z1, z2⟩, zf⟩ := hzk.out; have zf1 := zf 1; clear zf hown hbk)
      go_roundw
      case rel =>
        refine ⟨i + 1, _, _, by omega, by omega, by go_num, by rw [List.length_append, hjn.out]; rfl, fun j hj => ?_, hstep⟩
        rcases List.mem_append.1 hj with h1 | h1
        · exact hjb'.out j h1
        · rw [List.mem_singleton.1 h1]
          exact jobB_iff.2 ⟨by omega, by omega, by omega, by omega, by omega, by omega⟩
      case measure => simp [intOf]; omega
    · have hd : (decide ((i : Int) < n) && decide ((i : Int) < 5)) = false := by
        rw [Bool.eq_false_iff]; intro h; simp at h; omega
      obtain ⟨ja, jl, jc, rfl, hjl2⟩ := own_len hJ
      have hM' := hM
      have hjb' := Lib.hid hjb
      have hjl5 := Lib.hid (show js.length ≤ 5 by omega)
      have hjx := Lib.hid (show jl = js.length by omega)
      have hji := Lib.hid (show jl = i by omega)
      clear hjl hjl2
      clear hM hJ hjb
      go_upto_region 8 with fail
      · have h1 : i < n := ‹_›
        obtain rfl : i = 5 := by omega
        obtain rfl : jl = 5 := hji.out
        have hjne : ¬ ((5 : Int) = 0) := by omega
        have hM2 := hM'
        have h15 := Lib.hid (show 1 ≤ js.length ∧ js.length ≤ 5 by have := hjx.out; omega)
        clear hd hl
        go_upto_region 10 with fail
        go_wp2_with fail
        have hO := Lib.hid (MkO.start hM2.out)
        obtain ⟨jn, hjn⟩ : ∃ x, x = js.length := ⟨_, rfl⟩
        have hjn' := Lib.hid hjn
        have hj15 := h15.out
        rw [← hjn] at hj15
        have hjn0 : ¬ ((5 : Int) = 0) := by have := hjx.out; omega
        clear hM2 hjn
        go_loopw [9] (fun iv wr => ∃ i2 : Nat, ∃ os ov, i2 ≤ m ∧ i2 ≤ 6 ∧ iv = .int .i64 i2 ∧ os.length ≤ i2 ∧ Hid (∀ o ∈ os, ordB jn o = true) ∧ Hid (MkO w wr (.int .u8 (p : Int)) (.slice aa n ac) (.slice ba m bc) P (.slice ja 5 jc) js ov os)) (fun iv _ => 6 - (intOf iv).toNat)
        case atStart => exact ⟨0, [], _, Nat.zero_le _, Nat.zero_le _, rfl, Nat.zero_le _, Lib.hid (fun o ho => absurd ho List.not_mem_nil), hO⟩
        case round =>
          clear hO
          obtain ⟨i2, os, ov, him, hi6, rfl, hol, hob, hM⟩ := hrel
          obtain ⟨wi, rfl⟩ : ∃ wi : World, wi = wr := ⟨_, rfl⟩
          obtain ⟨⟨⟨a0, a1, a2⟩, -⟩, -, ⟨⟨z0, z1, z2⟩, zf⟩, -, hO5, -, hsz⟩ := hM.out
          have hsz' := Lib.hid hsz
          have zf2 := zf 2
          obtain ⟨oa, ol, oc, rfl, -⟩ := own_len hO5
          by_cases hl2 : i2 < m ∧ i2 < 6
          · obtain ⟨hl3, hl4⟩ := hl2
            have hl5 : (i2 : Int) < (m : Int) := by omega
            have hl6 : decide ((i2 : Int) < 6) = true := by simp; omega
            obtain ⟨x0, x1, hx0, hx1, g, o, rfl, c0, c1⟩ : ∃ x0 x1 : Nat, x0 < 256 ∧ x1 < 256 ∧ ∃ g o, ba = some ⟨g, o, none⟩ ∧ wi.cell? ⟨g, o + i2 * 2, none⟩ = some (.int .u8 x0) ∧ wi.cell? ⟨g, o + i2 * 2 + 1, none⟩ = some (.int .u8 x1) := cells2 hb'.out hm'.out hb8'.out hM.out.2.2.2.2.2.1 hl3
            have hM' := hM
            clear hM zf hO5 hsz
            obtain ⟨a, ha⟩ : ∃ a, (x0 : Int) % (5 : Int) = a := ⟨_, rfl⟩
            obtain ⟨b, hb⟩ : ∃ b, (x1 : Int) % (5 : Int) = b := ⟨_, rfl⟩
            have hab := Lib.hid (show (0 ≤ a ∧ a < (5 : Int)) ∧ (0 ≤ b ∧ b < (5 : Int)) by
              have hp : (0 : Int) < (5 : Int) := by omega
              have h1 := Int.emod_nonneg (x0 : Int) (show (5 : Int) ≠ 0 by omega)
              have h2 := Int.emod_lt_of_pos (x0 : Int) hp
              have h3 := Int.emod_nonneg (x1 : Int) (show (5 : Int) ≠ 0 by omega)
              have h4 := Int.emod_lt_of_pos (x1 : Int) hp
              rw [ha] at h1 h2; rw [hb] at h3 h4; exact ⟨⟨h1, h2⟩, h3, h4⟩)
            have ha' := Lib.hid ha
            have hb' := Lib.hid hb
            clear ha hb
            go_upto_region 13 with fail
            go_quiet (fail)
            rw [ha'.out, hb'.out]
            have hM6 := Lib.hid (hM'.out.below (below_drewN (Below.refl wi.heap.size wi) nq))
            obtain ⟨W6, hW6⟩ : ∃ W6, W6 = wi.drewN nq := ⟨_, rfl⟩
            rw [← hW6] at hM6 ⊢
            clear hW6 z0 z1 z2 zf2
            obtain ⟨-, -, hz6, -, hO6, -, hs6⟩ := hM6.out
            have hz6' := Lib.hid hz6
            have hs6' := Lib.hid hs6
            have hO6' := Lib.hid hO6
            obtain ⟨⟨z0, z1, z2⟩, zf⟩ := hz6
            have zf2 := zf 2
            obtain ⟨iO, hiO, hO0, hO1, hO2⟩ := info_parts info78
            have hlit := Lib.hid (lit_ord W6 a b)
            have hlen := Lib.hid (show os.length + 1 ≤ 1000000 by omega)
            have hol' := Lib.hid hol
            clear zf hO6 hs6 hol
            by_cases he : a = b
            · have he' : (a != b) = false := by simp [he]
              clear he
              go_wp2_with fail
              go_roundw
              case rel => exact ⟨i2 + 1, os, _, by omega, by omega, by go_num, Nat.le_succ_of_le hol'.out, hob, hM6⟩
              case measure => simp [intOf]; omega
            · have he' : (a != b) = true := by simp [he]
              have hne := Lib.hid he
              clear he
              go_wp2_with (at_builtin; refine app_flatK Try.underlying23 hiO hO0 hO1 hO2 rfl (by decide) (by decide) (own_alloc hO6'.out _) hlit.out (one_flatO _) hlen.out (by rw [World.size_alloc]; exact Nat.le_succ_of_le hs6'.out) rfl _ _ rfl rfl rfl ?_; intro v' wk hown hbk hkp; have hstep := Lib.hid (hM6.out.step hbk hkp hown); obtain ⟨va, vl, vc, rfl, -⟩ := own_len hown; have hzk := Lib.hid (hz6'.out.keep (((Below.refl _ _).alloc hs6'.out _).trans hbk) (by omega)); obtain ⟨⟨z0, z1, z2⟩, zf⟩ := hzk.out; have zf2 := zf 2; clear zf hown hbk hkp)
              go_roundw
              case rel =>
                refine ⟨i2 + 1, _, _, by omega, by omega, by go_num, by rw [List.length_append]; exact Nat.succ_le_succ hol'.out, Lib.hid (fun o ho => ?_), hstep⟩
                rcases List.mem_append.1 ho with h1 | h1
                · exact hob.out o h1
                · rw [List.mem_singleton.1 h1]
                  have h2 := hab.out
                  have h3 := hjn'.out
                  have h5 := hjx.out
                  exact ordB_iff.2 ⟨by omega, by omega, hne.out⟩
              case measure => simp [intOf]; omega
          · obtain ⟨-, hq, -, hJe, hOe, hbe, hse⟩ := hM.out
            have hfin := Lib.hid (made_fin hM.out hjb'.out h15.out hjn'.out hob.out (Nat.le_trans hol hi6) hPb.out)
            have hq' := Lib.hid hq
            obtain ⟨⟨q0, q1, q2⟩, qf⟩ := hq
            have qf0 := qf 0
            have qf1 := qf 1
            have qf2 := qf 2
            clear zf hO5 hsz qf hJe hOe hbe hse
            by_cases hl3 : i2 < m
            · obtain rfl : i2 = 6 := by omega
              go_wp2_with fail
              refine bodyPost_ret (results_cell_mid rfl _ _ (w.heap.size + 1) _ _ rfl hq'.out.stored.range Try.underlying25 rfl (by kernel_rfl)) rfl ?_
              exact hfin.out
            · go_wp2_with fail
              refine bodyPost_ret (results_cell_mid rfl _ _ (w.heap.size + 1) _ _ rfl hq'.out.stored.range Try.underlying25 rfl (by kernel_rfl)) rfl ?_
              exact hfin.out
      · by_cases h0 : jl = 0
        · obtain rfl : js = [] := List.length_eq_zero_iff.1 (by have := hjx.out; omega)
          obtain rfl : i = 0 := by have := hji.out; omega
          obtain rfl : jl = 0 := h0
          have hzk := hM'.out.2.2.1.keep (below_alloc1 wo (.cells #[.int .i64 0, .int .i64 2, .int .i64 1, .int .i64 1] 56)) (by have := hM'.out.2.2.2.2.2; omega)
          obtain ⟨⟨q0, q1, q2⟩, qf⟩ := hzk
          have qf1 := qf 1
          clear qf
          have hM2 := Lib.hid (hM'.out.lit (f := 0) (t := 2) (l := 1) (p := 1))
          clear hd hl hjx hjb'
          have hjb' := Lib.hid (show ∀ j ∈ [(⟨0, 2, 1, 1⟩ : J)], jobB j = true by decide)
          have hjx := Lib.hid (show 1 = [(⟨0, 2, 1, 1⟩ : J)].length from rfl)
          have h15 := Lib.hid (show 1 ≤ [(⟨0, 2, 1, 1⟩ : J)].length ∧ [(⟨0, 2, 1, 1⟩ : J)].length ≤ 5 by decide)
          go_upto_region 10 with fail
          obtain ⟨W7, hW7⟩ : ∃ W7, W7 = ((wo.alloc (Obj.cells #[Value.int IntKind.i64 0, Value.int IntKind.i64 2, Value.int IntKind.i64 1, Value.int IntKind.i64 1] 56)).setCell { block := w.heap.size + 1 + 1, off := 1 } (Value.slice (some { block := wo.heap.size, off := 0 }) 1 1)) := ⟨_, rfl⟩
          rw [← hW7] at hM2 ⊢
          clear hW7 q0 q1 q2 qf1
          go_wp2_with fail
          have hO := Lib.hid (MkO.start hM2.out)
          obtain ⟨jn, hjn⟩ : ∃ x, x = [(⟨0, 2, 1, 1⟩ : J)].length := ⟨_, rfl⟩
          have hjn' := Lib.hid hjn
          have hj15 := h15.out
          rw [← hjn] at hj15
          have hjn0 : ¬ ((1 : Int) = 0) := by have := hjx.out; omega
          clear hM2 hjn
          go_loopw [9] (fun iv wr => ∃ i2 : Nat, ∃ os ov, i2 ≤ m ∧ i2 ≤ 6 ∧ iv = .int .i64 i2 ∧ os.length ≤ i2 ∧ Hid (∀ o ∈ os, ordB jn o = true) ∧ Hid (MkO w wr (.int .u8 (p : Int)) (.slice aa n ac) (.slice ba m bc) P (.slice (some ⟨wo.heap.size, 0, none⟩) 1 1) [(⟨0, 2, 1, 1⟩ : J)] ov os)) (fun iv _ => 6 - (intOf iv).toNat)
          case atStart => exact ⟨0, [], _, Nat.zero_le _, Nat.zero_le _, rfl, Nat.zero_le _, Lib.hid (fun o ho => absurd ho List.not_mem_nil), hO⟩
          case round =>
            clear hO
            obtain ⟨i2, os, ov, him, hi6, rfl, hol, hob, hM⟩ := hrel
            obtain ⟨wi, rfl⟩ : ∃ wi : World, wi = wr := ⟨_, rfl⟩
            obtain ⟨⟨⟨a0, a1, a2⟩, -⟩, -, ⟨⟨z0, z1, z2⟩, zf⟩, -, hO5, -, hsz⟩ := hM.out
            have hsz' := Lib.hid hsz
            have zf2 := zf 2
            obtain ⟨oa, ol, oc, rfl, -⟩ := own_len hO5
            by_cases hl2 : i2 < m ∧ i2 < 6
            · obtain ⟨hl3, hl4⟩ := hl2
              have hl5 : (i2 : Int) < (m : Int) := by omega
              have hl6 : decide ((i2 : Int) < 6) = true := by simp; omega
              obtain ⟨x0, x1, hx0, hx1, g, o, rfl, c0, c1⟩ : ∃ x0 x1 : Nat, x0 < 256 ∧ x1 < 256 ∧ ∃ g o, ba = some ⟨g, o, none⟩ ∧ wi.cell? ⟨g, o + i2 * 2, none⟩ = some (.int .u8 x0) ∧ wi.cell? ⟨g, o + i2 * 2 + 1, none⟩ = some (.int .u8 x1) := cells2 hb'.out hm'.out hb8'.out hM.out.2.2.2.2.2.1 hl3
              have hM' := hM
              clear hM zf hO5 hsz
              obtain ⟨a, ha⟩ : ∃ a, (x0 : Int) % (1 : Int) = a := ⟨_, rfl⟩
              obtain ⟨b, hb⟩ : ∃ b, (x1 : Int) % (1 : Int) = b := ⟨_, rfl⟩
              have hab := Lib.hid (show (0 ≤ a ∧ a < (1 : Int)) ∧ (0 ≤ b ∧ b < (1 : Int)) by
                have hp : (0 : Int) < (1 : Int) := by omega
                have h1 := Int.emod_nonneg (x0 : Int) (show (1 : Int) ≠ 0 by omega)
                have h2 := Int.emod_lt_of_pos (x0 : Int) hp
                have h3 := Int.emod_nonneg (x1 : Int) (show (1 : Int) ≠ 0 by omega)
                have h4 := Int.emod_lt_of_pos (x1 : Int) hp
                rw [ha] at h1 h2; rw [hb] at h3 h4; exact ⟨⟨h1, h2⟩, h3, h4⟩)
              have ha' := Lib.hid ha
              have hb' := Lib.hid hb
              clear ha hb
              go_upto_region 13 with fail
              go_quiet (fail)
              skip
              have hM6 := Lib.hid (hM'.out.below (below_drewN (Below.refl wi.heap.size wi) nq))
              obtain ⟨W6, hW6⟩ : ∃ W6, W6 = wi.drewN nq := ⟨_, rfl⟩
              rw [← hW6] at hM6 ⊢
              clear hW6 z0 z1 z2 zf2
              obtain ⟨-, -, hz6, -, hO6, -, hs6⟩ := hM6.out
              have hz6' := Lib.hid hz6
              have hs6' := Lib.hid hs6
              have hO6' := Lib.hid hO6
              obtain ⟨⟨z0, z1, z2⟩, zf⟩ := hz6
              have zf2 := zf 2
              obtain ⟨iO, hiO, hO0, hO1, hO2⟩ := info_parts info78
              have hlit := Lib.hid (lit_ord W6 a b)
              have hlen := Lib.hid (show os.length + 1 ≤ 1000000 by omega)
              have hol' := Lib.hid hol
              clear zf hO6 hs6 hol
              by_cases he : a = b
              · have he' : (a != b) = false := by simp [he]
                clear he
                go_wp2_with fail
                go_roundw
                case rel => exact ⟨i2 + 1, os, _, by omega, by omega, by go_num, Nat.le_succ_of_le hol'.out, hob, hM6⟩
                case measure => simp [intOf]; omega
              · exact absurd (by have h1 := ha'.out; have h2 := hb'.out; omega) he
            · obtain ⟨-, hq, -, hJe, hOe, hbe, hse⟩ := hM.out
              have hfin := Lib.hid (made_fin hM.out hjb'.out h15.out hjn'.out hob.out (Nat.le_trans hol hi6) hPb.out)
              have hq' := Lib.hid hq
              obtain ⟨⟨q0, q1, q2⟩, qf⟩ := hq
              have qf0 := qf 0
              have qf1 := qf 1
              have qf2 := qf 2
              clear zf hO5 hsz qf hJe hOe hbe hse
              by_cases hl3 : i2 < m
              · obtain rfl : i2 = 6 := by omega
                go_wp2_with fail
                refine bodyPost_ret (results_cell_mid rfl _ _ (w.heap.size + 1) _ _ rfl hq'.out.stored.range Try.underlying25 rfl (by kernel_rfl)) rfl ?_
                exact hfin.out
              · go_wp2_with fail
                refine bodyPost_ret (results_cell_mid rfl _ _ (w.heap.size + 1) _ _ rfl hq'.out.stored.range Try.underlying25 rfl (by kernel_rfl)) rfl ?_
                exact hfin.out
        · have hjne : ¬ ((jl : Int) = 0) := by omega
          have hjq : ((jl : Int) == 0) = false := by simp; omega
          have hM2 := hM'
          have h15 := Lib.hid (show 1 ≤ js.length ∧ js.length ≤ 5 by have := hjx.out; have := hjl5.out; omega)
          clear hd hl
          go_upto_region 10 with fail
          go_wp2_with fail
          have hO := Lib.hid (MkO.start hM2.out)
          obtain ⟨jn, hjn⟩ : ∃ x, x = js.length := ⟨_, rfl⟩
          have hjn' := Lib.hid hjn
          have hj15 := h15.out
          rw [← hjn] at hj15
          have hjn0 : ¬ ((jl : Int) = 0) := by have := hjx.out; omega
          clear hM2 hjn
          go_loopw [9] (fun iv wr => ∃ i2 : Nat, ∃ os ov, i2 ≤ m ∧ i2 ≤ 6 ∧ iv = .int .i64 i2 ∧ os.length ≤ i2 ∧ Hid (∀ o ∈ os, ordB jn o = true) ∧ Hid (MkO w wr (.int .u8 (p : Int)) (.slice aa n ac) (.slice ba m bc) P (.slice ja jl jc) js ov os)) (fun iv _ => 6 - (intOf iv).toNat)
          case atStart => exact ⟨0, [], _, Nat.zero_le _, Nat.zero_le _, rfl, Nat.zero_le _, Lib.hid (fun o ho => absurd ho List.not_mem_nil), hO⟩
          case round =>
            clear hO
            obtain ⟨i2, os, ov, him, hi6, rfl, hol, hob, hM⟩ := hrel
            obtain ⟨wi, rfl⟩ : ∃ wi : World, wi = wr := ⟨_, rfl⟩
            obtain ⟨⟨⟨a0, a1, a2⟩, -⟩, -, ⟨⟨z0, z1, z2⟩, zf⟩, -, hO5, -, hsz⟩ := hM.out
            have hsz' := Lib.hid hsz
            have zf2 := zf 2
            obtain ⟨oa, ol, oc, rfl, -⟩ := own_len hO5
            by_cases hl2 : i2 < m ∧ i2 < 6
            · obtain ⟨hl3, hl4⟩ := hl2
              have hl5 : (i2 : Int) < (m : Int) := by omega
              have hl6 : decide ((i2 : Int) < 6) = true := by simp; omega
              obtain ⟨x0, x1, hx0, hx1, g, o, rfl, c0, c1⟩ : ∃ x0 x1 : Nat, x0 < 256 ∧ x1 < 256 ∧ ∃ g o, ba = some ⟨g, o, none⟩ ∧ wi.cell? ⟨g, o + i2 * 2, none⟩ = some (.int .u8 x0) ∧ wi.cell? ⟨g, o + i2 * 2 + 1, none⟩ = some (.int .u8 x1) := cells2 hb'.out hm'.out hb8'.out hM.out.2.2.2.2.2.1 hl3
              have hM' := hM
              clear hM zf hO5 hsz
              obtain ⟨a, ha⟩ : ∃ a, (x0 : Int) % (jl : Int) = a := ⟨_, rfl⟩
              obtain ⟨b, hb⟩ : ∃ b, (x1 : Int) % (jl : Int) = b := ⟨_, rfl⟩
              have hab := Lib.hid (show (0 ≤ a ∧ a < (jl : Int)) ∧ (0 ≤ b ∧ b < (jl : Int)) by
                have hp : (0 : Int) < (jl : Int) := by omega
                have h1 := Int.emod_nonneg (x0 : Int) (show (jl : Int) ≠ 0 by omega)
                have h2 := Int.emod_lt_of_pos (x0 : Int) hp
                have h3 := Int.emod_nonneg (x1 : Int) (show (jl : Int) ≠ 0 by omega)
                have h4 := Int.emod_lt_of_pos (x1 : Int) hp
                rw [ha] at h1 h2; rw [hb] at h3 h4; exact ⟨⟨h1, h2⟩, h3, h4⟩)
              have ha' := Lib.hid ha
              have hb' := Lib.hid hb
              clear ha hb
              go_upto_region 13 with fail
              go_quiet (fail)
              rw [ha'.out, hb'.out]
              have hM6 := Lib.hid (hM'.out.below (below_drewN (Below.refl wi.heap.size wi) nq))
              obtain ⟨W6, hW6⟩ : ∃ W6, W6 = wi.drewN nq := ⟨_, rfl⟩
              rw [← hW6] at hM6 ⊢
              clear hW6 z0 z1 z2 zf2
              obtain ⟨-, -, hz6, -, hO6, -, hs6⟩ := hM6.out
              have hz6' := Lib.hid hz6
              have hs6' := Lib.hid hs6
              have hO6' := Lib.hid hO6
              obtain ⟨⟨z0, z1, z2⟩, zf⟩ := hz6
              have zf2 := zf 2
              obtain ⟨iO, hiO, hO0, hO1, hO2⟩ := info_parts info78
              have hlit := Lib.hid (lit_ord W6 a b)
              have hlen := Lib.hid (show os.length + 1 ≤ 1000000 by omega)
              have hol' := Lib.hid hol
              clear zf hO6 hs6 hol
              by_cases he : a = b
              · have he' : (a != b) = false := by simp [he]
                clear he
                go_wp2_with fail
                go_roundw
                case rel => exact ⟨i2 + 1, os, _, by omega, by omega, by go_num, Nat.le_succ_of_le hol'.out, hob, hM6⟩
                case measure => simp [intOf]; omega
              · have he' : (a != b) = true := by simp [he]
                have hne := Lib.hid he
                clear he
                go_wp2_with (at_builtin; refine app_flatK Try.underlying23 hiO hO0 hO1 hO2 rfl (by decide) (by decide) (own_alloc hO6'.out _) hlit.out (one_flatO _) hlen.out (by rw [World.size_alloc]; exact Nat.le_succ_of_le hs6'.out) rfl _ _ rfl rfl rfl ?_; intro v' wk hown hbk hkp; have hstep := Lib.hid (hM6.out.step hbk hkp hown); obtain ⟨va, vl, vc, rfl, -⟩ := own_len hown; have hzk := Lib.hid (hz6'.out.keep (((Below.refl _ _).alloc hs6'.out _).trans hbk) (by omega)); obtain ⟨⟨z0, z1, z2⟩, zf⟩ := hzk.out; have zf2 := zf 2; clear zf hown hbk hkp)
                go_roundw
                case rel =>
                  refine ⟨i2 + 1, _, _, by omega, by omega, by go_num, by rw [List.length_append]; exact Nat.succ_le_succ hol'.out, Lib.hid (fun o ho => ?_), hstep⟩
                  rcases List.mem_append.1 ho with h1 | h1
                  · exact hob.out o h1
                  · rw [List.mem_singleton.1 h1]
                    have h2 := hab.out
                    have h3 := hjn'.out
                    have h5 := hjx.out
                    exact ordB_iff.2 ⟨by omega, by omega, hne.out⟩
                case measure => simp [intOf]; omega
            · obtain ⟨-, hq, -, hJe, hOe, hbe, hse⟩ := hM.out
              have hfin := Lib.hid (made_fin hM.out hjb'.out h15.out hjn'.out hob.out (Nat.le_trans hol hi6) hPb.out)
              have hq' := Lib.hid hq
              obtain ⟨⟨q0, q1, q2⟩, qf⟩ := hq
              have qf0 := qf 0
              have qf1 := qf 1
              have qf2 := qf 2
              clear zf hO5 hsz qf hJe hOe hbe hse
              by_cases hl3 : i2 < m
              · obtain rfl : i2 = 6 := by omega
                go_wp2_with fail
                refine bodyPost_ret (results_cell_mid rfl _ _ (w.heap.size + 1) _ _ rfl hq'.out.stored.range Try.underlying25 rfl (by kernel_rfl)) rfl ?_
                exact hfin.out
              · go_wp2_with fail
                refine bodyPost_ret (results_cell_mid rfl _ _ (w.heap.size + 1) _ _ rfl hq'.out.stored.range Try.underlying25 rfl (by kernel_rfl)) rfl ?_
                exact hfin.out
end Go.Proofs.Ytjkbhdlbomcbeaa
