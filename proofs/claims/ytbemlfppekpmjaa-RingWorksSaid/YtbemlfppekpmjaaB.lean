import Derived.Test.YtbemlfppekpmjaaA
import Derived.LaidEqlPtr
/-! A computation in memory, and what only reads it. -/
namespace Go.Proofs.Ytbemlfppekpmjaa
open Go.RowKit Rng
def encH (h : Hd) : List Value := [.bool h.wk, .int .i64 ((h.par : Int) - 1), .int .i64 h.owed]
def encL (l : Lt) : List Value := [.int .i64 l.fr, .int .i64 l.to, .bool l.ack]
theorem encH_len (h : Hd) : (encH h).length = 3 := rfl
theorem encL_len (l : Lt) : (encL l).length = 3 := rfl
theorem one_flatH (hs : List Hd) : ∀ v ∈ flat encH hs, v.oneCell' = true := fun v hv => by
  simp only [flat, List.mem_flatMap, encH, List.mem_cons, List.not_mem_nil, or_false] at hv
  obtain ⟨j, _, rfl | rfl | rfl⟩ := hv <;> rfl
theorem one_flatL (ls : List Lt) : ∀ v ∈ flat encL ls, v.oneCell' = true := fun v hv => by
  simp only [flat, List.mem_flatMap, encL, List.mem_cons, List.not_mem_nil, or_false] at hv
  obtain ⟨j, _, rfl | rfl | rfl⟩ := hv <;> rfl
theorem info98 : (Try.prog.info? 98).map (fun i => (i.zero, i.size, i.bytes)) = some (some (.agg #[.bool false, .int .i64 0, .int .i64 0]), 3, 24) := by kernel_rfl
theorem info69 : (Try.prog.info? 69).map (fun i => (i.zero, i.size, i.bytes)) = some (some (.agg #[.int .i64 0, .int .i64 0, .bool false]), 3, 24) := by kernel_rfl
def OwnH (w : World) (B : Nat) (v : Value) (hs : List Hd) : Prop := w.ownsRow B 98 3 v hs.length (flat encH hs)
def OwnL (w : World) (B : Nat) (v : Value) (ls : List Lt) : Prop := w.ownsRow B 69 3 v ls.length (flat encL ls)
/-- A computation that lies at `b`, its workers at `h`. -/
structure WkAt (w : World) (B b h c : Nat) (fv : Value) (S : WS) : Prop where
  Bb : B ≤ b
  bw : b < w.heap.size
  c0 : w.cell? ⟨b, 0, none⟩ = some (.pointer (some ⟨b, 0, none⟩))
  c1 : w.cell? ⟨b, 1, none⟩ = some (.slice (some ⟨h, 0, none⟩) S.n c)
  c2 : w.cell? ⟨b, 2, none⟩ = some fv
  fz : ∀ j, w.frozen? ⟨b, j, none⟩ = false
  hn : OwnH w B (.slice (some ⟨h, 0, none⟩) S.n c) S.hs
  fl : OwnL w B fv S.fl
  bh : b ≠ h
  bf : fv.ownBlock ≠ some b
  hf : fv.ownBlock ≠ some h
/-- The blocks of a computation. -/
def WkP (b h : Nat) (fv : Value) (k : Nat) : Prop := k = b ∨ k = h ∨ fv.ownBlock = some k
theorem WkAt.pos {w : World} {B b h c : Nat} {fv : Value} {S : WS} (k : WkAt w B b h c fv S) : ∀ i, WkP b h fv i → B ≤ i ∧ i < w.heap.size := by
  rintro i (rfl | rfl | e)
  · exact ⟨k.Bb, k.bw⟩
  · exact World.ownsRow.lt k.hn _ rfl
  · exact World.ownsRow.lt k.fl _ e
theorem WkAt.keep {w w' : World} {B b h c : Nat} {fv : Value} {S : WS} (k : WkAt w B b h c fv S) (hs : w.heap.size ≤ w'.heap.size) (hb : ∀ i, WkP b h fv i → w'.heap[i]? = w.heap[i]?) : WkAt w' B b h c fv S where
  Bb := k.Bb
  bw := Nat.lt_of_lt_of_le k.bw hs
  c0 := (cell_block (hb b (.inl rfl))).trans k.c0
  c1 := (cell_block (hb b (.inl rfl))).trans k.c1
  c2 := (cell_block (hb b (.inl rfl))).trans k.c2
  fz := fun j => (frozen_block (hb b (.inl rfl))).trans (k.fz j)
  hn := own_block k.hn (fun i e => hb i (.inr (.inl (by injection e with e; exact e.symm))))
  fl := own_block k.fl (fun i e => hb i (.inr (.inr e)))
  bh := k.bh
  bf := k.bf
  hf := k.hf
theorem WkAt.below {w w' : World} {B b h c : Nat} {fv : Value} {S : WS} (k : WkAt w B b h c fv S) (hb : Below w.heap.size w w') : WkAt w' B b h c fv S :=
  k.keep hb.size (fun i hi => hb.block i (k.pos i hi).2)
theorem WkAt.frm {w w' : World} {B b h c : Nat} {fv : Value} {S : WS} {P P' : Nat → Prop} (k : WkAt w B b h c fv S) (hb : Frm P P' w w') (hd : ∀ i, WkP b h fv i → ¬ P i) : WkAt w' B b h c fv S :=
  k.keep hb.size (fun i hi => hb.block i (k.pos i hi).2 (hd i hi))
theorem hs_at {S : WS} {i : Nat} (h : i < S.n) : (flat encH S.hs)[i * 3]? = some (.bool (S.hd i).wk) ∧ (flat encH S.hs)[i * 3 + 1]? = some (.int .i64 (((S.hd i).par : Int) - 1)) ∧ (flat encH S.hs)[i * 3 + 2]? = some (.int .i64 (S.hd i).owed) := by
  have e : S.hd i = S.hs[i] := by unfold WS.hd; rw [List.getD_eq_getElem?_getD, List.getElem?_eq_getElem h]; rfl
  rw [e]
  exact ⟨flat_at encH_len S.hs i 0 h (by omega), flat_at encH_len S.hs i 1 h (by omega), flat_at encH_len S.hs i 2 h (by omega)⟩
theorem fl_at {ls : List Lt} {i : Nat} (h : i < ls.length) : (flat encL ls)[i * 3]? = some (.int .i64 (ls.getD i L0).fr) ∧ (flat encL ls)[i * 3 + 1]? = some (.int .i64 (ls.getD i L0).to) ∧ (flat encL ls)[i * 3 + 2]? = some (.bool (ls.getD i L0).ack) := by
  have e : ls.getD i L0 = ls[i] := by rw [List.getD_eq_getElem?_getD, List.getElem?_eq_getElem h]; rfl
  rw [e]
  exact ⟨flat_at encL_len ls i 0 h (by omega), flat_at encL_len ls i 1 h (by omega), flat_at encL_len ls i 2 h (by omega)⟩
/-- The cells of a worker. -/
theorem WkAt.hand {w : World} {B b h c : Nat} {fv : Value} {S : WS} (k : WkAt w B b h c fv S) {i : Nat} (hi : i < S.n) : w.cell? ⟨h, i * 3, none⟩ = some (.bool (S.hd i).wk) ∧ w.cell? ⟨h, i * 3 + 1, none⟩ = some (.int .i64 (((S.hd i).par : Int) - 1)) ∧ w.cell? ⟨h, i * 3 + 2, none⟩ = some (.int .i64 (S.hd i).owed) ∧ (∀ j, w.frozen? ⟨h, j, none⟩ = false) := by
  obtain ⟨ao, c', e, _, hc⟩ := own_cells k.hn
  obtain ⟨g, e1, _, _, hcl⟩ := hc (by unfold WS.n at hi; omega)
  obtain rfl : h = g := by
    injection e with e _ _
    rw [← e] at e1
    injection e1 with e1; injection e1
  obtain ⟨a1, a2, a3⟩ := hs_at hi
  exact ⟨hcl _ _ a1, hcl _ _ a2, hcl _ _ a3, fun j => World.ownsRow.frozenAt k.hn j⟩
theorem WkAt.nc {w : World} {B b h c : Nat} {fv : Value} {S : WS} (k : WkAt w B b h c fv S) : S.n ≤ c := by
  obtain ⟨ao, c', e, hc, _⟩ := own_cells k.hn
  injection e with _ _ e
  unfold WS.n; omega
/-- What is on the way, as a slice. -/
theorem WkAt.flv {w : World} {B b h c : Nat} {fv : Value} {S : WS} (k : WkAt w B b h c fv S) : ∃ ao fc, fv = .slice ao S.fl.length fc ∧ S.fl.length ≤ fc := by
  obtain ⟨ao, c', e, hc, _⟩ := own_cells k.fl
  exact ⟨ao, c', e, hc⟩
/-- A worker is written to. -/
theorem OwnH.set {w : World} {B h n c : Nat} {hs : List Hd} (k : OwnH w B (.slice (some ⟨h, 0, none⟩) n c) hs) {i f : Nat} {a : Hd} {u : Value} (hi : i < hs.length) (hf : f < 3) (ha : encH a = (encH (hs.getD i H0)).set f u) : OwnH (w.setCell ⟨h, i * 3 + f, none⟩ u) B (.slice (some ⟨h, 0, none⟩) n c) (hs.set i a) := by
  unfold OwnH at k ⊢
  have := (World.ownsRow.stored (by
    have e := own_cells k
    obtain ⟨_, _, e, _⟩ := e
    obtain rfl : n = hs.length := by injection e
    exact k) (i * 3 + f) u).1
  obtain ⟨_, _, e, _⟩ := own_cells k
  obtain rfl : n = hs.length := by injection e
  rw [List.length_set, ← flat_set encH_len hs i f a u hi hf (fun b hb => by rw [List.getD_eq_getElem?_getD, hb] at ha; exact ha)]
  exact this
theorem WkAt.setH {w : World} {B b h c : Nat} {fv : Value} {S : WS} (k : WkAt w B b h c fv S) {i f : Nat} {a : Hd} {u : Value} (hi : i < S.n) (hf : f < 3) (ha : encH a = (encH (S.hd i)).set f u) : WkAt (w.setCell ⟨h, i * 3 + f, none⟩ u) B b h c fv (S.set i a) where
  Bb := k.Bb
  bw := by simpa using k.bw
  c0 := by rw [World.cell?_setCell_other _ _ _ _ (by have := k.bh; simp <;> omega)]; exact k.c0
  c1 := by rw [World.cell?_setCell_other _ _ _ _ (by have := k.bh; simp <;> omega), n_set]; exact k.c1
  c2 := by rw [World.cell?_setCell_other _ _ _ _ (by have := k.bh; simp <;> omega)]; exact k.c2
  fz := fun j => by rw [World.frozen?_setCell]; exact k.fz j
  hn := by rw [n_set]; exact OwnH.set k.hn hi hf ha
  fl := ownsRow_setCell_other k.fl k.hf _
  bh := k.bh
  bf := k.bf
  hf := k.hf
theorem WkAt.drew {w : World} {B b h c : Nat} {fv : Value} {S : WS} (k : WkAt w B b h c fv S) : WkAt w.drew B b h c fv S := ⟨k.Bb, k.bw, k.c0, k.c1, k.c2, k.fz, k.hn, k.fl, k.bh, k.bf, k.hf⟩
/-- Another row of letters is laid. -/
theorem WkAt.setF {w w' : World} {B b h c : Nat} {fv fv' : Value} {S : WS} {fl' : List Lt} (k : WkAt w B b h c fv S) (hs : w.heap.size ≤ w'.heap.size) (hb : ∀ i, i < w.heap.size → fv.ownBlock ≠ some i → w'.heap[i]? = w.heap[i]?) (hl : OwnL w' B fv' fl') (hfr : ∀ g, fv'.ownBlock = some g → fv.ownBlock = some g ∨ w.heap.size ≤ g) : WkAt (w'.setCell ⟨b, 2, none⟩ fv') B b h c fv' ⟨S.hs, fl'⟩ := by
  have hbb := hb b k.bw k.bf
  have hhw := (k.pos h (.inr (.inl rfl))).2
  have hne : ∀ i, i = b ∨ i = h → fv'.ownBlock ≠ some i := fun i hi e => by
    rcases hfr i e with e | e
    · rcases hi with rfl | rfl
      · exact k.bf e
      · exact k.hf e
    · have := k.bw
      rcases hi with rfl | rfl <;> omega
  refine ⟨k.Bb, ?_, ?_, ?_, ?_, fun j => ?_, ?_, ?_, k.bh, hne b (.inl rfl), hne h (.inr rfl)⟩
  · simpa using Nat.lt_of_lt_of_le k.bw hs
  · rw [World.cell?_setCell_other _ _ _ _ (by simp), cell_block (by exact hbb)]; exact k.c0
  · rw [World.cell?_setCell_other _ _ _ _ (by simp), cell_block (by exact hbb)]; exact k.c1
  · rw [World.cell?_setCell_same' _ _ _ (by rw [cell_block (by exact hbb), k.c2]; rfl)]
  · rw [World.frozen?_setCell, frozen_block (by exact hbb)]; exact k.fz j
  · exact ownsRow_setCell_other (own_block k.hn (fun i e => hb i (by injection e with e; subst e; exact hhw) (by injection e with e; subst e; exact k.hf))) (by intro e; injection e with e; exact k.bh e.symm) _
  · exact ownsRow_setCell_other hl (hne b (.inl rfl)) _

/-! ## What only reads -/
theorem info84 : (Try.prog.info? 84).map (fun i => (i.zero, i.size, i.bytes)) = some (some (.agg #[.pointer none, .slice none 0 0, .slice none 0 0]), 3, 56) := by kernel_rfl
theorem ptr27 (b : Nat) (w : World) : (binOp .eql 27 (.pointer (some ⟨b, 0, none⟩)) (.pointer (some ⟨b, 0, none⟩))).run Try.prog w = .ok (.bool true) w := by
  obtain ⟨i0, hi, _⟩ := info_parts info84
  exact run_eql_ptr_same _ _ Try.underlying27 hi
theorem ptr27n (b : Nat) (w : World) : (binOp .eql 27 (.pointer none) (.pointer (some ⟨b, 0, none⟩))).run Try.prog w = .ok (.bool false) w := by
  obtain ⟨i0, hi, hz0, hz1, hz2⟩ := info_parts info84
  have h : ∀ d : Nat, (Op.equalIn (d + 1) 27 (.pointer none) (.pointer (some ⟨b, 0, none⟩))).run Try.prog w = .ok false w := fun d => by
    simp [Op.equalIn, run_underlying Try.underlying27]
  simp only [binOp]
  simp [Op.equal, Op.maxDepth, h 9999]
set_option maxRecDepth 100000 in
theorem there61 {w : World} {b : Nat} (h : w.cell? ⟨b, 0, none⟩ = some (.pointer (some ⟨b, 0, none⟩))) : Calls Try.prog 61 #[.pointer (some ⟨b, 0, none⟩)] w fun e w' => e = .returned (.bool true) ∧ w = w' := by
  have hq := ptr27 b w
  go_enter Try.func61, Try.ntmps61
  go_wp2
  go_ret
  exact ⟨rfl, rfl⟩
set_option maxRecDepth 100000 in
theorem nobody61 {w : World} : Calls Try.prog 61 #[.pointer none] w fun e w' => e = .returned (.bool false) ∧ w = w' := by
  go_enter Try.func61, Try.ntmps61
  go_wp2
  refine bodyPost_ret (results_tmp rfl _ _ _) rfl ?_
  exact ⟨rfl, rfl⟩
set_option maxRecDepth 100000 in
theorem other61 {w : World} {b : Nat} (h : w.cell? ⟨b, 0, none⟩ = some (.pointer none)) : Calls Try.prog 61 #[.pointer (some ⟨b, 0, none⟩)] w fun e w' => e = .returned (.bool false) ∧ w = w' := by
  have hq := ptr27n b w
  go_enter Try.func61, Try.ntmps61
  go_wp2
  refine bodyPost_ret (results_tmp rfl _ _ _) rfl ?_
  exact ⟨rfl, rfl⟩
def inB (i : Int) (n : Nat) : Bool := decide (0 ≤ i) && decide (i < n)
set_option maxRecDepth 100000 in
theorem has62 {w : World} {B b h c : Nat} {fv : Value} {S : WS} (k : WkAt w B b h c fv S) (i : Int) : Calls Try.prog 62 #[.pointer (some ⟨b, 0, none⟩), .int .i64 i] w fun e w' => e = .returned (.bool (inB i S.n)) ∧ w = w' := by
  have c0 := k.c0
  have c1 := k.c1
  obtain ⟨n, hn⟩ : ∃ n, n = S.n := ⟨_, rfl⟩
  rw [← hn] at c1 ⊢
  have ht := Lib.hid (there61 c0)
  clear k hn
  by_cases h0 : 0 ≤ i
  · have h1 : decide (i ≥ 0) = true := by simpa using h0
    go_enter Try.func62, Try.ntmps62
    go_wp2_with (go_at_call 61; refine ht.out.mono ?_; rintro e wj ⟨rfl, rfl⟩)
    go_ret
    exact ⟨ret_b (by unfold inB; rw [decide_eq_true h0, Bool.true_and]), rfl⟩
  · have h1 : decide (i ≥ 0) = false := by simpa using h0
    go_enter Try.func62, Try.ntmps62
    go_wp2_with (go_at_call 61; refine ht.out.mono ?_; rintro e wj ⟨rfl, rfl⟩)
    go_ret
    exact ⟨ret_b (by unfold inB; rw [decide_eq_false (by omega), Bool.false_and]), rfl⟩
set_option maxRecDepth 100000 in
theorem full63 {w : World} {B b h c : Nat} {fv : Value} {S : WS} (k : WkAt w B b h c fv S) : Calls Try.prog 63 #[.pointer (some ⟨b, 0, none⟩)] w fun e w' => e = .returned (.bool (decide (200 ≤ S.fl.length))) ∧ w = w' := by
  have c2 := k.c2
  obtain ⟨ao, fc, rfl, _⟩ := k.flv
  obtain ⟨n, hn⟩ : ∃ n, n = S.fl.length := ⟨_, rfl⟩
  rw [← hn] at c2 ⊢
  clear k hn
  go_enter Try.func63, Try.ntmps63
  go_wp2
  go_ret
  exact ⟨ret_b (decide_eq_decide.2 (by omega)), rfl⟩
set_option maxRecDepth 100000 in
theorem eng81 {w : World} {B b h c : Nat} {fv : Value} {S : WS} (k : WkAt w B b h c fv S) {i : Nat} (hi : i < S.n) : Calls Try.prog 81 #[.pointer (some ⟨b, 0, none⟩), .int .i64 i] w fun e w' => e = .returned (.bool (S.eng i)) ∧ w = w' := by
  have c1 := k.c1
  have hnc := k.nc
  obtain ⟨_, k1, _⟩ := k.hand hi
  obtain ⟨n, hn⟩ : ∃ n, n = S.n := ⟨_, rfl⟩
  rw [← hn] at c1 hi hnc
  obtain ⟨p, hp⟩ : ∃ p, p = (S.hd i).par := ⟨_, rfl⟩
  rw [← hp] at k1
  have he : S.eng i = (decide ((i : Int) = 0) || decide ((p : Int) - 1 ≠ -1)) := by
    unfold WS.eng
    rw [← hp]
    cases i <;> cases p <;> simp <;> omega
  rw [he]
  have hin : (i : Int) < (n : Int) := by omega
  clear k hn hp he
  by_cases h0 : i = 0
  · subst h0
    go_enter Try.func81, Try.ntmps81
    go_wp2
    go_ret
    exact ⟨rfl, rfl⟩
  · have h1 : ((i : Int) == 0) = false := by simpa using h0
    go_enter Try.func81, Try.ntmps81
    go_wp2
    go_ret
    exact ⟨ret_b (by rw [decide_eq_false (show ¬ ((i : Int) = 0) by omega), Bool.false_or]; by_cases e : (p : Int) - 1 = -1 <;> simp [e]), rfl⟩
set_option maxRecDepth 100000 in
theorem working41 {w : World} {B b h c : Nat} {fv : Value} {S : WS} (k : WkAt w B b h c fv S) (i : Int) : Calls Try.prog 41 #[.pointer (some ⟨b, 0, none⟩), .int .i64 i] w fun e w' => e = .returned (.bool (inB i S.n && (S.hd i.toNat).wk)) ∧ w = w' := by
  have c1 := k.c1
  have hnc := k.nc
  have hh := Lib.hid (has62 k i)
  obtain ⟨n, hn⟩ : ∃ n, n = S.n := ⟨_, rfl⟩
  rw [← hn] at c1 hnc ⊢
  by_cases h0 : inB i n = true
  · have h1 : 0 ≤ i ∧ i < n := by simpa [inB] using h0
    obtain ⟨j, rfl⟩ : ∃ j : Nat, i = j := ⟨i.toNat, by omega⟩
    obtain ⟨k1, _⟩ := k.hand (i := j) (by omega)
    have hin : (j : Int) < (n : Int) := by omega
    rw [h0, Bool.true_and, Int.toNat_natCast]
    rw [← hn, h0] at hh
    clear k hn h0 h1
    go_enter Try.func41, Try.ntmps41
    go_wp2_with (go_at_call 62; refine hh.out.mono ?_; rintro e wj ⟨rfl, rfl⟩)
    go_ret
    exact ⟨rfl, rfl⟩
  · have h1 : inB i n = false := by simpa using h0
    rw [h1, Bool.false_and]
    rw [← hn, h1] at hh
    clear k hn h0 h1
    go_enter Try.func41, Try.ntmps41
    go_wp2_with (go_at_call 62; refine hh.out.mono ?_; rintro e wj ⟨rfl, rfl⟩)
    go_ret
    exact ⟨rfl, rfl⟩
set_option maxRecDepth 100000 in
theorem parent40 {w : World} {B b h c : Nat} {fv : Value} {S : WS} (k : WkAt w B b h c fv S) (i : Int) : Calls Try.prog 40 #[.pointer (some ⟨b, 0, none⟩), .int .i64 i] w fun e w' => e = .returned (.int .i64 (if inB i S.n then ((S.hd i.toNat).par : Int) - 1 else -1)) ∧ w = w' := by
  have c1 := k.c1
  have hnc := k.nc
  have hh := Lib.hid (has62 k i)
  obtain ⟨n, hn⟩ : ∃ n, n = S.n := ⟨_, rfl⟩
  rw [← hn] at c1 hnc ⊢
  by_cases h0 : inB i n = true
  · have h1 : 0 ≤ i ∧ i < n := by simpa [inB] using h0
    obtain ⟨j, rfl⟩ : ∃ j : Nat, i = j := ⟨i.toNat, by omega⟩
    obtain ⟨_, k1, _⟩ := k.hand (i := j) (by omega)
    have hin : (j : Int) < (n : Int) := by omega
    rw [if_pos h0, Int.toNat_natCast]
    rw [← hn, h0] at hh
    clear k hn h0 h1
    go_enter Try.func40, Try.ntmps40
    go_wp2_with (go_at_call 62; refine hh.out.mono ?_; rintro e wj ⟨rfl, rfl⟩)
    go_ret
    exact ⟨rfl, rfl⟩
  · have h1 : inB i n = false := by simpa using h0
    rw [if_neg h0]
    rw [← hn, h1] at hh
    clear k hn h0 h1
    go_enter Try.func40, Try.ntmps40
    go_wp2_with (go_at_call 62; refine hh.out.mono ?_; rintro e wj ⟨rfl, rfl⟩)
    go_ret
    exact ⟨rfl, rfl⟩
set_option maxRecDepth 100000 in
theorem owed42 {w : World} {B b h c : Nat} {fv : Value} {S : WS} (k : WkAt w B b h c fv S) (i : Int) : Calls Try.prog 42 #[.pointer (some ⟨b, 0, none⟩), .int .i64 i] w fun e w' => e = .returned (.int .i64 (if inB i S.n then ((S.hd i.toNat).owed : Int) else 0)) ∧ w = w' := by
  have c1 := k.c1
  have hnc := k.nc
  have hh := Lib.hid (has62 k i)
  obtain ⟨n, hn⟩ : ∃ n, n = S.n := ⟨_, rfl⟩
  rw [← hn] at c1 hnc ⊢
  by_cases h0 : inB i n = true
  · have h1 : 0 ≤ i ∧ i < n := by simpa [inB] using h0
    obtain ⟨j, rfl⟩ : ∃ j : Nat, i = j := ⟨i.toNat, by omega⟩
    obtain ⟨_, _, k1, _⟩ := k.hand (i := j) (by omega)
    have hin : (j : Int) < (n : Int) := by omega
    rw [if_pos h0, Int.toNat_natCast]
    rw [← hn, h0] at hh
    clear k hn h0 h1
    go_enter Try.func42, Try.ntmps42
    go_wp2_with (go_at_call 62; refine hh.out.mono ?_; rintro e wj ⟨rfl, rfl⟩)
    go_ret
    exact ⟨rfl, rfl⟩
  · have h1 : inB i n = false := by simpa using h0
    rw [if_neg h0]
    rw [← hn, h1] at hh
    clear k hn h0 h1
    go_enter Try.func42, Try.ntmps42
    go_wp2_with (go_at_call 62; refine hh.out.mono ?_; rintro e wj ⟨rfl, rfl⟩)
    go_ret
    exact ⟨rfl, rfl⟩
def endB (S : WS) : Bool := !(S.hd 0).wk && decide ((S.hd 0).owed = 0)
set_option maxRecDepth 100000 in
theorem ended38 {w : World} {B b h c : Nat} {fv : Value} {S : WS} (k : WkAt w B b h c fv S) (hn1 : 1 ≤ S.n) : Calls Try.prog 38 #[.pointer (some ⟨b, 0, none⟩)] w fun e w' => e = .returned (.bool (endB S)) ∧ w = w' := by
  have c0 := k.c0
  have c1 := k.c1
  have hnc := k.nc
  have ht := Lib.hid (there61 c0)
  obtain ⟨k1, _, k2, _⟩ := k.hand (i := 0) (by omega)
  rw [Nat.zero_mul] at k1
  rw [Nat.zero_mul, Nat.zero_add] at k2
  obtain ⟨n, hn⟩ : ∃ n, n = S.n := ⟨_, rfl⟩
  rw [← hn] at c1 hnc hn1
  have hin : (0 : Int) < (n : Int) := by omega
  unfold endB
  obtain ⟨o, ho⟩ : ∃ o, o = (S.hd 0).owed := ⟨_, rfl⟩
  obtain ⟨x, hx⟩ : ∃ x, x = (S.hd 0).wk := ⟨_, rfl⟩
  rw [← ho, ← hx]
  rw [← ho] at k2
  rw [← hx] at k1
  clear k hn ho hx
  cases x
  · go_enter Try.func38, Try.ntmps38
    go_wp2_with (go_at_call 61; refine ht.out.mono ?_; rintro e wj ⟨rfl, rfl⟩)
    go_ret
    exact ⟨ret_b (by cases o <;> simp <;> omega), rfl⟩
  · go_enter Try.func38, Try.ntmps38
    go_wp2_with (go_at_call 61; refine ht.out.mono ?_; rintro e wj ⟨rfl, rfl⟩)
    go_ret
    exact ⟨rfl, rfl⟩
end Go.Proofs.Ytbemlfppekpmjaa
