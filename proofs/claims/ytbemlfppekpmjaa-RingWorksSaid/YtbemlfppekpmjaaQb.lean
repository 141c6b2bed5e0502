import Derived.Test.YtbemlfppekpmjaaQa
import Derived.Test.YtbemlfppekpmjaaR
namespace Go.Proofs.Ytbemlfppekpmjaa
open Go.RowKit Rng
theorem cell_alloc_new (w : World) (cs : Array Value) (t : TypeId) (j : Nat) : (w.alloc (.cells cs t)).cell? ⟨w.heap.size, j, none⟩ = cs[j]? := World.cell?_alloc_at cs t w.heap.size j rfl
set_option maxHeartbeats 1000000 in
set_option maxRecDepth 100000 in
theorem put65 {w : World} {B b h c n : Nat} {fv : Value} {ts : List (Bool × Hd)} {ls : List Lt} (k : TkRow w B b h c fv n ts ls) (hl : ls.length ≤ 1000) (l : Lt) :
    Calls Try.prog 65 #[.pointer (some ⟨b, 0, none⟩), .agg #[.int .i64 l.fr, .int .i64 l.to, .bool l.ack]] w (fun e w' => e = .returned (.tuple #[]) ∧ ∃ fv', TkRow w' B b h c fv' n ts (ls ++ [l]) ∧ Frm (WkP b h fv) (WkP b h fv') w w') := by
  obtain ⟨i0, hi, hz0, hz1, hz2⟩ := info_parts info69
  obtain ⟨f, t, ac⟩ := l
  simp only
  obtain ⟨V, hV⟩ : ∃ V, V = w.alloc (.cells #[.int .i64 f, .int .i64 t, .bool ac] 69) := ⟨_, rfl⟩
  have hbV := Lib.hid (show Below w.heap.size w V by rw [hV]; exact below_alloc1 _ _)
  have hsV := Lib.hid (show V.heap.size = w.heap.size + 1 by rw [hV]; exact World.size_alloc _ _)
  have hg := heap_alloc_new w (.cells #[.int .i64 f, .int .i64 t, .bool ac] 69)
  rw [← hV] at hg
  have hX := Lib.hid (show ∀ W, Below V.heap.size V W → W.cell? ⟨w.heap.size, 0, none⟩ = some (.int .i64 f) ∧ W.cell? ⟨w.heap.size, 1, none⟩ = some (.int .i64 t) ∧ W.cell? ⟨w.heap.size, 2, none⟩ = some (.bool ac) from fun W hb =>
    ⟨(hb.cell (p := ⟨w.heap.size, 0, none⟩) (by rw [hsV.out]; exact Nat.lt_succ_self _)).trans (cell_of_row _ _ 0 _ _ _ hg), (hb.cell (p := ⟨w.heap.size, 1, none⟩) (by rw [hsV.out]; exact Nat.lt_succ_self _)).trans (cell_of_row _ _ 1 _ _ _ hg), (hb.cell (p := ⟨w.heap.size, 2, none⟩) (by rw [hsV.out]; exact Nat.lt_succ_self _)).trans (cell_of_row _ _ 2 _ _ _ hg)⟩)
  have hbw := Lib.hid (show b < V.heap.size by rw [hsV.out]; have := k.bw; omega)
  have hC := Lib.hid (show ∀ W, Below V.heap.size V W → W.cell? ⟨b, 1, none⟩ = some fv ∧ W.frozen? ⟨b, 1, none⟩ = false from fun W hb =>
    ⟨((hb.cell (p := ⟨b, 1, none⟩) hbw.out).trans (hbV.out.cell (p := ⟨b, 1, none⟩) k.bw)).trans k.c1, ((hb.frozen (p := ⟨b, 1, none⟩) hbw.out).trans (hbV.out.frozen (p := ⟨b, 1, none⟩) k.bw)).trans (k.fz 1)⟩)
  have hF := Lib.hid (show ∀ W, Below V.heap.size V W → FlatR W 3 fv ls.length (flat encL ls) from fun W hb => ((own_flatR k.fl).below hbV.out).below hb)
  obtain ⟨ao, fc, rfl, -⟩ : ∃ ao fc, fv = .slice ao ls.length fc ∧ ls.length ≤ fc := by
    obtain ⟨ao, c', e, hc, _⟩ := own_cells k.fl
    exact ⟨ao, c', e, hc⟩
  obtain ⟨m, hm⟩ : ∃ m, m = ls.length := ⟨_, rfl⟩
  rw [← hm] at hC hF hl
  have hm' := Lib.hid hm
  have bA := Lib.hid (below_alloc1 V (.cells #[] 69))
  have bC := Lib.hid (below_alloc1 V (.cells #[.int .i64 f, .int .i64 t, .bool ac] 69))
  have bAC := Lib.hid (bA.out.trans ((below_alloc1 (V.alloc (.cells #[] 69)) (.cells #[.int .i64 f, .int .i64 t, .bool ac] 69)).mono bA.out.size))
  have bCA := Lib.hid (bC.out.trans ((below_alloc1 (V.alloc (.cells #[.int .i64 f, .int .i64 t, .bool ac] 69)) (.cells #[] 69)).mono bC.out.size))
  have oA := Lib.hid (lit_own V V.heap.size V.heap.size 3 69 (Nat.le_refl _) rfl)
  have oAC := Lib.hid (World.ownsRow.alloc oA.out (.cells #[.int .i64 f, .int .i64 t, .bool ac] 69))
  have oCA := Lib.hid (lit_own (V.alloc (.cells #[.int .i64 f, .int .i64 t, .bool ac] 69)) V.heap.size _ 3 69 bC.out.size rfl)
  obtain ⟨x0, x1, x2⟩ := hX.out V (Below.refl _ _)
  obtain ⟨a0, a1, a2⟩ := hX.out _ bA.out
  obtain ⟨p0, p1, p2⟩ := hX.out _ bC.out
  obtain ⟨q0, q1, q2⟩ := hX.out _ bAC.out
  obtain ⟨r0, r1, r2⟩ := hX.out _ bCA.out
  have y1 := (hC.out V (Below.refl _ _)).1
  have y2 := (hC.out _ bA.out).1
  have y3 := (hC.out _ bC.out).1
  have y4 := (hC.out _ bAC.out).1
  have y5 := (hC.out _ bCA.out).1
  have hV' := Lib.hid hV
  have k' := Lib.hid k
  clear k hg hm hV
  go_enter Try.func65, Try.ntmps65
  go_wp2_with fail
  rw [← hV'.out]
  go_region_law (first
    | (refine step_flat (B := V.heap.size) (n := 0) (m := m) (w := (V.alloc (.cells #[] 69)).drew) Try.underlying60 hi hz0 hz1 hz2 rfl (by decide) (by decide) rfl (.tmp 5) (.tmp 9) rfl oA.out (by simp [Act.eval]) (by simp [Act.eval]) (hF.out _ bA.out.drew) (one_flatL ls) (by omega) (Nat.le_trans bA.out.size (Nat.le_refl _)) ?_; intro v1 w1 hO1 hb1 hk1
       rw [Nat.zero_add, List.nil_append] at hO1
       have bW := bA.out.drew.trans hb1
       obtain ⟨z0, z1, z2⟩ := hX.out w1 bW
       obtain ⟨y6, yf6⟩ := hC.out w1 bW
       have bW' := Lib.hid bW
       have bWC := Lib.hid (bW.trans ((below_alloc1 w1 (.cells #[.int .i64 f, .int .i64 t, .bool ac] 69)).mono bW.size))
       obtain ⟨n0, n1, n2⟩ := hX.out _ bWC.out
       obtain ⟨y7, yf7⟩ := hC.out _ bWC.out
       have oA1 := Lib.hid (World.ownsRow.alloc hO1 (.cells #[.int .i64 f, .int .i64 t, .bool ac] 69))
       have hcA := Lib.hid (show ∀ j u, (#[Value.int .i64 (f : Int), .int .i64 t, .bool ac] : Array Value)[j]? = some u → (w1.alloc (.cells #[.int .i64 f, .int .i64 t, .bool ac] 69)).cell? ((⟨w1.heap.size, 0, none⟩ : Addr).add j) = some u from fun j u hu => by
         rw [Addr.add_lit, Nat.zero_add, World.cell?_alloc_at (hn := rfl)]; exact hu)
       clear hO1 hb1 hk1 bW)
    | (refine step_flat (B := V.heap.size) (n := 0) (m := m) (w := ((V.alloc (.cells #[] 69)).alloc (.cells #[.int .i64 f, .int .i64 t, .bool ac] 69)).drew) Try.underlying60 hi hz0 hz1 hz2 rfl (by decide) (by decide) rfl (.tmp 5) (.tmp 9) rfl oAC.out (by simp [Act.eval]) (by simp [Act.eval]) (hF.out _ bAC.out.drew) (one_flatL ls) (by omega) (Nat.le_trans bAC.out.size (Nat.le_refl _)) ?_; intro v1 w1 hO1 hb1 hk1
       rw [Nat.zero_add, List.nil_append] at hO1
       have bW := bAC.out.drew.trans hb1
       obtain ⟨z0, z1, z2⟩ := hX.out w1 bW
       obtain ⟨y6, yf6⟩ := hC.out w1 bW
       have bW' := Lib.hid bW
       have oB1 := Lib.hid hO1
       have hcB := Lib.hid (show ∀ j u, (#[Value.int .i64 (f : Int), .int .i64 t, .bool ac] : Array Value)[j]? = some u → w1.cell? ((⟨V.heap.size + 1, 0, none⟩ : Addr).add j) = some u from fun j u hu => by
         rw [Addr.add_lit, Nat.zero_add]
         have e := hk1 (V.heap.size + 1) (by show V.heap.size + 1 < ((V.alloc (.cells #[] 69)).alloc (.cells #[.int .i64 f, .int .i64 t, .bool ac] 69)).heap.size; simp) (by show some V.heap.size ≠ some (V.heap.size + 1); intro e; injection e with e; omega)
         rw [cell_block (p := ⟨V.heap.size + 1, j, none⟩) e]
         show ((V.alloc (.cells #[] 69)).alloc (.cells #[.int .i64 f, .int .i64 t, .bool ac] 69)).cell? _ = _
         have := cell_alloc_new (V.alloc (.cells #[] 69)) #[.int .i64 f, .int .i64 t, .bool ac] 69 j
         rw [World.size_alloc] at this
         rw [this]; exact hu)
       clear hO1 hb1 hk1 bW)
    | (refine step_flat (B := V.heap.size) (n := 0) (m := m) (w := ((V.alloc (.cells #[.int .i64 f, .int .i64 t, .bool ac] 69)).alloc (.cells #[] 69)).drew) Try.underlying60 hi hz0 hz1 hz2 rfl (by decide) (by decide) rfl (.tmp 5) (.tmp 9) rfl oCA.out (by simp [Act.eval]) (by simp [Act.eval]) (hF.out _ bCA.out.drew) (one_flatL ls) (by omega) (Nat.le_trans bCA.out.size (Nat.le_refl _)) ?_; intro v1 w1 hO1 hb1 hk1
       rw [Nat.zero_add, List.nil_append] at hO1
       have bW := bCA.out.drew.trans hb1
       obtain ⟨z0, z1, z2⟩ := hX.out w1 bW
       obtain ⟨y6, yf6⟩ := hC.out w1 bW
       have bW' := Lib.hid bW
       have oC1 := Lib.hid hO1
       have hcC := Lib.hid (show ∀ j u, (#[Value.int .i64 (f : Int), .int .i64 t, .bool ac] : Array Value)[j]? = some u → w1.cell? ((⟨V.heap.size, 0, none⟩ : Addr).add j) = some u from fun j u hu => by
         rw [Addr.add_lit, Nat.zero_add]
         have e := hk1 V.heap.size (by show V.heap.size < ((V.alloc (.cells #[.int .i64 f, .int .i64 t, .bool ac] 69)).alloc (.cells #[] 69)).heap.size; simp; omega) (by show some (V.alloc (.cells #[.int .i64 f, .int .i64 t, .bool ac] 69)).heap.size ≠ some V.heap.size; rw [World.size_alloc]; intro e; injection e with e; omega)
         rw [cell_block (p := ⟨V.heap.size, j, none⟩) e]
         show ((V.alloc (.cells #[.int .i64 f, .int .i64 t, .bool ac] 69)).alloc (.cells #[] 69)).cell? _ = _
         rw [(below_alloc1 _ _).cell (p := ⟨V.heap.size, j, none⟩) (by show V.heap.size < (V.alloc (.cells #[.int .i64 f, .int .i64 t, .bool ac] 69)).heap.size; rw [World.size_alloc]; exact Nat.lt_succ_self _), cell_alloc_new]; exact hu)
       clear hO1 hb1 hk1 bW)
    | (refine step_one (B := V.heap.size) (n := m) (w := w1.alloc (.cells #[.int .i64 f, .int .i64 t, .bool ac] 69)) (y := #[.int .i64 f, .int .i64 t, .bool ac]) (ad := ⟨w1.heap.size, 0, none⟩) (c := 1) Try.underlying60 hi hz0 hz1 hz2 rfl (by decide) (by decide) rfl (.tmp 10) (.tmp 12) rfl oA1.out (by simp [Act.eval]) (by simp [Act.eval]) rfl hcA.out (one_flatL [⟨f, t, ac⟩]) (by omega) bWC.out.size ?_; intro v2 w2 hO2 hb2 _ _ _
       have hbF := Lib.hid (bWC.out.trans hb2)
       have hOF := Lib.hid hO2
       obtain ⟨g2, c2, rfl⟩ : ∃ g c, v2 = .slice (some ⟨g, 0, none⟩) (m + 1) c := by
         obtain ⟨ao, c, e, hc, h⟩ := own_cells hO2
         obtain ⟨g, rfl, _⟩ := h (by omega)
         exact ⟨g, c, e⟩
       obtain ⟨u1, uf1⟩ := hC.out w2 hbF.out
       clear hO2 hb2)
    | (refine step_one (B := V.heap.size) (n := m) (w := w1) (y := #[.int .i64 f, .int .i64 t, .bool ac]) (ad := ⟨V.heap.size + 1, 0, none⟩) (c := 1) Try.underlying60 hi hz0 hz1 hz2 rfl (by decide) (by decide) rfl (.tmp 10) (.tmp 12) rfl oB1.out (by simp [Act.eval]) (by simp [Act.eval]) rfl hcB.out (one_flatL [⟨f, t, ac⟩]) (by omega) bW'.out.size ?_; intro v2 w2 hO2 hb2 _ _ _
       have hbF := Lib.hid (bW'.out.trans hb2)
       have hOF := Lib.hid hO2
       obtain ⟨g2, c2, rfl⟩ : ∃ g c, v2 = .slice (some ⟨g, 0, none⟩) (m + 1) c := by
         obtain ⟨ao, c, e, hc, h⟩ := own_cells hO2
         obtain ⟨g, rfl, _⟩ := h (by omega)
         exact ⟨g, c, e⟩
       obtain ⟨u1, uf1⟩ := hC.out w2 hbF.out
       clear hO2 hb2)
    | (refine step_one (B := V.heap.size) (n := m) (w := w1) (y := #[.int .i64 f, .int .i64 t, .bool ac]) (ad := ⟨V.heap.size, 0, none⟩) (c := 1) Try.underlying60 hi hz0 hz1 hz2 rfl (by decide) (by decide) rfl (.tmp 10) (.tmp 12) rfl oC1.out (by simp [Act.eval]) (by simp [Act.eval]) rfl hcC.out (one_flatL [⟨f, t, ac⟩]) (by omega) bW'.out.size ?_; intro v2 w2 hO2 hb2 _ _ _
       have hbF := Lib.hid (bW'.out.trans hb2)
       have hOF := Lib.hid hO2
       obtain ⟨g2, c2, rfl⟩ : ∃ g c, v2 = .slice (some ⟨g, 0, none⟩) (m + 1) c := by
         obtain ⟨ao, c, e, hc, h⟩ := own_cells hO2
         obtain ⟨g, rfl, _⟩ := h (by omega)
         exact ⟨g, c, e⟩
       obtain ⟨u1, uf1⟩ := hC.out w2 hbF.out
       clear hO2 hb2))
  all_goals
    first
      | refine bodyPost_ret (results_none rfl _ _ _) rfl ?_
      | go_end0
    have hkV : TkRow V B b h c (.slice ao m fc) n ts ls := by
      have := k'.out
      rw [← hm'.out] at this
      exact ⟨this.Bb, Nat.lt_of_lt_of_le this.bw hbV.out.size, (hbV.out.cell (p := ⟨b, 0, none⟩) this.bw).trans this.c0, (hbV.out.cell (p := ⟨b, 1, none⟩) this.bw).trans this.c1, fun j => (hbV.out.frozen (p := ⟨b, j, none⟩) this.bw).trans (this.fz j), own_below this.hn hbV.out, own_below this.fl hbV.out, this.bh, this.bf, this.hf⟩
    refine ⟨rfl, .slice (some ⟨g2, 0, none⟩) (m + 1) c2, hkV.setF hbF.out ?_, ?_⟩
    · unfold OwnL; rw [List.length_append, flat_app, ← hm'.out]; exact hOF.out
    · have hb3 : Below w.heap.size w w2 := hbV.out.trans (hbF.out.mono hbV.out.size)
      refine Frm.set ⟨hb3.os, hb3.tape, hb3.output, hb3.size, fun k hk _ => hb3.block k hk, fun k hk => ?_⟩ (.inl rfl)
      rcases hk with e | e | e
      · exact .inl (.inl e)
      · exact .inl (.inr (.inl e))
      · right
        have := (World.ownsRow.lt hOF.out _ e).1
        have := hbV.out.size
        omega
end Go.Proofs.Ytbemlfppekpmjaa
