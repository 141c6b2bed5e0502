import Derived.Test.YtbemlfppekpmjaaR
namespace Go.Proofs.Ytbemlfppekpmjaa
open Go.RowKit Rng
set_option maxHeartbeats 2000000 in
set_option maxRecDepth 100000 in
theorem send108 {w : World} {B b : Nat} {fv : Value} {M : Mb} (k : WrAt w B b fv M) (hl : M.fl.length ≤ 100000) (hs : M.st ≤ 100000) (x : Nt) :
    Calls Try.prog 108 #[.pointer (some ⟨b, 0, none⟩), .agg #[.int .i64 x.kd, .int .i64 x.nm]] w (WrEnd w B b fv (M.send x) (.tuple #[])) := by
  obtain ⟨i0, hi, hz0, hz1, hz2⟩ := info_parts info108
  obtain ⟨kd, nm⟩ := x
  simp only
  obtain ⟨ao, fc, rfl, -⟩ := k.flv
  obtain ⟨V, hV⟩ : ∃ V, V = w.alloc (.cells #[.int .i64 kd, .int .i64 nm] 108) := ⟨_, rfl⟩
  have hbA := Lib.hid (show Below w.heap.size w V by rw [hV]; exact below_alloc1 _ _)
  have k1 := Lib.hid (k.below hbA.out)
  have hsV := Lib.hid (show V.heap.size = w.heap.size + 1 by rw [hV]; exact World.size_alloc _ _)
  have hgA := heap_alloc_new w (.cells #[.int .i64 kd, .int .i64 nm] 108)
  have x0 : V.cell? ⟨w.heap.size, 0, none⟩ = some (.int .i64 kd) := by rw [hV]; exact cell_of_row _ _ 0 _ _ _ hgA
  have x1 : V.cell? ⟨w.heap.size, 1, none⟩ = some (.int .i64 nm) := by rw [hV]; exact cell_of_row _ _ 1 _ _ _ hgA
  have hbB := Lib.hid (below_alloc1 V (.cells #[.int .i64 kd, .int .i64 nm] 108))
  have c3 := k1.out.c3
  have k2 := Lib.hid (k1.out.below hbB.out)
  have c3' := k2.out.c3
  have hO := Lib.hid k2.out.fl
  obtain ⟨m, hm⟩ : ∃ m, m = M.fl.length := ⟨_, rfl⟩
  have hm' := Lib.hid hm
  rw [← hm] at c3 c3' hl hO k1 k2 ⊢
  have hcl := Lib.hid (show ∀ j u, (#[Value.int .i64 (kd : Int), .int .i64 nm] : Array Value)[j]? = some u → (V.alloc (.cells #[.int .i64 kd, .int .i64 nm] 108)).drew.cell? ((⟨V.heap.size, 0, none⟩ : Addr).add j) = some u from fun j u hu => by
    rw [Addr.add_lit, Nat.zero_add]
    show (V.alloc (.cells #[.int .i64 kd, .int .i64 nm] 108)).cell? _ = _
    rw [World.cell?_alloc_at (hn := rfl)]; exact hu)
  have hO2 := Lib.hid (show (V.alloc (.cells #[.int .i64 kd, .int .i64 nm] 108)).drew.ownsRow B 108 2 (.slice ao m fc) m (flat encN M.fl) by have := hO.out; unfold OwnN at this; rw [← hm'.out] at this; exact this)
  have hB := Lib.hid (show B ≤ (V.alloc (.cells #[.int .i64 kd, .int .i64 nm] 108)).drew.heap.size from Nat.le_trans k2.out.Bb (Nat.le_of_lt k2.out.bw))
  have hV' := Lib.hid hV
  clear hgA hm hV
  go_enter Try.func108, Try.ntmps108
  go_wp2_with fail
  rw [← hV'.out]
  go_region_law (refine step_one (n := m) (v := .slice ao m fc) (y := #[.int .i64 kd, .int .i64 nm]) (ad := ⟨V.heap.size, 0, none⟩) (c := 1) Try.underlying79 hi hz0 hz1 hz2 rfl (by decide) (by decide) rfl (.tmp 8) (.tmp 10) rfl hO2.out (by simp [Act.eval]) (by simp [Act.eval]) rfl hcl.out (one_flatN [⟨kd, nm⟩]) (by omega) hB.out ?_; intro v1 w1 hO1 hb1 hk1 ho1 hs1
                 have hbk := hk1 b k2.out.bw k2.out.bf
                 have hc3 := (cell_block (p := ⟨b, 3, none⟩) hbk).trans c3'
                 have hf3 := (frozen_block (p := ⟨b, 3, none⟩) hbk).trans (k2.out.fz 3)
                 have hf2 := (frozen_block (p := ⟨b, 2, none⟩) hbk).trans (k2.out.fz 2)
                 have hc2 := (cell_block (p := ⟨b, 2, none⟩) hbk).trans k2.out.c2
                 obtain ⟨g1, c1, rfl⟩ : ∃ g c, v1 = .slice (some ⟨g, 0, none⟩) (m + 1) c := by
                   obtain ⟨ao, c, e, hc, h⟩ := own_cells hO1
                   obtain ⟨g, rfl, _⟩ := h (by omega)
                   exact ⟨g, c, e⟩
                 have hb1' := Lib.hid hb1
                 have hk1' := Lib.hid hk1
                 have ho1' := Lib.hid ho1
                 have hs1' := Lib.hid hs1
                 have hO1' := Lib.hid hO1
                 have hhs := Lib.hid hs
                 clear hO1 hb1 hk1 ho1 hs1 hbk)
  all_goals
    go_wp2_with fail
    refine bodyPost_ret (results_none rfl _ _ _) rfl ?_
    have hkf := Lib.hid (k2.out.drew.setF (fv' := .slice (some ⟨g1, 0, none⟩) (m + 1) c1) (fl' := M.fl ++ [⟨kd, nm⟩]) hs1'.out hk1'.out (by unfold OwnN; rw [List.length_append, flat_app, ← hm'.out]; exact hO1'.out) ho1'.out)
    have hfr : Frm (WrP b (.slice ao m fc)) (WrP b (.slice (some ⟨g1, 0, none⟩) (m + 1) c1)) w w1 :=
      (Frm.of_below (hbA.out.trans (hbB.out.mono hbA.out.size)).drew).trans (frm_appW hb1'.out hk1'.out ho1'.out)
    refine ⟨rfl, .slice (some ⟨g1, 0, none⟩) (m + 1) c1, ?_, fun j hj => ?_, (hfr.set (.inl rfl)).set (.inl rfl)⟩
    · exact hkf.out.setC (j := 2) (by decide) rfl rfl (by show Value.int .i64 ((M.st : Int) + 1) = .int .i64 ((M.st + 1 : Nat) : Int); rw [show ((M.st : Int) + 1) = ((M.st + 1 : Nat) : Int) by omega]) rfl
    · rw [World.cell?_setCell_other _ _ _ _ (by simp <;> omega), World.cell?_setCell_other _ _ _ _ (by simp <;> omega)]
      have hbk := hk1'.out b k2.out.bw k2.out.bf
      rw [cell_block (p := ⟨b, j, none⟩) hbk]
      have hbV : b < V.heap.size := k1.out.bw
      exact (hbB.out.cell (p := ⟨b, j, none⟩) hbV).trans (hbA.out.cell (p := ⟨b, j, none⟩) k.bw)
end Go.Proofs.Ytbemlfppekpmjaa
