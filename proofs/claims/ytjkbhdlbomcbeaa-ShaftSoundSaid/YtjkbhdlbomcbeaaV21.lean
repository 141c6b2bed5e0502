import Derived.Test.YtjkbhdlbomcbeaaV19
import Derived.Test.YtjkbhdlbomcbeaaV20
import Derived.Test.YtjkbhdlbomcbeaaV9
namespace Go.Proofs.Ytjkbhdlbomcbeaa
open Go.RowKit Go.Shelf Shf
attribute [local go_sem] Oper.semAt_some

theorem nab (z : Int) : z ≤ z.natAbs ∧ -z ≤ z.natAbs ∧ (0 ≤ z → (z.natAbs : Int) = z) ∧ (z ≤ 0 → (z.natAbs : Int) = -z) := by omega
set_option maxHeartbeats 8000000 in
set_option maxRecDepth 100000 in
theorem spans77 {w : World} {v : Value} {s : Sh} (hs : Loose s) (hft : Fit s) (h : ShV w v s.P s.js (osI s)) : Calls Try.prog 77 #[v] w (SpansEnd w s) := by
  have hsh := Lib.hid (fun (W : World) (hb : Below w.heap.size w W) => h.below hb)
  obtain ⟨jv, ov, rfl, rj, ro⟩ := h
  obtain ⟨ja, jc, rfl, hjc, hjat⟩ := rj.at
  obtain ⟨oa, oc, rfl, hoc, hoat⟩ := ro.at
  obtain ⟨n, hn⟩ : ∃ n, n = s.js.length := ⟨_, rfl⟩
  obtain ⟨m, hm⟩ : ∃ m, m = (osI s).length := ⟨_, rfl⟩
  rw [← hn] at hjc hjat hsh ⊢
  rw [← hm] at hoc hoat hsh ⊢
  have h7 : n ≤ 7 := by rw [hn]; exact Nat.le_succ_of_le hs.num.2
  have hm20 : m ≤ 20 := by have := hs.few; have e : (osI s).length = s.os.length := by simp [osI]
                           omega
  have hrow := Lib.hid hjat
  have horw := Lib.hid hoat
  have hjobs := Lib.hid (fun (q : Nat) (hq : q < n) => hs.jobs q (by rw [hn] at hq; exact hq))
  have hfit := Lib.hid (fun (q : Nat) (hq : q < n) => hft q (by rw [hn] at hq; exact hq))
  have hord := Lib.hid (fun (q : Nat) (hq : q < m) => (show (s.os.getD q (0, 0)).1 < n ∧ (s.os.getD q (0, 0)).2 < n from by
    have hql : q < s.os.length := by rw [hm] at hq; simpa [osI] using hq
    have := hs.orders _ (os_mem hql)
    exact ⟨by rw [hn]; exact this.1, by rw [hn]; exact this.2.1⟩))
  have hs' := Lib.hid hs
  have hft' := Lib.hid hft
  have hn' := Lib.hid hn
  refine (callsIn_wide (n := 6)).1 ?_
  have hmx : Try.prog.follows .mixedOrders = true := by kernel_rfl
  refine callsIn_of_wp_marks Try.func77 rfl trivial ?_ rfl
  simp only [Try.ntmps77, List.size_toArray, List.length_cons, List.length_nil, Nat.reduceAdd, Nat.reduceSub, Array.replicate_succ, Array.replicate_zero, List.push_toArray, List.append_toArray, List.nil_append, List.cons_append]
  obtain ⟨W0, hW0⟩ : ∃ W0, W0 = (w.alloc (.cells #[.int .i64 s.P, .slice ja n jc, .slice oa m oc] 81)).alloc (.cells #[.slice none 0 0] 136) := ⟨_, rfl⟩
  have hSp := Lib.hid (show Sp w W0 (.int .i64 s.P) (.slice ja n jc) (.slice oa m oc) (.slice none 0 0) (spI s 0) from by
    have hb : Below w.heap.size w W0 := by rw [hW0]; exact (below_alloc1 _ _).alloc (by simp) _
    have c0 : Sh3 (w.alloc (.cells #[.int .i64 s.P, .slice ja n jc, .slice oa m oc] 81)) w.heap.size (.int .i64 s.P) (.slice ja n jc) (.slice oa m oc) := (Three.new w _ _ _ 81).1
    have c1 : Bx _ _ _ := cell_new_e (w.alloc (.cells #[.int .i64 s.P, .slice ja n jc, .slice oa m oc] 81)) (.slice none 0 0) 136
    rw [World.size_alloc] at c1
    exact ⟨hb, by rw [hW0]; exact c0.alloc _, by rw [hW0]; exact c1, World.ownsRow_nil _ _ _ _, by rw [hW0]; simp⟩)
  clear hs hft rj ro hjat hoat hn hm hoc hjc
  refine wpIn_wide.2 ?_
  go_upto_region 2 with fail
  rw [← hW0]
  clear hW0
  have hb1 := hSp.out.sh.2.1
  go_wp2_with fail
  clear hb1
  go_loopw [19] (fun iv wr => ∃ i : Nat, i ≤ n ∧ iv = .int .i64 i ∧ ∃ sv, Hid (Sp w wr (.int .i64 s.P) (.slice ja n jc) (.slice oa m oc) sv (spI s i))) (fun iv _ => n - (intOf iv).toNat)
  case atStart => exact ⟨0, Nat.zero_le _, rfl, _, hSp⟩
  case round =>
    clear hSp
    obtain ⟨i, hi, rfl, sv, hR⟩ := hrel
    obtain ⟨wo, rfl⟩ : ∃ wo : World, wo = wr := ⟨_, rfl⟩
    by_cases hin : i < n
    · have hin' : (i : Int) < (n : Int) := by omega
      have hin2 := Lib.hid hin
      obtain ⟨jg, rfl, hjg, p0, p1, p2, p3⟩ := hrow.out i hin
      have hJJ := hjobs.out i hin
      rw [show s.js.getD i J0 = s.job i from rfl] at p0 p1 p2 p3
      obtain ⟨⟨f, t, l, p⟩, hjj⟩ : ∃ y, y = s.job i := ⟨_, rfl⟩
      rw [← hjj] at hJJ p0 p1 p2 p3
      simp only at hJJ p0 p1 p2 p3
      have r0 := (hR.out.low.cell (p := ⟨jg, i * 4, none⟩) hjg).trans p0
      have r1 := (hR.out.low.cell (p := ⟨jg, i * 4 + 1, none⟩) hjg).trans p1
      have r2 := (hR.out.low.cell (p := ⟨jg, i * 4 + 2, none⟩) hjg).trans p2
      have r3 := (hR.out.low.cell (p := ⟨jg, i * 4 + 3, none⟩) hjg).trans p3
      have e38 := Lib.hid (show ∀ W, Calls Try.prog 38 #[.agg #[.int .i64 f, .int .i64 t, .int .i64 l, .int .i64 p]] W fun e w' => e = .returned (.int .i64 (t - l)) ∧ Below W.heap.size W w' from fun W => latest38 ⟨f, t, l, p⟩ (by simp only; omega))
      have s6 : IntKind.i64.wrap ((i : Int) + 1) = (i : Int) + 1 := IntWalk.i64_in _ (by omega)
      have hnx := Lib.hid (show spI s (i + 1) = spI s i ++ [(f, t - l)] by rw [spI_next, ← hjj]; rfl)
      clear p0 p1 p2 p3 hjj
      obtain ⟨W2, hW2⟩ : ∃ W2, W2 = wo.alloc (.cells #[.int .i64 f, .int .i64 t, .int .i64 l, .int .i64 p] 56) := ⟨_, rfl⟩
      have hR2 := Lib.hid (show Sp w W2 (.int .i64 s.P) (.slice (some ⟨jg, 0, none⟩) n jc) (.slice oa m oc) sv (spI s i) from by rw [hW2]; exact hR.out.keep (below_alloc1 _ _))
      have q0 : W2.cell? ⟨wo.heap.size, 0, none⟩ = some (.int .i64 f) := by rw [hW2]; simp
      have q1 : W2.cell? ⟨wo.heap.size, 1, none⟩ = some (.int .i64 t) := by rw [hW2]; simp
      have q2 : W2.cell? ⟨wo.heap.size, 2, none⟩ = some (.int .i64 l) := by rw [hW2]; simp
      have q3 : W2.cell? ⟨wo.heap.size, 3, none⟩ = some (.int .i64 p) := by rw [hW2]; simp
      have hq := Lib.hid (And.intro q0 (And.intro q1 (And.intro q2 q3)))
      clear q0 q1 q2 q3
      go_upto_region 5 with fail
      rw [← hW2]
      clear hW2 r0 r1 r2 r3
      obtain ⟨q0, q1, q2, q3⟩ := hq.out
      have b3 := hR2.out.bx.1
      have hjn := Lib.hid (show sv.ownBlock ≠ some wo.heap.size from fun e => by have := (World.ownsRow.lt hR.out.own _ e).2; omega)
      have hjo' := Lib.hid (show w.heap.size + 1 ≠ wo.heap.size by have := hR.out.sz; omega)
      refine wp_region_noPanic ?_
      refine wp_region_any (by kernel_rfl) (wpAny_of_held (S := (fun w' => w'.cell? ⟨wo.heap.size, 0, none⟩ = some (.int .i64 f) ∧ w'.cell? ⟨wo.heap.size, 1, none⟩ = some (.int .i64 t) ∧ w'.cell? ⟨wo.heap.size, 2, none⟩ = some (.int .i64 l) ∧ w'.cell? ⟨wo.heap.size, 3, none⟩ = some (.int .i64 p))) _ _ _ _ ?_)
      have hHeld :  W2.drew.cell? ⟨wo.heap.size, 0, none⟩ = some (.int .i64 f) ∧ W2.drew.cell? ⟨wo.heap.size, 1, none⟩ = some (.int .i64 t) ∧ W2.drew.cell? ⟨wo.heap.size, 2, none⟩ = some (.int .i64 l) ∧ W2.drew.cell? ⟨wo.heap.size, 3, none⟩ = some (.int .i64 p) := ⟨q0, q1, q2, q3⟩
      change wpAnyH _ _ _ _ _ _ _ _ W2.drew
      simp only [List.size_toArray, List.length_cons, List.length_nil, Nat.reduceAdd, Array.replicate_succ, Array.replicate_zero, List.push_toArray, List.nil_append, List.cons_append]
      have hRV0 := Lib.hid (hR2.out.keep (Below.refl W2.heap.size W2).drew)
      obtain ⟨V0, hV0⟩ : ∃ V0, V0 = W2.drew := ⟨_, rfl⟩
      rw [← hV0] at hRV0 hHeld ⊢
      clear hV0 q0 q1 q2 q3 b3 hR2 hq
      refine wpAnyH_take (i := 1) (v := .pointer (some ⟨wo.heap.size, 0, none⟩)) rfl (by as_aux_lemma => kernel_rfl) (by as_aux_lemma => kernel_rfl) (by as_aux_lemma => kernel_rfl) (fun _ _ _ h => h) (Or.inl ⟨by rfl, ?_⟩) hHeld ?_
      · intro w' hSw; go_simp
      simp only [Act.put, List.setIfInBounds_toArray, List.set_cons_zero, List.set_cons_succ, List.getElem_toArray, List.getElem_cons_succ, List.getElem_cons_zero]
      refine wpAnyH_take (i := 2) (v := .int .i64 f) rfl (by as_aux_lemma => kernel_rfl) (by as_aux_lemma => kernel_rfl) (by as_aux_lemma => kernel_rfl) (fun _ _ _ h => h) (Or.inl ⟨by rfl, ?_⟩) hHeld ?_
      · intro w' hSw; have c0 := hSw.1; go_simp
      simp only [Act.put, List.setIfInBounds_toArray, List.set_cons_zero, List.set_cons_succ, List.getElem_toArray, List.getElem_cons_succ, List.getElem_cons_zero]
      refine wpAnyH_take (i := 3) (v := .agg #[.int .i64 f, .int .i64 t, .int .i64 l, .int .i64 p]) rfl (by as_aux_lemma => kernel_rfl) (by as_aux_lemma => kernel_rfl) (by as_aux_lemma => kernel_rfl) (fun _ _ _ h => h) (Or.inl ⟨by rfl, ?_⟩) hHeld ?_
      · intro w' hSw; have c0 := hSw.1; have c1 := hSw.2.1; have c2 := hSw.2.2.1; have c3 := hSw.2.2.2; go_simp
      simp only [Act.put, List.setIfInBounds_toArray, List.set_cons_zero, List.set_cons_succ, List.getElem_toArray, List.getElem_cons_succ, List.getElem_cons_zero]
      refine wpAnyH_ready (rs := [0, 4]) (by as_aux_lemma => kernel_rfl) (by simp) ?_
      refine AllReadyH.cons rfl (fun K hK => ?_) (AllReadyH.cons rfl (fun K hK => ?_) AllReadyH.nil)
      · skip
        have b3 := hRV0.out.bx.1
        go_simp
        refine hK.out _ _ hHeld (fun hHeld => ?_)
        clear hK K b3
        simp only [List.setIfInBounds_toArray, List.set_cons_zero]
        refine wpAnyH_ready (rs := [4]) (by as_aux_lemma => kernel_rfl) (by simp) ?_
        refine AllReadyH.cons rfl (fun K hK => ?_) AllReadyH.nil
        have hV := Lib.hid (e38.out V0)
        go_simp
        refine hV.out.mono ?_
        rintro e V1 ⟨rfl, hbn⟩
        have hRV1 := Lib.hid (hRV0.out.keep hbn)
        have hHV1 :  V1.cell? ⟨wo.heap.size, 0, none⟩ = some (.int .i64 f) ∧ V1.cell? ⟨wo.heap.size, 1, none⟩ = some (.int .i64 t) ∧ V1.cell? ⟨wo.heap.size, 2, none⟩ = some (.int .i64 l) ∧ V1.cell? ⟨wo.heap.size, 3, none⟩ = some (.int .i64 p) := ⟨(hbn.cell (p := ⟨wo.heap.size, 0, none⟩) (cell_in hHeld.1)).trans hHeld.1, (hbn.cell (p := ⟨wo.heap.size, 1, none⟩) (cell_in hHeld.1)).trans hHeld.2.1, (hbn.cell (p := ⟨wo.heap.size, 2, none⟩) (cell_in hHeld.1)).trans hHeld.2.2.1, (hbn.cell (p := ⟨wo.heap.size, 3, none⟩) (cell_in hHeld.1)).trans hHeld.2.2.2⟩
        refine hK.out _ _ hHV1 (fun hHeld => ?_)
        clear hK K hV hbn hHV1
        simp only [List.setIfInBounds_toArray, List.set_cons_zero, List.set_cons_succ]
        refine wpAnyH_take (i := 5) (v := .agg #[.int .i64 f, .int .i64 (t - l)]) rfl (by as_aux_lemma => kernel_rfl) (by as_aux_lemma => kernel_rfl) (by as_aux_lemma => kernel_rfl) (fun _ _ _ h => h) (Or.inl ⟨by rfl, ?_⟩) hHeld ?_
        · intro w' hSw; go_simp
        simp only [Act.put, List.setIfInBounds_toArray, List.set_cons_zero, List.set_cons_succ, List.getElem_toArray, List.getElem_cons_succ, List.getElem_cons_zero]
        refine wpAnyH_ready (rs := [6]) (by as_aux_lemma => kernel_rfl) (by simp) ?_
        refine AllReadyH.cons rfl (fun K hK => ?_) AllReadyH.nil
        have hbn : Below V1.heap.size V1 (V1.alloc (.cells #[.int .i64 f, .int .i64 (t - l)] 139)) := below_alloc1 _ _
        obtain ⟨V2, hV2⟩ : ∃ V2, V2 = V1.alloc (.cells #[.int .i64 f, .int .i64 (t - l)] 139) := ⟨_, rfl⟩
        rw [← hV2] at hbn
        have hRV2 := Lib.hid (hRV1.out.keep hbn)
        have hHV2 :  V2.cell? ⟨wo.heap.size, 0, none⟩ = some (.int .i64 f) ∧ V2.cell? ⟨wo.heap.size, 1, none⟩ = some (.int .i64 t) ∧ V2.cell? ⟨wo.heap.size, 2, none⟩ = some (.int .i64 l) ∧ V2.cell? ⟨wo.heap.size, 3, none⟩ = some (.int .i64 p) := ⟨(hbn.cell (p := ⟨wo.heap.size, 0, none⟩) (cell_in hHeld.1)).trans hHeld.1, (hbn.cell (p := ⟨wo.heap.size, 1, none⟩) (cell_in hHeld.1)).trans hHeld.2.1, (hbn.cell (p := ⟨wo.heap.size, 2, none⟩) (cell_in hHeld.1)).trans hHeld.2.2.1, (hbn.cell (p := ⟨wo.heap.size, 3, none⟩) (cell_in hHeld.1)).trans hHeld.2.2.2⟩
        have hcl := Lib.hid (show V2.cell? ⟨V1.heap.size, 0, none⟩ = some (.int .i64 f) ∧ V2.cell? ⟨V1.heap.size, 1, none⟩ = some (.int .i64 (t - l)) by rw [hV2]; exact ⟨by simp, by simp⟩)
        go_simp
        rw [← hV2]
        refine hK.out _ _ hHV2 (fun hHeld => ?_)
        obtain ⟨gl, hgl⟩ : ∃ gl, gl = V1.heap.size := ⟨_, rfl⟩
        rw [← hgl] at hcl ⊢
        clear hK K hV2 hbn hHV2 hgl
        simp only [List.setIfInBounds_toArray, List.set_cons_zero, List.set_cons_succ]
        refine wpAnyH_ready (rs := [7]) (by as_aux_lemma => kernel_rfl) (by simp) ?_
        refine AllReadyH.cons rfl (fun K hK => ?_) AllReadyH.nil
        refine step_sp (gl := gl) (v := sv) (sp := spI s i) (x := f) (y := t - l) rfl (.tmp 23) (.tmp 29) rfl hRV2.out.own (by rw [spI_len]; omega) hRV2.out.sz (by simp [Act.eval]) (by simp [Act.eval]) hcl.out.1 hcl.out.2 ?_
        intro sv' V3 hoa hba hka
        obtain ⟨ga, ca, rfl⟩ := ownS_slice hoa (k := i) (by rw [List.length_append, spI_len]; rfl)
        have hkj := hka wo.heap.size (cell_in hHeld.1) (hjn.out)
        have hH3 := And.intro ((World.cell?_of_block (a := ⟨wo.heap.size, 0, none⟩) hkj).trans hHeld.1) (And.intro ((World.cell?_of_block (a := ⟨wo.heap.size, 1, none⟩) hkj).trans hHeld.2.1) (And.intro ((World.cell?_of_block (a := ⟨wo.heap.size, 2, none⟩) hkj).trans hHeld.2.2.1) ((World.cell?_of_block (a := ⟨wo.heap.size, 3, none⟩) hkj).trans hHeld.2.2.2)))
        refine hK.out _ _ hH3 (fun hHeld => ?_)
        have hRn := Lib.hid (show Sp w (V3.setCell ⟨w.heap.size + 1, 0, none⟩ (.slice (some ⟨ga, 0, none⟩) (i + 1) ca)) (.int .i64 s.P) (.slice (some ⟨jg, 0, none⟩) n jc) (.slice oa m oc) (.slice (some ⟨ga, 0, none⟩) (i + 1) ca) (spI s (i + 1)) from by rw [hnx.out]; exact hRV2.out.put hba hoa)
        have b1 := (hRV2.out.bx.below hba (by omega)).1
        have b2 := (hRV2.out.bx.below hba (by omega)).2
        clear hK K hoa hba hka hkj hH3
        simp only [Act.put, List.setIfInBounds_toArray, List.set_cons_zero, List.set_cons_succ, List.getElem_toArray, List.getElem_cons_succ, List.getElem_cons_zero]
        refine wpAnyH_ready (rs := [8]) (by as_aux_lemma => kernel_rfl) (by simp) ?_
        refine AllReadyH.cons rfl (fun K hK => ?_) AllReadyH.nil
        have hjo := hjo'.out
        have hH4 := And.intro ((World.cell?_setCell_other V3 ⟨w.heap.size + 1, 0, none⟩ ⟨wo.heap.size, 0, none⟩ (.slice (some ⟨ga, 0, none⟩) (i + 1) ca) (fun e => hjo (congrArg Addr.block e))).trans hHeld.1) (And.intro ((World.cell?_setCell_other V3 ⟨w.heap.size + 1, 0, none⟩ ⟨wo.heap.size, 1, none⟩ (.slice (some ⟨ga, 0, none⟩) (i + 1) ca) (fun e => hjo (congrArg Addr.block e))).trans hHeld.2.1) (And.intro ((World.cell?_setCell_other V3 ⟨w.heap.size + 1, 0, none⟩ ⟨wo.heap.size, 2, none⟩ (.slice (some ⟨ga, 0, none⟩) (i + 1) ca) (fun e => hjo (congrArg Addr.block e))).trans hHeld.2.2.1) ((World.cell?_setCell_other V3 ⟨w.heap.size + 1, 0, none⟩ ⟨wo.heap.size, 3, none⟩ (.slice (some ⟨ga, 0, none⟩) (i + 1) ca) (fun e => hjo (congrArg Addr.block e))).trans hHeld.2.2.2)))
        have hH4' := Lib.hid hH4
        clear hH4 hjo hHeld
        go_simp
        refine hK.out _ _ hH4'.out (fun _ => ?_)
        clear hK K b1 b2 hH4'
        simp only [List.setIfInBounds_toArray, List.set_cons_zero, List.set_cons_succ]
        refine wpAnyH_done (by kernel_rfl) ?_ _
        refine NoPanic.normal ?_
        go_wp2_with fail
        go_roundw
        case rel => exact ⟨i + 1, hin2.out, by go_num, _, hRn⟩
        case measure => simp [intOf]; omega
      · skip
        have hV := Lib.hid (e38.out V0)
        go_simp
        refine hV.out.mono ?_
        rintro e V1 ⟨rfl, hbn⟩
        have hRV1 := Lib.hid (hRV0.out.keep hbn)
        have hHV1 :  V1.cell? ⟨wo.heap.size, 0, none⟩ = some (.int .i64 f) ∧ V1.cell? ⟨wo.heap.size, 1, none⟩ = some (.int .i64 t) ∧ V1.cell? ⟨wo.heap.size, 2, none⟩ = some (.int .i64 l) ∧ V1.cell? ⟨wo.heap.size, 3, none⟩ = some (.int .i64 p) := ⟨(hbn.cell (p := ⟨wo.heap.size, 0, none⟩) (cell_in hHeld.1)).trans hHeld.1, (hbn.cell (p := ⟨wo.heap.size, 1, none⟩) (cell_in hHeld.1)).trans hHeld.2.1, (hbn.cell (p := ⟨wo.heap.size, 2, none⟩) (cell_in hHeld.1)).trans hHeld.2.2.1, (hbn.cell (p := ⟨wo.heap.size, 3, none⟩) (cell_in hHeld.1)).trans hHeld.2.2.2⟩
        refine hK.out _ _ hHV1 (fun hHeld => ?_)
        clear hK K hV hbn hHV1
        simp only [List.setIfInBounds_toArray, List.set_cons_zero, List.set_cons_succ]
        refine wpAnyH_take (i := 5) (v := .agg #[.int .i64 f, .int .i64 (t - l)]) rfl (by as_aux_lemma => kernel_rfl) (by as_aux_lemma => kernel_rfl) (by as_aux_lemma => kernel_rfl) (fun _ _ _ h => h) (Or.inl ⟨by rfl, ?_⟩) hHeld ?_
        · intro w' hSw; go_simp
        simp only [Act.put, List.setIfInBounds_toArray, List.set_cons_zero, List.set_cons_succ, List.getElem_toArray, List.getElem_cons_succ, List.getElem_cons_zero]
        refine wpAnyH_ready (rs := [0, 6]) (by as_aux_lemma => kernel_rfl) (by simp) ?_
        refine AllReadyH.cons rfl (fun K hK => ?_) (AllReadyH.cons rfl (fun K hK => ?_) AllReadyH.nil)
        · skip
          have b3 := hRV1.out.bx.1
          go_simp
          refine hK.out _ _ hHeld (fun hHeld => ?_)
          clear hK K b3
          simp only [List.setIfInBounds_toArray, List.set_cons_zero]
          refine wpAnyH_ready (rs := [6]) (by as_aux_lemma => kernel_rfl) (by simp) ?_
          refine AllReadyH.cons rfl (fun K hK => ?_) AllReadyH.nil
          have hbn : Below V1.heap.size V1 (V1.alloc (.cells #[.int .i64 f, .int .i64 (t - l)] 139)) := below_alloc1 _ _
          obtain ⟨V2, hV2⟩ : ∃ V2, V2 = V1.alloc (.cells #[.int .i64 f, .int .i64 (t - l)] 139) := ⟨_, rfl⟩
          rw [← hV2] at hbn
          have hRV2 := Lib.hid (hRV1.out.keep hbn)
          have hHV2 :  V2.cell? ⟨wo.heap.size, 0, none⟩ = some (.int .i64 f) ∧ V2.cell? ⟨wo.heap.size, 1, none⟩ = some (.int .i64 t) ∧ V2.cell? ⟨wo.heap.size, 2, none⟩ = some (.int .i64 l) ∧ V2.cell? ⟨wo.heap.size, 3, none⟩ = some (.int .i64 p) := ⟨(hbn.cell (p := ⟨wo.heap.size, 0, none⟩) (cell_in hHeld.1)).trans hHeld.1, (hbn.cell (p := ⟨wo.heap.size, 1, none⟩) (cell_in hHeld.1)).trans hHeld.2.1, (hbn.cell (p := ⟨wo.heap.size, 2, none⟩) (cell_in hHeld.1)).trans hHeld.2.2.1, (hbn.cell (p := ⟨wo.heap.size, 3, none⟩) (cell_in hHeld.1)).trans hHeld.2.2.2⟩
          have hcl := Lib.hid (show V2.cell? ⟨V1.heap.size, 0, none⟩ = some (.int .i64 f) ∧ V2.cell? ⟨V1.heap.size, 1, none⟩ = some (.int .i64 (t - l)) by rw [hV2]; exact ⟨by simp, by simp⟩)
          go_simp
          rw [← hV2]
          refine hK.out _ _ hHV2 (fun hHeld => ?_)
          obtain ⟨gl, hgl⟩ : ∃ gl, gl = V1.heap.size := ⟨_, rfl⟩
          rw [← hgl] at hcl ⊢
          clear hK K hV2 hbn hHV2 hgl
          simp only [List.setIfInBounds_toArray, List.set_cons_zero, List.set_cons_succ]
          refine wpAnyH_ready (rs := [7]) (by as_aux_lemma => kernel_rfl) (by simp) ?_
          refine AllReadyH.cons rfl (fun K hK => ?_) AllReadyH.nil
          refine step_sp (gl := gl) (v := sv) (sp := spI s i) (x := f) (y := t - l) rfl (.tmp 23) (.tmp 29) rfl hRV2.out.own (by rw [spI_len]; omega) hRV2.out.sz (by simp [Act.eval]) (by simp [Act.eval]) hcl.out.1 hcl.out.2 ?_
          intro sv' V3 hoa hba hka
          obtain ⟨ga, ca, rfl⟩ := ownS_slice hoa (k := i) (by rw [List.length_append, spI_len]; rfl)
          have hkj := hka wo.heap.size (cell_in hHeld.1) (hjn.out)
          have hH3 := And.intro ((World.cell?_of_block (a := ⟨wo.heap.size, 0, none⟩) hkj).trans hHeld.1) (And.intro ((World.cell?_of_block (a := ⟨wo.heap.size, 1, none⟩) hkj).trans hHeld.2.1) (And.intro ((World.cell?_of_block (a := ⟨wo.heap.size, 2, none⟩) hkj).trans hHeld.2.2.1) ((World.cell?_of_block (a := ⟨wo.heap.size, 3, none⟩) hkj).trans hHeld.2.2.2)))
          refine hK.out _ _ hH3 (fun hHeld => ?_)
          have hRn := Lib.hid (show Sp w (V3.setCell ⟨w.heap.size + 1, 0, none⟩ (.slice (some ⟨ga, 0, none⟩) (i + 1) ca)) (.int .i64 s.P) (.slice (some ⟨jg, 0, none⟩) n jc) (.slice oa m oc) (.slice (some ⟨ga, 0, none⟩) (i + 1) ca) (spI s (i + 1)) from by rw [hnx.out]; exact hRV2.out.put hba hoa)
          have b1 := (hRV2.out.bx.below hba (by omega)).1
          have b2 := (hRV2.out.bx.below hba (by omega)).2
          clear hK K hoa hba hka hkj hH3
          simp only [Act.put, List.setIfInBounds_toArray, List.set_cons_zero, List.set_cons_succ, List.getElem_toArray, List.getElem_cons_succ, List.getElem_cons_zero]
          refine wpAnyH_ready (rs := [8]) (by as_aux_lemma => kernel_rfl) (by simp) ?_
          refine AllReadyH.cons rfl (fun K hK => ?_) AllReadyH.nil
          have hjo := hjo'.out
          have hH4 := And.intro ((World.cell?_setCell_other V3 ⟨w.heap.size + 1, 0, none⟩ ⟨wo.heap.size, 0, none⟩ (.slice (some ⟨ga, 0, none⟩) (i + 1) ca) (fun e => hjo (congrArg Addr.block e))).trans hHeld.1) (And.intro ((World.cell?_setCell_other V3 ⟨w.heap.size + 1, 0, none⟩ ⟨wo.heap.size, 1, none⟩ (.slice (some ⟨ga, 0, none⟩) (i + 1) ca) (fun e => hjo (congrArg Addr.block e))).trans hHeld.2.1) (And.intro ((World.cell?_setCell_other V3 ⟨w.heap.size + 1, 0, none⟩ ⟨wo.heap.size, 2, none⟩ (.slice (some ⟨ga, 0, none⟩) (i + 1) ca) (fun e => hjo (congrArg Addr.block e))).trans hHeld.2.2.1) ((World.cell?_setCell_other V3 ⟨w.heap.size + 1, 0, none⟩ ⟨wo.heap.size, 3, none⟩ (.slice (some ⟨ga, 0, none⟩) (i + 1) ca) (fun e => hjo (congrArg Addr.block e))).trans hHeld.2.2.2)))
          have hH4' := Lib.hid hH4
          clear hH4 hjo hHeld
          go_simp
          refine hK.out _ _ hH4'.out (fun _ => ?_)
          clear hK K b1 b2 hH4'
          simp only [List.setIfInBounds_toArray, List.set_cons_zero, List.set_cons_succ]
          refine wpAnyH_done (by kernel_rfl) ?_ _
          refine NoPanic.normal ?_
          go_wp2_with fail
          go_roundw
          case rel => exact ⟨i + 1, hin2.out, by go_num, _, hRn⟩
          case measure => simp [intOf]; omega
        · skip
          have hbn : Below V1.heap.size V1 (V1.alloc (.cells #[.int .i64 f, .int .i64 (t - l)] 139)) := below_alloc1 _ _
          obtain ⟨V2, hV2⟩ : ∃ V2, V2 = V1.alloc (.cells #[.int .i64 f, .int .i64 (t - l)] 139) := ⟨_, rfl⟩
          rw [← hV2] at hbn
          have hRV2 := Lib.hid (hRV1.out.keep hbn)
          have hHV2 :  V2.cell? ⟨wo.heap.size, 0, none⟩ = some (.int .i64 f) ∧ V2.cell? ⟨wo.heap.size, 1, none⟩ = some (.int .i64 t) ∧ V2.cell? ⟨wo.heap.size, 2, none⟩ = some (.int .i64 l) ∧ V2.cell? ⟨wo.heap.size, 3, none⟩ = some (.int .i64 p) := ⟨(hbn.cell (p := ⟨wo.heap.size, 0, none⟩) (cell_in hHeld.1)).trans hHeld.1, (hbn.cell (p := ⟨wo.heap.size, 1, none⟩) (cell_in hHeld.1)).trans hHeld.2.1, (hbn.cell (p := ⟨wo.heap.size, 2, none⟩) (cell_in hHeld.1)).trans hHeld.2.2.1, (hbn.cell (p := ⟨wo.heap.size, 3, none⟩) (cell_in hHeld.1)).trans hHeld.2.2.2⟩
          have hcl := Lib.hid (show V2.cell? ⟨V1.heap.size, 0, none⟩ = some (.int .i64 f) ∧ V2.cell? ⟨V1.heap.size, 1, none⟩ = some (.int .i64 (t - l)) by rw [hV2]; exact ⟨by simp, by simp⟩)
          go_simp
          rw [← hV2]
          refine hK.out _ _ hHV2 (fun hHeld => ?_)
          obtain ⟨gl, hgl⟩ : ∃ gl, gl = V1.heap.size := ⟨_, rfl⟩
          rw [← hgl] at hcl ⊢
          clear hK K hV2 hbn hHV2 hgl
          simp only [List.setIfInBounds_toArray, List.set_cons_zero, List.set_cons_succ]
          refine wpAnyH_ready (rs := [0]) (by as_aux_lemma => kernel_rfl) (by simp) ?_
          refine AllReadyH.cons rfl (fun K hK => ?_) AllReadyH.nil
          have b3 := hRV2.out.bx.1
          go_simp
          refine hK.out _ _ hHeld (fun hHeld => ?_)
          clear hK K b3
          simp only [List.setIfInBounds_toArray, List.set_cons_zero]
          refine wpAnyH_ready (rs := [7]) (by as_aux_lemma => kernel_rfl) (by simp) ?_
          refine AllReadyH.cons rfl (fun K hK => ?_) AllReadyH.nil
          refine step_sp (gl := gl) (v := sv) (sp := spI s i) (x := f) (y := t - l) rfl (.tmp 23) (.tmp 29) rfl hRV2.out.own (by rw [spI_len]; omega) hRV2.out.sz (by simp [Act.eval]) (by simp [Act.eval]) hcl.out.1 hcl.out.2 ?_
          intro sv' V3 hoa hba hka
          obtain ⟨ga, ca, rfl⟩ := ownS_slice hoa (k := i) (by rw [List.length_append, spI_len]; rfl)
          have hkj := hka wo.heap.size (cell_in hHeld.1) (hjn.out)
          have hH3 := And.intro ((World.cell?_of_block (a := ⟨wo.heap.size, 0, none⟩) hkj).trans hHeld.1) (And.intro ((World.cell?_of_block (a := ⟨wo.heap.size, 1, none⟩) hkj).trans hHeld.2.1) (And.intro ((World.cell?_of_block (a := ⟨wo.heap.size, 2, none⟩) hkj).trans hHeld.2.2.1) ((World.cell?_of_block (a := ⟨wo.heap.size, 3, none⟩) hkj).trans hHeld.2.2.2)))
          refine hK.out _ _ hH3 (fun hHeld => ?_)
          have hRn := Lib.hid (show Sp w (V3.setCell ⟨w.heap.size + 1, 0, none⟩ (.slice (some ⟨ga, 0, none⟩) (i + 1) ca)) (.int .i64 s.P) (.slice (some ⟨jg, 0, none⟩) n jc) (.slice oa m oc) (.slice (some ⟨ga, 0, none⟩) (i + 1) ca) (spI s (i + 1)) from by rw [hnx.out]; exact hRV2.out.put hba hoa)
          have b1 := (hRV2.out.bx.below hba (by omega)).1
          have b2 := (hRV2.out.bx.below hba (by omega)).2
          clear hK K hoa hba hka hkj hH3
          simp only [Act.put, List.setIfInBounds_toArray, List.set_cons_zero, List.set_cons_succ, List.getElem_toArray, List.getElem_cons_succ, List.getElem_cons_zero]
          refine wpAnyH_ready (rs := [8]) (by as_aux_lemma => kernel_rfl) (by simp) ?_
          refine AllReadyH.cons rfl (fun K hK => ?_) AllReadyH.nil
          have hjo := hjo'.out
          have hH4 := And.intro ((World.cell?_setCell_other V3 ⟨w.heap.size + 1, 0, none⟩ ⟨wo.heap.size, 0, none⟩ (.slice (some ⟨ga, 0, none⟩) (i + 1) ca) (fun e => hjo (congrArg Addr.block e))).trans hHeld.1) (And.intro ((World.cell?_setCell_other V3 ⟨w.heap.size + 1, 0, none⟩ ⟨wo.heap.size, 1, none⟩ (.slice (some ⟨ga, 0, none⟩) (i + 1) ca) (fun e => hjo (congrArg Addr.block e))).trans hHeld.2.1) (And.intro ((World.cell?_setCell_other V3 ⟨w.heap.size + 1, 0, none⟩ ⟨wo.heap.size, 2, none⟩ (.slice (some ⟨ga, 0, none⟩) (i + 1) ca) (fun e => hjo (congrArg Addr.block e))).trans hHeld.2.2.1) ((World.cell?_setCell_other V3 ⟨w.heap.size + 1, 0, none⟩ ⟨wo.heap.size, 3, none⟩ (.slice (some ⟨ga, 0, none⟩) (i + 1) ca) (fun e => hjo (congrArg Addr.block e))).trans hHeld.2.2.2)))
          have hH4' := Lib.hid hH4
          clear hH4 hjo hHeld
          go_simp
          refine hK.out _ _ hH4'.out (fun _ => ?_)
          clear hK K b1 b2 hH4'
          simp only [List.setIfInBounds_toArray, List.set_cons_zero, List.set_cons_succ]
          refine wpAnyH_done (by kernel_rfl) ?_ _
          refine NoPanic.normal ?_
          go_wp2_with fail
          go_roundw
          case rel => exact ⟨i + 1, hin2.out, by go_num, _, hRn⟩
          case measure => simp [intOf]; omega
    · have hin' : ¬ ((i : Int) < (n : Int)) := by omega
      have hie : i = n := by omega
      rw [hie] at hR hin' ⊢
      clear hie hi hin
      have hnpos : 1 ≤ n := by have := hs'.out.num; rw [show s.n = n from hn'.out.symm] at this; exact this.1
      obtain ⟨g, c, rfl⟩ : ∃ g c, sv = .slice (some ⟨g, 0, none⟩) n c := by
        obtain ⟨q, hq⟩ : ∃ q, n = q + 1 := ⟨n - 1, by omega⟩
        subst hq
        exact ownS_slice hR.out.own (spI_len _ _)
      have hSpK := Lib.hid (show SpanOk s (spI s n) from by have := spI_ok hs'.out hft'.out; rw [show s.n = n from hn'.out.symm] at this; exact this)
      have b1 := hR.out.sh.2.2
      have hR0 := hR
      go_wp2_with fail
      clear b1
      go_loopw [35] (fun iv wr => ∃ k : Nat, k ≤ m ∧ iv = .int .i64 k ∧ ∃ sp, Hid (SpanOk s sp) ∧ Hid (Sp w wr (.int .i64 s.P) (.slice ja n jc) (.slice oa m oc) (.slice (some ⟨g, 0, none⟩) n c) sp)) (fun iv _ => m - (intOf iv).toNat)
      case atStart => exact ⟨0, Nat.zero_le _, rfl, _, hSpK, hR0⟩
      case round =>
        clear hSpK hR hR0
        obtain ⟨k, hk, rfl, sp, hso, hR⟩ := hrel
        clear wo
        obtain ⟨wo, rfl⟩ : ∃ wo : World, wo = wr := ⟨_, rfl⟩
        by_cases hkm : k < m
        · have hkm' : (k : Int) < (m : Int) := by omega
          have hkm2 := Lib.hid hkm
          obtain ⟨og, rfl, hog, o0, o1⟩ := horw.out k hkm
          obtain ⟨ho1, ho2⟩ := hord.out k hkm
          rw [osI_get] at o0 o1
          obtain ⟨⟨p, q⟩, hpq⟩ : ∃ y, y = s.os.getD k (0, 0) := ⟨_, rfl⟩
          rw [← hpq] at o0 o1 ho1 ho2
          simp only at o0 o1 ho1 ho2
          obtain ⟨jg, rfl, hjg, p0, p1, p2, p3⟩ := hrow.out p ho1
          obtain ⟨jg2, eq2, -, u0, u1, u2, u3⟩ := hrow.out q ho2
          obtain rfl : jg = jg2 := by injection eq2 with eq2; injection eq2
          have hJ1 := hjobs.out p ho1
          have hJ2 := hjobs.out q ho2
          rw [show s.js.getD p J0 = s.job p from rfl] at p0 p1 p2 p3
          rw [show s.js.getD q J0 = s.job q from rfl] at u0 u1 u2 u3
          obtain ⟨⟨f1, t1, l1, v1⟩, hj1⟩ : ∃ y, y = s.job p := ⟨_, rfl⟩
          obtain ⟨⟨f2, t2, l2, v2⟩, hj2⟩ : ∃ y, y = s.job q := ⟨_, rfl⟩
          rw [← hj1] at hJ1 p0 p1 p2 p3
          rw [← hj2] at hJ2 u0 u1 u2 u3
          simp only at hJ1 hJ2 p0 p1 p2 p3 u0 u1 u2 u3
          have x0 := (hR.out.low.cell (p := ⟨og, k * 2, none⟩) hog).trans o0
          have x1 := (hR.out.low.cell (p := ⟨og, k * 2 + 1, none⟩) hog).trans o1
          have e38 := Lib.hid (show ∀ W, Calls Try.prog 38 #[.agg #[.int .i64 f2, .int .i64 t2, .int .i64 l2, .int .i64 v2]] W fun e w' => e = .returned (.int .i64 (t2 - l2)) ∧ Below W.heap.size W w' from fun W => latest38 ⟨f2, t2, l2, v2⟩ (by simp only; omega))
          have s1 : IntKind.i64.wrap (f1 + l1) = f1 + l1 := IntWalk.i64_in _ (by omega)
          have s2 : IntKind.i64.wrap (t2 - l2 - l1) = t2 - l2 - l1 := IntWalk.i64_in _ (by omega)
          have s3 : IntKind.i64.wrap ((k : Int) + 1) = (k : Int) + 1 := IntWalk.i64_in _ (by omega)
          have ho1' : (p : Int) < (n : Int) := by omega
          have ho2' : (q : Int) < (n : Int) := by omega
          have hpn := Lib.hid (show p < s.n by rw [show s.n = n from hn'.out.symm]; exact ho1)
          have hqn := Lib.hid (show q < s.n by rw [show s.n = n from hn'.out.symm]; exact ho2)
          obtain ⟨X3, hX3⟩ : ∃ X3, X3 = wo.alloc (.cells #[.int .i64 (p : Int), .int .i64 (q : Int)] 78) := ⟨_, rfl⟩
          have hbX : Below wo.heap.size wo X3 := by rw [hX3]; exact below_alloc1 _ _
          have hR3 := Lib.hid (hR.out.keep hbX)
          have k0 : X3.cell? ⟨wo.heap.size, 0, none⟩ = some (.int .i64 (p : Int)) := by rw [hX3]; simp
          have k1 : X3.cell? ⟨wo.heap.size, 1, none⟩ = some (.int .i64 (q : Int)) := by rw [hX3]; simp
          have P0 := (hR3.out.low.cell (p := ⟨jg, p * 4, none⟩) hjg).trans p0
          have P1 := (hR3.out.low.cell (p := ⟨jg, p * 4 + 1, none⟩) hjg).trans p1
          have P2 := (hR3.out.low.cell (p := ⟨jg, p * 4 + 2, none⟩) hjg).trans p2
          have P3 := (hR3.out.low.cell (p := ⟨jg, p * 4 + 3, none⟩) hjg).trans p3
          have Q0 := (hR3.out.low.cell (p := ⟨jg, q * 4, none⟩) hjg).trans u0
          have Q1 := (hR3.out.low.cell (p := ⟨jg, q * 4 + 1, none⟩) hjg).trans u1
          have Q2 := (hR3.out.low.cell (p := ⟨jg, q * 4 + 2, none⟩) hjg).trans u2
          have Q3 := (hR3.out.low.cell (p := ⟨jg, q * 4 + 3, none⟩) hjg).trans u3
          have U1 := hR3.out.sh.2.1
          have hBj := Lib.hid (show jg < X3.heap.size from cell_in P0)
          have hB7 := Lib.hid (show wo.heap.size < X3.heap.size from cell_in k0)
          have hB0 := Lib.hid (show w.heap.size < X3.heap.size from cell_in U1)
          have hK0 := Lib.hid (And.intro k0 k1)
          have hJ1' := Lib.hid hJ1
          have hJ2' := Lib.hid hJ2
          have hR0' := Lib.hid hR.out
          clear p0 p1 p2 p3 u0 u1 u2 u3 o0 o1 hog hjg hj1 hj2 hpq hbX eq2 hR ho1 ho2
          go_upto_region 10 with fail
          rw [← hX3]
          clear hX3 x0 x1
          go_cut [8, 9] from 39 to 50 (fun av bv wx => ∃ (A B : Nat) (V : World), V = wx ∧ av = .pointer (some ⟨A, 0, none⟩) ∧ bv = .pointer (some ⟨B, 0, none⟩) ∧ Hid (X3.heap.size ≤ A ∧ X3.heap.size ≤ B ∧ Below X3.heap.size X3 V ∧
            (∀ k, k < 4 → V.cell? ⟨A, k, none⟩ = [.int .i64 f1, .int .i64 t1, .int .i64 l1, .int .i64 v1][k]?) ∧ (∀ k, k < 4 → V.cell? ⟨B, k, none⟩ = [.int .i64 f2, .int .i64 t2, .int .i64 l2, .int .i64 v2][k]?)))
          case first =>
            as_aux_lemma =>
            obtain ⟨z3, hz3⟩ : ∃ z3, z3 = X3.heap.size := ⟨_, rfl⟩
            have hz3' := Lib.hid hz3
            rw [← hz3] at hBj hB7 hB0
            clear hz3
            refine wp_region_noPanic ?_
            refine wp_region_any (by kernel_rfl) (wpAny_of_held (S := fun w' => Below z3 X3 w') _ _ _ _ ?_)
            have hHeld : Below z3 X3 X3.drew := (Below.refl _ _).drew
            change wpAnyH _ _ _ _ _ _ _ _ X3.drew
            simp only [List.size_toArray, List.length_cons, List.length_nil, Nat.reduceAdd, Array.replicate_succ, Array.replicate_zero, List.push_toArray, List.nil_append, List.cons_append]
            refine wpAnyH_take (i := 0) (v := .pointer (some ⟨w.heap.size, 1, none⟩)) rfl (by as_aux_lemma => kernel_rfl) (by as_aux_lemma => kernel_rfl) (by as_aux_lemma => kernel_rfl) (fun _ _ _ h => h) (Or.inl ⟨by rfl, ?_⟩) hHeld ?_
            · intro w' hSw; go_simp
            simp only [Act.put, List.setIfInBounds_toArray, List.set_cons_zero, List.set_cons_succ, List.getElem_toArray, List.getElem_cons_zero]
            refine wpAnyH_take (i := 1) (v := .slice (some ⟨jg, 0, none⟩) n jc) rfl (by as_aux_lemma => kernel_rfl) (by as_aux_lemma => kernel_rfl) (by as_aux_lemma => kernel_rfl) (fun _ _ _ h => h) (Or.inl ⟨by rfl, ?_⟩) hHeld ?_
            · intro w' hSw; have cU1 := (hSw.cell (p := ⟨w.heap.size, 1, none⟩) hB0.out).trans U1; go_simp
            simp only [Act.put, List.setIfInBounds_toArray, List.set_cons_zero, List.set_cons_succ, List.getElem_toArray, List.getElem_cons_succ, List.getElem_cons_zero]
            refine wpAnyH_take (i := 2) (v := .pointer (some ⟨wo.heap.size, 0, none⟩)) rfl (by as_aux_lemma => kernel_rfl) (by as_aux_lemma => kernel_rfl) (by as_aux_lemma => kernel_rfl) (fun _ _ _ h => h) (Or.inl ⟨by rfl, ?_⟩) hHeld ?_
            · intro w' hSw; go_simp
            simp only [Act.put, List.setIfInBounds_toArray, List.set_cons_zero, List.set_cons_succ, List.getElem_toArray, List.getElem_cons_succ, List.getElem_cons_zero]
            refine wpAnyH_take (i := 3) (v := .int .i64 p) rfl (by as_aux_lemma => kernel_rfl) (by as_aux_lemma => kernel_rfl) (by as_aux_lemma => kernel_rfl) (fun _ _ _ h => h) (Or.inl ⟨by rfl, ?_⟩) hHeld ?_
            · intro w' hSw; have ck0 := (hSw.cell (p := ⟨wo.heap.size, 0, none⟩) hB7.out).trans k0; go_simp
            simp only [Act.put, List.setIfInBounds_toArray, List.set_cons_zero, List.set_cons_succ, List.getElem_toArray, List.getElem_cons_succ, List.getElem_cons_zero]
            refine wpAnyH_take (i := 4) (v := .pointer (some ⟨jg, p * 4, none⟩)) rfl (by as_aux_lemma => kernel_rfl) (by as_aux_lemma => kernel_rfl) (by as_aux_lemma => kernel_rfl) (fun _ _ _ h => h) (Or.inl ⟨by rfl, ?_⟩) hHeld ?_
            · intro w' hSw; go_simp
            simp only [Act.put, List.setIfInBounds_toArray, List.set_cons_zero, List.set_cons_succ, List.getElem_toArray, List.getElem_cons_succ, List.getElem_cons_zero]
            refine wpAnyH_take (i := 5) (v := .agg #[.int .i64 f1, .int .i64 t1, .int .i64 l1, .int .i64 v1]) rfl (by as_aux_lemma => kernel_rfl) (by as_aux_lemma => kernel_rfl) (by as_aux_lemma => kernel_rfl) (fun _ _ _ h => h) (Or.inl ⟨by rfl, ?_⟩) hHeld ?_
            · intro w' hSw; have cP0 := (hSw.cell (p := ⟨jg, p * 4, none⟩) hBj.out).trans P0; have cP1 := (hSw.cell (p := ⟨jg, p * 4 + 1, none⟩) hBj.out).trans P1; have cP2 := (hSw.cell (p := ⟨jg, p * 4 + 2, none⟩) hBj.out).trans P2; have cP3 := (hSw.cell (p := ⟨jg, p * 4 + 3, none⟩) hBj.out).trans P3; go_simp
            simp only [Act.put, List.setIfInBounds_toArray, List.set_cons_zero, List.set_cons_succ, List.getElem_toArray, List.getElem_cons_succ, List.getElem_cons_zero]
            refine wpAnyH_take (i := 6) (v := .pointer (some ⟨w.heap.size, 1, none⟩)) rfl (by as_aux_lemma => kernel_rfl) (by as_aux_lemma => kernel_rfl) (by as_aux_lemma => kernel_rfl) (fun _ _ _ h => h) (Or.inl ⟨by rfl, ?_⟩) hHeld ?_
            · intro w' hSw; go_simp
            simp only [Act.put, List.setIfInBounds_toArray, List.set_cons_zero, List.set_cons_succ, List.getElem_toArray, List.getElem_cons_succ, List.getElem_cons_zero]
            refine wpAnyH_take (i := 7) (v := .slice (some ⟨jg, 0, none⟩) n jc) rfl (by as_aux_lemma => kernel_rfl) (by as_aux_lemma => kernel_rfl) (by as_aux_lemma => kernel_rfl) (fun _ _ _ h => h) (Or.inl ⟨by rfl, ?_⟩) hHeld ?_
            · intro w' hSw; have cU1 := (hSw.cell (p := ⟨w.heap.size, 1, none⟩) hB0.out).trans U1; go_simp
            simp only [Act.put, List.setIfInBounds_toArray, List.set_cons_zero, List.set_cons_succ, List.getElem_toArray, List.getElem_cons_succ, List.getElem_cons_zero]
            refine wpAnyH_take (i := 8) (v := .pointer (some ⟨wo.heap.size, 1, none⟩)) rfl (by as_aux_lemma => kernel_rfl) (by as_aux_lemma => kernel_rfl) (by as_aux_lemma => kernel_rfl) (fun _ _ _ h => h) (Or.inl ⟨by rfl, ?_⟩) hHeld ?_
            · intro w' hSw; go_simp
            simp only [Act.put, List.setIfInBounds_toArray, List.set_cons_zero, List.set_cons_succ, List.getElem_toArray, List.getElem_cons_succ, List.getElem_cons_zero]
            refine wpAnyH_take (i := 9) (v := .int .i64 q) rfl (by as_aux_lemma => kernel_rfl) (by as_aux_lemma => kernel_rfl) (by as_aux_lemma => kernel_rfl) (fun _ _ _ h => h) (Or.inl ⟨by rfl, ?_⟩) hHeld ?_
            · intro w' hSw; have ck1 := (hSw.cell (p := ⟨wo.heap.size, 1, none⟩) hB7.out).trans k1; go_simp
            simp only [Act.put, List.setIfInBounds_toArray, List.set_cons_zero, List.set_cons_succ, List.getElem_toArray, List.getElem_cons_succ, List.getElem_cons_zero]
            refine wpAnyH_take (i := 10) (v := .pointer (some ⟨jg, q * 4, none⟩)) rfl (by as_aux_lemma => kernel_rfl) (by as_aux_lemma => kernel_rfl) (by as_aux_lemma => kernel_rfl) (fun _ _ _ h => h) (Or.inl ⟨by rfl, ?_⟩) hHeld ?_
            · intro w' hSw; go_simp
            simp only [Act.put, List.setIfInBounds_toArray, List.set_cons_zero, List.set_cons_succ, List.getElem_toArray, List.getElem_cons_succ, List.getElem_cons_zero]
            refine wpAnyH_take (i := 11) (v := .agg #[.int .i64 f2, .int .i64 t2, .int .i64 l2, .int .i64 v2]) rfl (by as_aux_lemma => kernel_rfl) (by as_aux_lemma => kernel_rfl) (by as_aux_lemma => kernel_rfl) (fun _ _ _ h => h) (Or.inl ⟨by rfl, ?_⟩) hHeld ?_
            · intro w' hSw; have cQ0 := (hSw.cell (p := ⟨jg, q * 4, none⟩) hBj.out).trans Q0; have cQ1 := (hSw.cell (p := ⟨jg, q * 4 + 1, none⟩) hBj.out).trans Q1; have cQ2 := (hSw.cell (p := ⟨jg, q * 4 + 2, none⟩) hBj.out).trans Q2; have cQ3 := (hSw.cell (p := ⟨jg, q * 4 + 3, none⟩) hBj.out).trans Q3; go_simp
            simp only [Act.put, List.setIfInBounds_toArray, List.set_cons_zero, List.set_cons_succ, List.getElem_toArray, List.getElem_cons_succ, List.getElem_cons_zero]
            clear P0 P1 P2 P3 Q0 Q1 Q2 Q3 U1 k0 k1
            refine wpAnyH_ready (rs := [12, 13]) (by as_aux_lemma => kernel_rfl) (by simp) ?_
            refine AllReadyH.cons rfl (fun K hK => ?_) (AllReadyH.cons rfl (fun K hK => ?_) AllReadyH.nil)
            · go_simp
              refine hK.out _ _ (hHeld.alloc (Nat.le_of_eq hz3'.out) _) (fun hHeld => ?_)
              clear hK K
              simp only [List.setIfInBounds_toArray, List.set_cons_zero, List.set_cons_succ]
              refine wpAnyH_ready (rs := [13]) (by as_aux_lemma => kernel_rfl) (by simp) ?_
              refine AllReadyH.cons rfl (fun K hK => ?_) AllReadyH.nil
              go_simp
              refine hK.out _ _ (hHeld.alloc (by have := hz3'.out; simp; omega) _) (fun hHeld => ?_)
              clear hK K hHeld
              simp only [List.setIfInBounds_toArray, List.set_cons_zero, List.set_cons_succ]
              obtain ⟨V, hV⟩ : ∃ V, V = ((X3.alloc (.cells #[.int .i64 0, .int .i64 0, .int .i64 0, .int .i64 0] 56)).alloc (.cells #[.int .i64 0, .int .i64 0, .int .i64 0, .int .i64 0] 56)).drew := ⟨_, rfl⟩
              obtain ⟨xA, xB, fA, fB, hHeld⟩ := two_new X3 V hV
              rw [← hz3'.out] at hHeld
              rw [← hV]
              obtain ⟨Bb, hBb⟩ : ∃ Bb, Bb = X3.heap.size + 1 := ⟨_, rfl⟩
              rw [← hBb] at xB fB ⊢
              obtain ⟨Ab, hAb⟩ : ∃ Ab, Ab = X3.heap.size := ⟨_, rfl⟩
              rw [← hAb] at xA fA ⊢
              have hAB : Ab ≠ Bb := by omega
              have hA3 : z3 ≤ Ab := by have := hz3'.out; omega
              have hB3 : z3 ≤ Bb := by have := hz3'.out; omega
              obtain ⟨y1, y2, y3⟩ := two_set hAB xA xB (.int .i64 f1) (.int .i64 t1) (.int .i64 l1) (.int .i64 v1) (.int .i64 f2) (.int .i64 t2) (.int .i64 l2) (.int .i64 v2)
              have a0 := xA 0 (by omega)
              have g0 := fA 0
              have a1 := xA 1 (by omega)
              have g1 := fA 1
              have a2 := xA 2 (by omega)
              have g2 := fA 2
              have a3 := xA 3 (by omega)
              have g3 := fA 3
              refine wpAnyH_ready (rs := [14]) (by as_aux_lemma => kernel_rfl) (by simp) ?_
              refine AllReadyH.cons rfl (fun K hK => ?_) AllReadyH.nil
              have hH2 := Lib.hid (below_setC (g := Ab) hA3 [.int .i64 f1, .int .i64 t1, .int .i64 l1, .int .i64 v1] 0 V hHeld)
              have hH3 := Lib.hid (below_setC (g := Bb) hB3 [.int .i64 f2, .int .i64 t2, .int .i64 l2, .int .i64 v2] 0 _ hH2.out)
              have y1' := Lib.hid y1
              have y2' := Lib.hid y2
              have y3' := Lib.hid y3
              have fz := Lib.hid fB
              have hle := Lib.hid (And.intro hA3 hB3)
              clear y1 y2 y3 hV xA xB fA fB hHeld hAb hBb hA3 hB3 hAB
              go_simp
              refine hK.out _ _ hH2.out (fun hHeld => ?_)
              clear hK K a0 a1 a2 a3 g0 g1 g2 g3
              simp only [List.setIfInBounds_toArray, List.set_cons_zero, List.set_cons_succ]
              obtain ⟨V1, hV1⟩ : ∃ V1, V1 = ((((V.setCell ⟨Ab, 0, none⟩ (.int .i64 f1)).setCell ⟨Ab, 1, none⟩ (.int .i64 t1)).setCell ⟨Ab, 2, none⟩ (.int .i64 l1)).setCell ⟨Ab, 3, none⟩ (.int .i64 v1)) := ⟨_, rfl⟩
              rw [← hV1] at hHeld ⊢
              have a0 : V1.cell? ⟨Bb, 0, none⟩ = some (.int .i64 0) := by rw [hV1]; exact y1'.out 0 (by omega)
              have g0 : V1.frozen? ⟨Bb, 0, none⟩ = false := by rw [hV1]; simp only [World.frozen?_setCell]; exact fz.out 0
              have a1 : V1.cell? ⟨Bb, 1, none⟩ = some (.int .i64 0) := by rw [hV1]; exact y1'.out 1 (by omega)
              have g1 : V1.frozen? ⟨Bb, 1, none⟩ = false := by rw [hV1]; simp only [World.frozen?_setCell]; exact fz.out 1
              have a2 : V1.cell? ⟨Bb, 2, none⟩ = some (.int .i64 0) := by rw [hV1]; exact y1'.out 2 (by omega)
              have g2 : V1.frozen? ⟨Bb, 2, none⟩ = false := by rw [hV1]; simp only [World.frozen?_setCell]; exact fz.out 2
              have a3 : V1.cell? ⟨Bb, 3, none⟩ = some (.int .i64 0) := by rw [hV1]; exact y1'.out 3 (by omega)
              have g3 : V1.frozen? ⟨Bb, 3, none⟩ = false := by rw [hV1]; simp only [World.frozen?_setCell]; exact fz.out 3
              refine wpAnyH_ready (rs := [15]) (by as_aux_lemma => kernel_rfl) (by simp) ?_
              refine AllReadyH.cons rfl (fun K hK => ?_) AllReadyH.nil
              have hV1' := Lib.hid hV1
              clear hV1 hHeld
              go_simp
              refine hK.out _ _ (by rw [hV1'.out]; exact hH3.out) (fun hHeld => ?_)
              clear hK K a0 a1 a2 a3 g0 g1 g2 g3
              simp only [List.setIfInBounds_toArray, List.set_cons_zero, List.set_cons_succ]
              obtain ⟨V2, hV2⟩ : ∃ V2, V2 = ((((V1.setCell ⟨Bb, 0, none⟩ (.int .i64 f2)).setCell ⟨Bb, 1, none⟩ (.int .i64 t2)).setCell ⟨Bb, 2, none⟩ (.int .i64 l2)).setCell ⟨Bb, 3, none⟩ (.int .i64 v2)) := ⟨_, rfl⟩
              rw [← hV2] at hHeld ⊢
              have hfin := Lib.hid (show X3.heap.size ≤ Ab ∧ X3.heap.size ≤ Bb ∧ Below X3.heap.size X3 V2 ∧ (∀ k, k < 4 → V2.cell? ⟨Ab, k, none⟩ = [.int .i64 f1, .int .i64 t1, .int .i64 l1, .int .i64 v1][k]?) ∧ (∀ k, k < 4 → V2.cell? ⟨Bb, k, none⟩ = [.int .i64 f2, .int .i64 t2, .int .i64 l2, .int .i64 v2][k]?) from ⟨by rw [← hz3'.out]; exact hle.out.1, by rw [← hz3'.out]; exact hle.out.2, by rw [← hz3'.out]; exact hHeld, fun k hk => by rw [hV2, hV1'.out]; exact y2'.out k hk, fun k hk => by rw [hV2, hV1'.out]; exact y3'.out k hk⟩)
              clear hV2 hHeld
              refine wpAnyH_done (by kernel_rfl) ?_ _
              refine NoPanic.normal ?_
              go_wp2_with fail
              go_meet
              exact ⟨_, _, _, rfl, rfl, rfl, hfin⟩
            · go_simp
              refine hK.out _ _ (hHeld.alloc (Nat.le_of_eq hz3'.out) _) (fun hHeld => ?_)
              clear hK K
              simp only [List.setIfInBounds_toArray, List.set_cons_zero, List.set_cons_succ]
              refine wpAnyH_ready (rs := [12]) (by as_aux_lemma => kernel_rfl) (by simp) ?_
              refine AllReadyH.cons rfl (fun K hK => ?_) AllReadyH.nil
              go_simp
              refine hK.out _ _ (hHeld.alloc (by have := hz3'.out; simp; omega) _) (fun hHeld => ?_)
              clear hK K hHeld
              simp only [List.setIfInBounds_toArray, List.set_cons_zero, List.set_cons_succ]
              obtain ⟨V, hV⟩ : ∃ V, V = ((X3.alloc (.cells #[.int .i64 0, .int .i64 0, .int .i64 0, .int .i64 0] 56)).alloc (.cells #[.int .i64 0, .int .i64 0, .int .i64 0, .int .i64 0] 56)).drew := ⟨_, rfl⟩
              obtain ⟨xA, xB, fA, fB, hHeld⟩ := two_new X3 V hV
              rw [← hz3'.out] at hHeld
              rw [← hV]
              obtain ⟨Bb, hBb⟩ : ∃ Bb, Bb = X3.heap.size + 1 := ⟨_, rfl⟩
              rw [← hBb] at xB fB ⊢
              obtain ⟨Ab, hAb⟩ : ∃ Ab, Ab = X3.heap.size := ⟨_, rfl⟩
              rw [← hAb] at xA fA ⊢
              have hAB : Ab ≠ Bb := by omega
              have hA3 : z3 ≤ Ab := by have := hz3'.out; omega
              have hB3 : z3 ≤ Bb := by have := hz3'.out; omega
              obtain ⟨y1, y2, y3⟩ := two_set hAB.symm xB xA (.int .i64 f1) (.int .i64 t1) (.int .i64 l1) (.int .i64 v1) (.int .i64 f2) (.int .i64 t2) (.int .i64 l2) (.int .i64 v2)
              have a0 := xB 0 (by omega)
              have g0 := fB 0
              have a1 := xB 1 (by omega)
              have g1 := fB 1
              have a2 := xB 2 (by omega)
              have g2 := fB 2
              have a3 := xB 3 (by omega)
              have g3 := fB 3
              refine wpAnyH_ready (rs := [14]) (by as_aux_lemma => kernel_rfl) (by simp) ?_
              refine AllReadyH.cons rfl (fun K hK => ?_) AllReadyH.nil
              have hH2 := Lib.hid (below_setC (g := Bb) hB3 [.int .i64 f1, .int .i64 t1, .int .i64 l1, .int .i64 v1] 0 V hHeld)
              have hH3 := Lib.hid (below_setC (g := Ab) hA3 [.int .i64 f2, .int .i64 t2, .int .i64 l2, .int .i64 v2] 0 _ hH2.out)
              have y1' := Lib.hid y1
              have y2' := Lib.hid y2
              have y3' := Lib.hid y3
              have fz := Lib.hid fA
              have hle := Lib.hid (And.intro hB3 hA3)
              clear y1 y2 y3 hV xA xB fA fB hHeld hAb hBb hA3 hB3 hAB
              go_simp
              refine hK.out _ _ hH2.out (fun hHeld => ?_)
              clear hK K a0 a1 a2 a3 g0 g1 g2 g3
              simp only [List.setIfInBounds_toArray, List.set_cons_zero, List.set_cons_succ]
              obtain ⟨V1, hV1⟩ : ∃ V1, V1 = ((((V.setCell ⟨Bb, 0, none⟩ (.int .i64 f1)).setCell ⟨Bb, 1, none⟩ (.int .i64 t1)).setCell ⟨Bb, 2, none⟩ (.int .i64 l1)).setCell ⟨Bb, 3, none⟩ (.int .i64 v1)) := ⟨_, rfl⟩
              rw [← hV1] at hHeld ⊢
              have a0 : V1.cell? ⟨Ab, 0, none⟩ = some (.int .i64 0) := by rw [hV1]; exact y1'.out 0 (by omega)
              have g0 : V1.frozen? ⟨Ab, 0, none⟩ = false := by rw [hV1]; simp only [World.frozen?_setCell]; exact fz.out 0
              have a1 : V1.cell? ⟨Ab, 1, none⟩ = some (.int .i64 0) := by rw [hV1]; exact y1'.out 1 (by omega)
              have g1 : V1.frozen? ⟨Ab, 1, none⟩ = false := by rw [hV1]; simp only [World.frozen?_setCell]; exact fz.out 1
              have a2 : V1.cell? ⟨Ab, 2, none⟩ = some (.int .i64 0) := by rw [hV1]; exact y1'.out 2 (by omega)
              have g2 : V1.frozen? ⟨Ab, 2, none⟩ = false := by rw [hV1]; simp only [World.frozen?_setCell]; exact fz.out 2
              have a3 : V1.cell? ⟨Ab, 3, none⟩ = some (.int .i64 0) := by rw [hV1]; exact y1'.out 3 (by omega)
              have g3 : V1.frozen? ⟨Ab, 3, none⟩ = false := by rw [hV1]; simp only [World.frozen?_setCell]; exact fz.out 3
              refine wpAnyH_ready (rs := [15]) (by as_aux_lemma => kernel_rfl) (by simp) ?_
              refine AllReadyH.cons rfl (fun K hK => ?_) AllReadyH.nil
              have hV1' := Lib.hid hV1
              clear hV1 hHeld
              go_simp
              refine hK.out _ _ (by rw [hV1'.out]; exact hH3.out) (fun hHeld => ?_)
              clear hK K a0 a1 a2 a3 g0 g1 g2 g3
              simp only [List.setIfInBounds_toArray, List.set_cons_zero, List.set_cons_succ]
              obtain ⟨V2, hV2⟩ : ∃ V2, V2 = ((((V1.setCell ⟨Ab, 0, none⟩ (.int .i64 f2)).setCell ⟨Ab, 1, none⟩ (.int .i64 t2)).setCell ⟨Ab, 2, none⟩ (.int .i64 l2)).setCell ⟨Ab, 3, none⟩ (.int .i64 v2)) := ⟨_, rfl⟩
              rw [← hV2] at hHeld ⊢
              have hfin := Lib.hid (show X3.heap.size ≤ Bb ∧ X3.heap.size ≤ Ab ∧ Below X3.heap.size X3 V2 ∧ (∀ k, k < 4 → V2.cell? ⟨Bb, k, none⟩ = [.int .i64 f1, .int .i64 t1, .int .i64 l1, .int .i64 v1][k]?) ∧ (∀ k, k < 4 → V2.cell? ⟨Ab, k, none⟩ = [.int .i64 f2, .int .i64 t2, .int .i64 l2, .int .i64 v2][k]?) from ⟨by rw [← hz3'.out]; exact hle.out.1, by rw [← hz3'.out]; exact hle.out.2, by rw [← hz3'.out]; exact hHeld, fun k hk => by rw [hV2, hV1'.out]; exact y2'.out k hk, fun k hk => by rw [hV2, hV1'.out]; exact y3'.out k hk⟩)
              clear hV2 hHeld
              refine wpAnyH_done (by kernel_rfl) ?_ _
              refine NoPanic.normal ?_
              go_wp2_with fail
              go_meet
              exact ⟨_, _, _, rfl, rfl, rfl, hfin⟩
          case rest =>
            clear P0 P1 P2 P3 Q0 Q1 Q2 Q3 U1 k0 k1
            obtain ⟨A, B, V, rfl, rfl, rfl, hF⟩ := hcut
            obtain ⟨hA, hB, hbV, cA, cB⟩ := hF.out
            have hRV := Lib.hid (hR3.out.keep hbV)
            have a0 : V.cell? ⟨A, 0, none⟩ = some (.int .i64 f1) := cA 0 (by omega)
            have a2 : V.cell? ⟨A, 2, none⟩ = some (.int .i64 l1) := cA 2 (by omega)
            have m1 := (hbV.cell (p := ⟨wo.heap.size, 1, none⟩) hB7.out).trans hK0.out.2
            have m0 := (hbV.cell (p := ⟨wo.heap.size, 0, none⟩) hB7.out).trans hK0.out.1
            have d0 : V.cell? ⟨B, 0, none⟩ = some (.int .i64 f2) := cB 0 (by omega)
            have d1 : V.cell? ⟨B, 1, none⟩ = some (.int .i64 t2) := cB 1 (by omega)
            have d2 : V.cell? ⟨B, 2, none⟩ = some (.int .i64 l2) := cB 2 (by omega)
            have d3 : V.cell? ⟨B, 3, none⟩ = some (.int .i64 v2) := cB 3 (by omega)
            have hkeep := Lib.hid (And.intro a2 (And.intro m0 (And.intro d0 (And.intro d1 (And.intro d2 d3)))))
            have hgl : w.heap.size + 2 ≤ g ∧ g < wo.heap.size := World.ownsRow.lt hR0'.out.own g rfl
            have hspl := hso.out.1
            have hpp := OwnS.parts hRV.out.own (i := q) (by rw [hspl]; exact hqn.out)
            have hgfz := hpp.1
            have hgc := hpp.2.1
            have hgst := Lib.hid hpp.2.2.2.1
            have hgl' := Lib.hid hgl
            have hAB := Lib.hid (And.intro hA hB)
            have b3 := hRV.out.bx.1
            clear cA cB hA hB hF hbV d0 d1 d2 d3 m0 hpp hspl hgl
            have hcb := Lib.hid (before78 (w := V.drew) (g := g) (k := q * 2) (t := f1 + l1) (show V.drew.cell? ⟨g, q * 2, none⟩ = _ from hgc) (show V.drew.frozen? ⟨g, q * 2, none⟩ = false from hgfz (q * 2)))
            clear hgc hgfz
            go_upto_region 11 with fail
            refine wp_region_still_tail 9 (by kernel_rfl) (by kernel_rfl) ?_
            simp only [List.take_succ_cons, List.take_zero, List.drop_succ_cons, List.drop_zero]
            iterate 9 still_step
            refine wpStill_nil ?_
            clear a0 a2 m1 b3
            go_wp2_with (go_at_call 78; refine (hcb.out).mono ?_; rintro e V4 ⟨rfl, hV4⟩; have hV4' := Lib.hid hV4; clear hV4)
            clear hcb
            have hR4 := Lib.hid (show Sp w V4 (.int .i64 s.P) (.slice (some ⟨jg, 0, none⟩) n jc) (.slice (some ⟨og, 0, none⟩) m oc) (.slice (some ⟨g, 0, none⟩) n c) (sp.set q (max (sp.getD q (0, 0)).1 (f1 + l1), (sp.getD q (0, 0)).2)) from by
              rw [hV4'.out]
              exact Sp.row (hRV.out.keep (Below.refl V.heap.size V).drew) hgl'.out.1 (hgst.out _))
            have hso4 := Lib.hid (span_first hso.out hqn.out (t := f1 + l1) (by have := hJ1'.out; omega))
            have hK4 : Kq g V V4 := by rw [hV4'.out]; exact (Kq.of_below (Below.refl V.heap.size V).drew).trans (Kq.set g _ _ _)
            have hgA : A ≠ g ∧ B ≠ g ∧ wo.heap.size ≠ g ∧ w.heap.size + 1 ≠ g := by have := hAB.out; have := hgl'.out; have := hB7.out; omega
            have l2' := (hK4.cell (k := 2) (cell_in hkeep.out.1) hgA.1).trans hkeep.out.1
            have m0 := (hK4.cell (k := 0) (cell_in hkeep.out.2.1) hgA.2.2.1).trans hkeep.out.2.1
            have d0 := (hK4.cell (k := 0) (cell_in hkeep.out.2.2.1) hgA.2.1).trans hkeep.out.2.2.1
            have d1 := (hK4.cell (k := 1) (cell_in hkeep.out.2.2.1) hgA.2.1).trans hkeep.out.2.2.2.1
            have d2 := (hK4.cell (k := 2) (cell_in hkeep.out.2.2.1) hgA.2.1).trans hkeep.out.2.2.2.2.1
            have d3 := (hK4.cell (k := 3) (cell_in hkeep.out.2.2.1) hgA.2.1).trans hkeep.out.2.2.2.2.2
            have b3 := hR4.out.bx.1
            have hgA' := Lib.hid hgA
            obtain ⟨sp1, hsp1⟩ : ∃ sp1, sp1 = sp.set q (max (sp.getD q (0, 0)).1 (f1 + l1), (sp.getD q (0, 0)).2) := ⟨_, rfl⟩
            rw [← hsp1] at hR4 hso4
            clear hK4 hgA hkeep hsp1 hgst hRV hR3 hAB hso hV4' hR0' V sp
            refine wp_region_noPanic ?_
            refine wp_region_any (by kernel_rfl) (wpAny_of_held (S := fun w' => Kq g V4 w') _ _ _ _ ?_)
            have hHeld : Kq g V4 V4.drew := Kq.of_below (Below.refl _ _).drew
            change wpAnyH _ _ _ _ _ _ _ _ V4.drew
            simp only [List.size_toArray, List.length_cons, List.length_nil, Nat.reduceAdd, Array.replicate_succ, Array.replicate_zero, List.push_toArray, List.nil_append, List.cons_append]
            refine wpAnyH_take (i := 0) (v := .slice (some ⟨g, 0, none⟩) n c) rfl (by as_aux_lemma => kernel_rfl) (by as_aux_lemma => kernel_rfl) (by as_aux_lemma => kernel_rfl) (fun _ _ _ h => h) (Or.inl ⟨by rfl, ?_⟩) hHeld ?_
            · intro w' hSw; have cb3 := (hSw.cell (cell_in b3) hgA'.out.2.2.2).trans b3; go_simp
            simp only [Act.put, List.setIfInBounds_toArray, List.set_cons_zero, List.set_cons_succ, List.getElem_toArray, List.getElem_cons_zero]
            refine wpAnyH_take (i := 1) (v := .pointer (some ⟨wo.heap.size, 0, none⟩)) rfl (by as_aux_lemma => kernel_rfl) (by as_aux_lemma => kernel_rfl) (by as_aux_lemma => kernel_rfl) (fun _ _ _ h => h) (Or.inl ⟨by rfl, ?_⟩) hHeld ?_
            · intro w' hSw; go_simp
            simp only [Act.put, List.setIfInBounds_toArray, List.set_cons_zero, List.set_cons_succ, List.getElem_toArray, List.getElem_cons_succ, List.getElem_cons_zero]
            refine wpAnyH_take (i := 2) (v := .int .i64 p) rfl (by as_aux_lemma => kernel_rfl) (by as_aux_lemma => kernel_rfl) (by as_aux_lemma => kernel_rfl) (fun _ _ _ h => h) (Or.inl ⟨by rfl, ?_⟩) hHeld ?_
            · intro w' hSw; have cm0 := (hSw.cell (cell_in m0) hgA'.out.2.2.1).trans m0; go_simp
            simp only [Act.put, List.setIfInBounds_toArray, List.set_cons_zero, List.set_cons_succ, List.getElem_toArray, List.getElem_cons_succ, List.getElem_cons_zero]
            refine wpAnyH_take (i := 3) (v := .pointer (some ⟨g, p * 2, none⟩)) rfl (by as_aux_lemma => kernel_rfl) (by as_aux_lemma => kernel_rfl) (by as_aux_lemma => kernel_rfl) (fun _ _ _ h => h) (Or.inl ⟨by rfl, ?_⟩) hHeld ?_
            · intro w' hSw; go_simp
            simp only [Act.put, List.setIfInBounds_toArray, List.set_cons_zero, List.set_cons_succ, List.getElem_toArray, List.getElem_cons_succ, List.getElem_cons_zero]
            refine wpAnyH_take (i := 4) (v := .agg #[.int .i64 f2, .int .i64 t2, .int .i64 l2, .int .i64 v2]) rfl (by as_aux_lemma => kernel_rfl) (by as_aux_lemma => kernel_rfl) (by as_aux_lemma => kernel_rfl) (fun _ _ _ h => h) (Or.inl ⟨by rfl, ?_⟩) hHeld ?_
            · intro w' hSw; have cd0 := (hSw.cell (cell_in d0) hgA'.out.2.1).trans d0; have cd1 := (hSw.cell (cell_in d1) hgA'.out.2.1).trans d1; have cd2 := (hSw.cell (cell_in d2) hgA'.out.2.1).trans d2; have cd3 := (hSw.cell (cell_in d3) hgA'.out.2.1).trans d3; go_simp
            simp only [Act.put, List.setIfInBounds_toArray, List.set_cons_zero, List.set_cons_succ, List.getElem_toArray, List.getElem_cons_succ, List.getElem_cons_zero]
            refine wpAnyH_take (i := 6) (v := .pointer (some ⟨A, 2, none⟩)) rfl (by as_aux_lemma => kernel_rfl) (by as_aux_lemma => kernel_rfl) (by as_aux_lemma => kernel_rfl) (fun _ _ _ h => h) (Or.inl ⟨by rfl, ?_⟩) hHeld ?_
            · intro w' hSw; go_simp
            simp only [Act.put, List.setIfInBounds_toArray, List.set_cons_zero, List.set_cons_succ, List.getElem_toArray, List.getElem_cons_succ, List.getElem_cons_zero]
            refine wpAnyH_take (i := 7) (v := .int .i64 l1) rfl (by as_aux_lemma => kernel_rfl) (by as_aux_lemma => kernel_rfl) (by as_aux_lemma => kernel_rfl) (fun _ _ _ h => h) (Or.inl ⟨by rfl, ?_⟩) hHeld ?_
            · intro w' hSw; have cl2' := (hSw.cell (cell_in l2') hgA'.out.1).trans l2'; go_simp
            simp only [Act.put, List.setIfInBounds_toArray, List.set_cons_zero, List.set_cons_succ, List.getElem_toArray, List.getElem_cons_succ, List.getElem_cons_zero]
            clear b3 m0 d0 d1 d2 d3 l2'
            refine wpAnyH_ready (rs := [5]) (by as_aux_lemma => kernel_rfl) (by simp) ?_
            refine AllReadyH.cons rfl (fun K hK => ?_) AllReadyH.nil
            have hV := Lib.hid (e38.out V4.drew)
            go_simp
            refine hV.out.mono ?_
            rintro e V5 ⟨rfl, hb5⟩
            have hR5 := Lib.hid (hR4.out.keep ((Below.refl V4.heap.size V4).drew.trans hb5))
            have hk5 : Kq g V4 V5 := (Kq.of_below (Below.refl _ _).drew).trans (Kq.of_below hb5)
            refine hK.out _ _ hk5 (fun hHeld => ?_)
            clear hK K hV hb5 hk5
            simp only [List.setIfInBounds_toArray, List.set_cons_zero, List.set_cons_succ]
            refine wpAnyH_take (i := 8) (v := .int .i64 (t2 - l2 - l1)) rfl (by as_aux_lemma => kernel_rfl) (by as_aux_lemma => kernel_rfl) (by as_aux_lemma => kernel_rfl) (fun _ _ _ h => h) (Or.inl ⟨by rfl, ?_⟩) hHeld ?_
            · intro w' hSw; go_simp
            simp only [Act.put, List.setIfInBounds_toArray, List.set_cons_zero, List.set_cons_succ, List.getElem_toArray, List.getElem_cons_succ, List.getElem_cons_zero]
            have hpp := OwnS.parts hR5.out.own (i := p) (by rw [hso4.out.1]; exact hpn.out)
            have hca := Lib.hid (after79 (w := V5) (g := g) (k := p * 2) (t := t2 - l2 - l1) hpp.2.2.1 (hpp.1 _))
            have hst := Lib.hid hpp.2.2.2.2
            clear hpp
            refine wpAnyH_ready (rs := [9]) (by as_aux_lemma => kernel_rfl) (by simp) ?_
            refine AllReadyH.cons rfl (fun K hK => ?_) AllReadyH.nil
            go_simp
            refine hca.out.mono ?_
            rintro e V6 ⟨rfl, hV6⟩
            have hk6 : Kq g V4 V6 := by rw [hV6]; exact hHeld.trans (Kq.set g _ _ _)
            have hR6 := Lib.hid (show Sp w V6 (.int .i64 s.P) (.slice (some ⟨jg, 0, none⟩) n jc) (.slice (some ⟨og, 0, none⟩) m oc) (.slice (some ⟨g, 0, none⟩) n c) (sp1.set p ((sp1.getD p (0, 0)).1, min (sp1.getD p (0, 0)).2 (t2 - l2 - l1))) from by rw [hV6]; exact Sp.row hR5.out hgl'.out.1 (hst.out _))
            have hso6 := Lib.hid (span_last hso4.out hpn.out (t := t2 - l2 - l1) (by have := hJ1'.out; have := hJ2'.out; omega))
            refine hK.out _ _ hk6 (fun hHeld => ?_)
            clear hK K hca hst hV6 hk6 hHeld hR5
            simp only [List.setIfInBounds_toArray, List.set_cons_zero, List.set_cons_succ]
            refine wpAnyH_done (by kernel_rfl) ?_ _
            refine NoPanic.normal ?_
            go_wp2_with fail
            go_roundw
            case rel => exact ⟨k + 1, hkm2.out, by go_num, _, hso6, hR6⟩
            case measure => simp [intOf]; omega
        · have hkm' : ¬ ((k : Int) < (m : Int)) := by omega
          have hkm3 : k = m := by omega
          rw [hkm3] at hkm' ⊢
          clear hkm3 hk hkm
          go_wp2_with fail
          refine (wpIn_wide (n := 6)).1 ?_
          have hsz : w.heap.size + 2 ≤ wo.heap.size := hR.out.sz
          refine wpIn_rangeFunc_ownF rfl (by omega) (gf := 64) (lb := #[]) rfl trivial (enters_of Try.func64 (by kernel_rfl) rfl)
            (intervals64_stops Fence.wide _ trivial rfl (by omega) wo) (fun _ _ => trivial) (fun _ _ _ _ _ _ _ _ => trivial) (Below.refl _ _) (fun _ => rfl)
            (fun pre W => (∃ sp, SpanOk s sp ∧ Sp w W (.int .i64 s.P) (.slice ja n jc) (.slice oa m oc) (.slice (some ⟨g, 0, none⟩) n c) sp) ∧ Below w.heap.size w W)
            (fun c pre W => False)
            ?hI ?hIx ⟨⟨sp, hso.out, hR.out⟩, hR.out.low⟩
            ?a1 ?assign ?body ?done ?stop
          case assign =>
            intro l x W K hK
            gi_wp2
            exact hK
          case hI =>
            intro s0 A C row hs hg hr
            obtain ⟨⟨sp, h1, h2⟩, h3⟩ := hs
            have hl : Below w.heap.size w C := ownFrom_below (Nat.le_refl _) (show w.heap.size ≤ wo.heap.size by omega) s0 A C row h3 hg hr
            exact ⟨⟨sp, h1, h2.kept hg (fun r e => (hr r e).2) hl⟩, hl⟩
          case hIx => intro c s0 A C row hs; exact hs.elim
          case stop =>
            rintro D c pre W hD hp hf hK
            exact hf.elim
          case done =>
            rintro D ys W hD hcov ⟨⟨sp, h1, h2⟩, h3⟩ hK
            have hR2 := Lib.hid h2
            have hso2 := Lib.hid h1
            have b3 := h2.bx.1
            clear h1 h2 h3
            go_wp2_with fail
            refine ⟨by simp, .inl ⟨_, _, rfl, run_takeDeferred hK, ?_⟩⟩
            have hlow := hR2.out.low.trans (belowK_b (w := w) (Nat.le_refl _) W D _ (.deferred none) (by omega) hK rfl rfl)
            have hR3 := hR2.out.kept (grownBy_putObj' W D (.deferred none)) (fun r e => by cases e; exact ⟨_, hK, rfl⟩) hlow
            refine ⟨.slice (some ⟨g, 0, none⟩) n c, ?_, _, sp, rfl, ownS_reads hR3.own, hso2.out, hlow⟩
            simp [results, Try.f77, go_sem]
          case body =>
            rintro rl pre x W ⟨⟨sp, h1, h2⟩, h3⟩ hlt
            have hR := Lib.hid h2
            have hso := Lib.hid h1
            obtain ⟨⟨a, b⟩, hab, hb24⟩ := x
            simp only at hab hb24 ⊢
            clear h1 h2 h3 hlt
            obtain ⟨A, hA⟩ : ∃ A : Int, A = (a : Int) := ⟨_, rfl⟩
            obtain ⟨Bb, hBb⟩ : ∃ B : Int, B = (b : Int) := ⟨_, rfl⟩
            have hAB : 0 ≤ A ∧ A < Bb ∧ Bb ≤ 24 := by omega
            rw [← hA, ← hBb]
            clear hA hBb
            obtain ⟨N, hN⟩ : ∃ N, N = needS s.js A Bb s.js.length := ⟨_, rfl⟩
            have hNb : 0 ≤ N ∧ N ≤ 3360 := by
              have := needS_in (js := s.js) (fun i hi => hs'.out.jobs i hi) (a := A) (b := Bb) (by omega) (Nat.le_refl _)
              rw [← hN, ← hn'.out] at this
              omega
            have hPb := hs'.out.power
            obtain ⟨E, hE⟩ : ∃ E, E = s.P * (Bb - A) := ⟨_, rfl⟩
            have hEb : 0 ≤ E ∧ E ≤ 480 := by
              rw [hE]
              have h1 : s.P * (Bb - A) ≤ 20 * 24 := Int.mul_le_mul (by omega) (by omega) (by omega) (by omega)
              have h2 : 0 ≤ s.P * (Bb - A) := Int.mul_nonneg (by omega) (by omega)
              omega
            have s1 : IntKind.i64.wrap (Bb - A) = Bb - A := IntWalk.i64_in _ (by omega)
            have s2 : IntKind.i64.wrap (s.P * (Bb - A)) = E := by rw [← hE]; exact IntWalk.i64_in _ (by omega)
            have s3 : IntKind.i64.wrap (E - N) = E - N := IntWalk.i64_in _ (by omega)
            have h48 := Lib.hid (fun (V : World) (hb : Below W.heap.size W V) => (needs48 (hsh.out V (below_call hR.out.low hb)) (seven hs'.out) (fun i hi => hs'.out.jobs i hi) (a := A) (b := Bb) (by omega) (by omega) (by omega)).mono (R' := fun e w' => e = .returned (.int .i64 N) ∧ Below V.heap.size V w') (by rintro e w' ⟨he, hb⟩; exact ⟨by rw [he, hN], hb⟩))
            obtain ⟨z0, z1, z2⟩ := hR.out.sh
            have hszW := Lib.hid (show w.heap.size < W.heap.size by have := hR.out.sz; omega)
            clear hN hE
            gi_wp2
            refine inRound_held (fun w' => Below W.heap.size W w') hmx (by kernel_rfl) ?_
            have hHeld : Below W.heap.size W W.drew := (Below.refl _ _).drew
            change wpAnyH _ _ _ _ _ _ _ _ W.drew
            simp only [List.size_toArray, List.length_cons, List.length_nil, Nat.reduceAdd, Array.replicate_succ, Array.replicate_zero, List.push_toArray, List.nil_append, List.cons_append]
            refine wpAnyH_take (i := 0) (v := .pointer (some ⟨w.heap.size, 0, none⟩)) rfl (by as_aux_lemma => kernel_rfl) (by as_aux_lemma => kernel_rfl) (by as_aux_lemma => kernel_rfl) (fun _ _ _ h => h) (Or.inl ⟨by rfl, ?_⟩) hHeld ?_
            · intro w' hSw; go_simp
            simp only [Act.put, List.setIfInBounds_toArray, List.set_cons_zero, List.set_cons_succ, List.getElem_toArray, List.getElem_cons_zero]
            refine wpAnyH_take (i := 1) (v := .int .i64 s.P) rfl (by as_aux_lemma => kernel_rfl) (by as_aux_lemma => kernel_rfl) (by as_aux_lemma => kernel_rfl) (fun _ _ _ h => h) (Or.inl ⟨by rfl, ?_⟩) hHeld ?_
            · intro w' hSw; have c0 := (hSw.cell (p := ⟨w.heap.size, 0, none⟩) hszW.out).trans z0; go_simp
            simp only [Act.put, List.setIfInBounds_toArray, List.set_cons_zero, List.set_cons_succ, List.getElem_toArray, List.getElem_cons_succ, List.getElem_cons_zero]
            refine wpAnyH_take (i := 2) (v := .int .i64 Bb) rfl (by as_aux_lemma => kernel_rfl) (by as_aux_lemma => kernel_rfl) (by as_aux_lemma => kernel_rfl) (fun _ _ _ h => h) (Or.inl ⟨by rfl, ?_⟩) hHeld ?_
            · intro w' hSw; go_simp
            simp only [Act.put, List.setIfInBounds_toArray, List.set_cons_zero, List.set_cons_succ, List.getElem_toArray, List.getElem_cons_succ, List.getElem_cons_zero]
            refine wpAnyH_take (i := 3) (v := .int .i64 A) rfl (by as_aux_lemma => kernel_rfl) (by as_aux_lemma => kernel_rfl) (by as_aux_lemma => kernel_rfl) (fun _ _ _ h => h) (Or.inl ⟨by rfl, ?_⟩) hHeld ?_
            · intro w' hSw; go_simp
            simp only [Act.put, List.setIfInBounds_toArray, List.set_cons_zero, List.set_cons_succ, List.getElem_toArray, List.getElem_cons_succ, List.getElem_cons_zero]
            refine wpAnyH_take (i := 4) (v := .int .i64 (Bb - A)) rfl (by as_aux_lemma => kernel_rfl) (by as_aux_lemma => kernel_rfl) (by as_aux_lemma => kernel_rfl) (fun _ _ _ h => h) (Or.inl ⟨by rfl, ?_⟩) hHeld ?_
            · intro w' hSw; go_simp
            simp only [Act.put, List.setIfInBounds_toArray, List.set_cons_zero, List.set_cons_succ, List.getElem_toArray, List.getElem_cons_succ, List.getElem_cons_zero]
            refine wpAnyH_take (i := 5) (v := .int .i64 E) rfl (by as_aux_lemma => kernel_rfl) (by as_aux_lemma => kernel_rfl) (by as_aux_lemma => kernel_rfl) (fun _ _ _ h => h) (Or.inl ⟨by rfl, ?_⟩) hHeld ?_
            · intro w' hSw; go_simp
            simp only [Act.put, List.setIfInBounds_toArray, List.set_cons_zero, List.set_cons_succ, List.getElem_toArray, List.getElem_cons_succ, List.getElem_cons_zero]
            refine wpAnyH_take (i := 6) (v := .agg #[.int .i64 s.P, .slice ja n jc, .slice oa m oc]) rfl (by as_aux_lemma => kernel_rfl) (by as_aux_lemma => kernel_rfl) (by as_aux_lemma => kernel_rfl) (fun _ _ _ h => h) (Or.inl ⟨by rfl, ?_⟩) hHeld ?_
            · intro w' hSw; have c0 := (hSw.cell (p := ⟨w.heap.size, 0, none⟩) hszW.out).trans z0; have c1 := (hSw.cell (p := ⟨w.heap.size, 1, none⟩) hszW.out).trans z1; have c2 := (hSw.cell (p := ⟨w.heap.size, 2, none⟩) hszW.out).trans z2; go_simp
            simp only [Act.put, List.setIfInBounds_toArray, List.set_cons_zero, List.set_cons_succ, List.getElem_toArray, List.getElem_cons_succ, List.getElem_cons_zero]
            refine wpAnyH_take (i := 7) (v := .int .i64 A) rfl (by as_aux_lemma => kernel_rfl) (by as_aux_lemma => kernel_rfl) (by as_aux_lemma => kernel_rfl) (fun _ _ _ h => h) (Or.inl ⟨by rfl, ?_⟩) hHeld ?_
            · intro w' hSw; go_simp
            simp only [Act.put, List.setIfInBounds_toArray, List.set_cons_zero, List.set_cons_succ, List.getElem_toArray, List.getElem_cons_succ, List.getElem_cons_zero]
            refine wpAnyH_take (i := 8) (v := .int .i64 Bb) rfl (by as_aux_lemma => kernel_rfl) (by as_aux_lemma => kernel_rfl) (by as_aux_lemma => kernel_rfl) (fun _ _ _ h => h) (Or.inl ⟨by rfl, ?_⟩) hHeld ?_
            · intro w' hSw; go_simp
            simp only [Act.put, List.setIfInBounds_toArray, List.set_cons_zero, List.set_cons_succ, List.getElem_toArray, List.getElem_cons_succ, List.getElem_cons_zero]
            clear z0 z1 z2
            refine wpAnyH_ready (rs := [9]) (by as_aux_lemma => kernel_rfl) (by simp) ?_
            refine AllReadyH.cons rfl (fun K hK => ?_) AllReadyH.nil
            have hV := Lib.hid (h48.out W.drew (Below.refl _ _).drew)
            go_simp
            refine hV.out.mono ?_
            rintro e W1 ⟨rfl, hb1⟩
            have hb1' : Below W.heap.size W W1 := (Below.refl W.heap.size W).drew.trans hb1
            refine hK.out _ _ hb1' (fun hHeld => ?_)
            clear hK K hV hb1
            simp only [List.setIfInBounds_toArray, List.set_cons_zero, List.set_cons_succ]
            refine wpAnyH_take (i := 10) (v := .int .i64 (E - N)) rfl (by as_aux_lemma => kernel_rfl) (by as_aux_lemma => kernel_rfl) (by as_aux_lemma => kernel_rfl) (fun _ _ _ h => h) (Or.inl ⟨by rfl, ?_⟩) hHeld ?_
            · intro w' hSw; go_simp
            simp only [Act.put, List.setIfInBounds_toArray, List.set_cons_zero, List.set_cons_succ, List.getElem_toArray, List.getElem_cons_succ, List.getElem_cons_zero]
            refine wpAnyH_take (i := 11) (v := .int .i64 (E - N)) rfl (by as_aux_lemma => kernel_rfl) (by as_aux_lemma => kernel_rfl) (by as_aux_lemma => kernel_rfl) (fun _ _ _ h => h) (Or.inl ⟨by rfl, ?_⟩) hHeld ?_
            · intro w' hSw; go_simp
            simp only [Act.put, List.setIfInBounds_toArray, List.set_cons_zero, List.set_cons_succ, List.getElem_toArray, List.getElem_cons_succ, List.getElem_cons_zero]
            refine wpAnyH_done (by kernel_rfl) ?_ _
            refine Nrm.normal ?_
            have hR1 := Lib.hid (hR.out.keep hb1')
            have hKO := Lib.hid (keepsO_below hb1')
            obtain ⟨sp1, hsp1⟩ : ∃ sp1, sp1 = sp := ⟨_, rfl⟩
            rw [← hsp1] at hR1 hso
            clear hb1' hHeld hR hszW h48 s1 s2 s3 hsp1
            obtain ⟨z0, z1, z2⟩ := hR1.out.sh
            gi_wp2
            gi_loopw [88] (fun qv wr => ∃ i : Nat, i ≤ n ∧ qv = .int .i64 i ∧ ∃ sp', Hid (SpanOk s sp') ∧ Hid (Sp w wr (.int .i64 s.P) (.slice ja n jc) (.slice oa m oc) (.slice (some ⟨g, 0, none⟩) n c) sp') ∧ Hid (KeepsOthers W wr)) (fun qv _ => n - (intOf qv).toNat)
            case atStart => exact ⟨0, Nat.zero_le _, rfl, _, hso, hR1, hKO⟩
            case round =>
              clear z0 z1 z2 hR1 hKO hso sp sp1
              obtain ⟨i, hi, rfl, sp, hso, hR, hKO⟩ := hrel
              obtain ⟨wo, rfl⟩ : ∃ wo : World, wo = wr := ⟨_, rfl⟩
              by_cases hin : i < n
              · have hin' : (i : Int) < (n : Int) := by omega
                have hin2 := Lib.hid hin
                have hgo := Lib.hid (World.ownsRow.lt hR.out.own g rfl)
                have hins := Lib.hid (show i < s.n by rw [show s.n = n from hn'.out.symm]; exact hin)
                obtain ⟨jg, rfl, hjg, p0, p1, p2, p3⟩ := hrow.out i hin
                have hJJ := hjobs.out i hin
                rw [show s.js.getD i J0 = s.job i from rfl] at p0 p1 p2 p3
                have h66 := Lib.hid (fun (V : World) => need66 (w := V) (j := s.job i) hJJ (a := A) (b := Bb) (by omega) (by omega) (by omega))
                have hndb := needJ_in (j := s.job i) hJJ (a := A) (b := Bb) (by omega)
                obtain ⟨nd, hnd⟩ : ∃ nd, nd = needJ (s.job i) A Bb := ⟨_, rfl⟩
                rw [← hnd] at h66 hndb
                obtain ⟨⟨f, t, l, p⟩, hjj⟩ : ∃ y, y = s.job i := ⟨_, rfl⟩
                rw [← hjj] at hJJ p0 p1 p2 p3 h66
                simp only at hJJ p0 p1 p2 p3 h66
                have r0 := (hR.out.low.cell (p := ⟨jg, i * 4, none⟩) hjg).trans p0
                have r1 := (hR.out.low.cell (p := ⟨jg, i * 4 + 1, none⟩) hjg).trans p1
                have r2 := (hR.out.low.cell (p := ⟨jg, i * 4 + 2, none⟩) hjg).trans p2
                have r3 := (hR.out.low.cell (p := ⟨jg, i * 4 + 3, none⟩) hjg).trans p3
                have e38 := Lib.hid (show ∀ W, Calls Try.prog 38 #[.agg #[.int .i64 f, .int .i64 t, .int .i64 l, .int .i64 p]] W fun e w' => e = .returned (.int .i64 (t - l)) ∧ Below W.heap.size W w' from fun W => latest38 ⟨f, t, l, p⟩ (by simp only; omega))
                obtain ⟨D, hD⟩ : ∃ D, D = (E - N + nd).tdiv p := ⟨_, rfl⟩
                have hDb : -3360 ≤ D ∧ D ≤ 3360 := by
                  have h2 := Int.natAbs_tdiv_le_natAbs (E - N + nd) p
                  rw [← hD] at h2
                  have h3 := nab D
                  have h4 := nab (E - N + nd)
                  omega
                have s1 : IntKind.i64.wrap (E - N + nd) = E - N + nd := IntWalk.i64_in _ (by omega)
                have s2 : IntKind.i64.wrap D = D := IntWalk.i64_in _ (by omega)
                have s3 : IntKind.i64.wrap (1 + D) = 1 + D := IntWalk.i64_in _ (by omega)
                have hD1 := hD.symm
                have hp0 : ¬ p = 0 := by omega
                have hp1 : (p == 0) = false := by simpa using hp0
                have hJb := Lib.hid hJJ
                have hDb' := Lib.hid hDb
                clear p0 p1 p2 p3 hjj hD hnd
                obtain ⟨W2, hW2⟩ : ∃ W2, W2 = wo.alloc (.cells #[.int .i64 f, .int .i64 t, .int .i64 l, .int .i64 p] 56) := ⟨_, rfl⟩
                have hb2 : Below wo.heap.size wo W2 := by rw [hW2]; exact below_alloc1 _ _
                have hR2 := Lib.hid (hR.out.keep hb2)
                have hK2 := Lib.hid (hKO.out.trans (keepsO_below hb2))
                have q0 : W2.cell? ⟨wo.heap.size, 0, none⟩ = some (.int .i64 f) := by rw [hW2]; simp
                have q1 : W2.cell? ⟨wo.heap.size, 1, none⟩ = some (.int .i64 t) := by rw [hW2]; simp
                have q2 : W2.cell? ⟨wo.heap.size, 2, none⟩ = some (.int .i64 l) := by rw [hW2]; simp
                have q3 : W2.cell? ⟨wo.heap.size, 3, none⟩ = some (.int .i64 p) := by rw [hW2]; simp
                have hq := Lib.hid (And.intro q0 (And.intro q1 (And.intro q2 q3)))
                have hg2 := Lib.hid (show wo.heap.size < W2.heap.size from cell_in q0)
                clear q0 q1 q2 q3 hb2 hR hKO
                gi_wp2
                rw [← hW2]
                clear hW2 r0 r1 r2 r3
                obtain ⟨q0, q1, q2, q3⟩ := hq.out
                refine inRound_held (fun w' => Below W2.heap.size W2 w') hmx (by kernel_rfl) ?_
                have hHeld : Below W2.heap.size W2 W2.drew := (Below.refl _ _).drew
                change wpAnyH _ _ _ _ _ _ _ _ W2.drew
                simp only [List.size_toArray, List.length_cons, List.length_nil, Nat.reduceAdd, Array.replicate_succ, Array.replicate_zero, List.push_toArray, List.nil_append, List.cons_append]
                refine wpAnyH_take (i := 0) (v := .int .i64 (E - N)) rfl (by as_aux_lemma => kernel_rfl) (by as_aux_lemma => kernel_rfl) (by as_aux_lemma => kernel_rfl) (fun _ _ _ h => h) (Or.inl ⟨by rfl, ?_⟩) hHeld ?_
                · intro w' hSw; go_simp
                simp only [Act.put, List.setIfInBounds_toArray, List.set_cons_zero, List.set_cons_succ, List.getElem_toArray, List.getElem_cons_zero]
                refine wpAnyH_take (i := 1) (v := .agg #[.int .i64 f, .int .i64 t, .int .i64 l, .int .i64 p]) rfl (by as_aux_lemma => kernel_rfl) (by as_aux_lemma => kernel_rfl) (by as_aux_lemma => kernel_rfl) (fun _ _ _ h => h) (Or.inl ⟨by rfl, ?_⟩) hHeld ?_
                · intro w' hSw; have c0 := (hSw.cell (p := ⟨wo.heap.size, 0, none⟩) hg2.out).trans q0; have c1 := (hSw.cell (p := ⟨wo.heap.size, 1, none⟩) hg2.out).trans q1; have c2 := (hSw.cell (p := ⟨wo.heap.size, 2, none⟩) hg2.out).trans q2; have c3 := (hSw.cell (p := ⟨wo.heap.size, 3, none⟩) hg2.out).trans q3; go_simp
                simp only [Act.put, List.setIfInBounds_toArray, List.set_cons_zero, List.set_cons_succ, List.getElem_toArray, List.getElem_cons_succ, List.getElem_cons_zero]
                refine wpAnyH_take (i := 2) (v := .int .i64 A) rfl (by as_aux_lemma => kernel_rfl) (by as_aux_lemma => kernel_rfl) (by as_aux_lemma => kernel_rfl) (fun _ _ _ h => h) (Or.inl ⟨by rfl, ?_⟩) hHeld ?_
                · intro w' hSw; go_simp
                simp only [Act.put, List.setIfInBounds_toArray, List.set_cons_zero, List.set_cons_succ, List.getElem_toArray, List.getElem_cons_succ, List.getElem_cons_zero]
                refine wpAnyH_take (i := 3) (v := .int .i64 Bb) rfl (by as_aux_lemma => kernel_rfl) (by as_aux_lemma => kernel_rfl) (by as_aux_lemma => kernel_rfl) (fun _ _ _ h => h) (Or.inl ⟨by rfl, ?_⟩) hHeld ?_
                · intro w' hSw; go_simp
                simp only [Act.put, List.setIfInBounds_toArray, List.set_cons_zero, List.set_cons_succ, List.getElem_toArray, List.getElem_cons_succ, List.getElem_cons_zero]
                refine wpAnyH_take (i := 6) (v := .pointer (some ⟨wo.heap.size, 3, none⟩)) rfl (by as_aux_lemma => kernel_rfl) (by as_aux_lemma => kernel_rfl) (by as_aux_lemma => kernel_rfl) (fun _ _ _ h => h) (Or.inl ⟨by rfl, ?_⟩) hHeld ?_
                · intro w' hSw; go_simp
                simp only [Act.put, List.setIfInBounds_toArray, List.set_cons_zero, List.set_cons_succ, List.getElem_toArray, List.getElem_cons_succ, List.getElem_cons_zero]
                refine wpAnyH_take (i := 7) (v := .int .i64 p) rfl (by as_aux_lemma => kernel_rfl) (by as_aux_lemma => kernel_rfl) (by as_aux_lemma => kernel_rfl) (fun _ _ _ h => h) (Or.inl ⟨by rfl, ?_⟩) hHeld ?_
                · intro w' hSw; have c3 := (hSw.cell (p := ⟨wo.heap.size, 3, none⟩) hg2.out).trans q3; go_simp
                simp only [Act.put, List.setIfInBounds_toArray, List.set_cons_zero, List.set_cons_succ, List.getElem_toArray, List.getElem_cons_succ, List.getElem_cons_zero]
                refine wpAnyH_ready (rs := [4]) (by as_aux_lemma => kernel_rfl) (by simp) ?_
                refine AllReadyH.cons rfl (fun K hK => ?_) AllReadyH.nil
                have hV := Lib.hid (h66.out W2.drew)
                go_simp
                refine hV.out.mono ?_
                rintro e W3 ⟨rfl, hb3⟩
                have hb3' : Below W2.heap.size W2 W3 := (Below.refl W2.heap.size W2).drew.trans hb3
                refine hK.out _ _ hb3' (fun hHeld => ?_)
                clear hK K hV hb3
                simp only [List.setIfInBounds_toArray, List.set_cons_zero, List.set_cons_succ]
                refine wpAnyH_take (i := 5) (v := .int .i64 (E - N + nd)) rfl (by as_aux_lemma => kernel_rfl) (by as_aux_lemma => kernel_rfl) (by as_aux_lemma => kernel_rfl) (fun _ _ _ h => h) (Or.inl ⟨by rfl, ?_⟩) hHeld ?_
                · intro w' hSw; go_simp
                simp only [Act.put, List.setIfInBounds_toArray, List.set_cons_zero, List.set_cons_succ, List.getElem_toArray, List.getElem_cons_succ, List.getElem_cons_zero]
                refine wpAnyH_take (i := 8) (v := .int .i64 D) rfl (by as_aux_lemma => kernel_rfl) (by as_aux_lemma => kernel_rfl) (by as_aux_lemma => kernel_rfl) (fun _ _ _ h => h) (Or.inl ⟨by rfl, ?_⟩) hHeld ?_
                · intro w' hSw; go_simp
                simp only [Act.put, List.setIfInBounds_toArray, List.set_cons_zero, List.set_cons_succ, List.getElem_toArray, List.getElem_cons_succ, List.getElem_cons_zero]
                refine wpAnyH_take (i := 9) (v := .int .i64 (1 + D)) rfl (by as_aux_lemma => kernel_rfl) (by as_aux_lemma => kernel_rfl) (by as_aux_lemma => kernel_rfl) (fun _ _ _ h => h) (Or.inl ⟨by rfl, ?_⟩) hHeld ?_
                · intro w' hSw; go_simp
                simp only [Act.put, List.setIfInBounds_toArray, List.set_cons_zero, List.set_cons_succ, List.getElem_toArray, List.getElem_cons_succ, List.getElem_cons_zero]
                refine wpAnyH_take (i := 10) (v := .int .i64 (1 + D)) rfl (by as_aux_lemma => kernel_rfl) (by as_aux_lemma => kernel_rfl) (by as_aux_lemma => kernel_rfl) (fun _ _ _ h => h) (Or.inl ⟨by rfl, ?_⟩) hHeld ?_
                · intro w' hSw; go_simp
                simp only [Act.put, List.setIfInBounds_toArray, List.set_cons_zero, List.set_cons_succ, List.getElem_toArray, List.getElem_cons_succ, List.getElem_cons_zero]
                refine wpAnyH_done (by kernel_rfl) ?_ _
                refine Nrm.normal ?_
                have hR3 := Lib.hid (hR2.out.keep hb3')
                have hK3 := Lib.hid (hK2.out.trans (keepsO_below hb3'))
                have k0 := (hb3'.cell (p := ⟨wo.heap.size, 0, none⟩) hg2.out).trans q0
                have k1 := (hb3'.cell (p := ⟨wo.heap.size, 1, none⟩) hg2.out).trans q1
                have k2 := (hb3'.cell (p := ⟨wo.heap.size, 2, none⟩) hg2.out).trans q2
                have k3 := (hb3'.cell (p := ⟨wo.heap.size, 3, none⟩) hg2.out).trans q3
                clear hb3' hHeld hR2 hK2 hq q0 q1 q2 q3 h66 s1 s2 s3 hD1 hp0 hp1 hg2
                obtain ⟨mn, hmn⟩ : ∃ mn, mn = min l (Bb - A) := ⟨_, rfl⟩
                have hrm := fun (V : World) => run_min2h (P := Try.prog) (w := V) #[3, 3] 3 l (Bb - A) mn hmn
                have hmb : 1 ≤ mn ∧ mn ≤ 24 := by have := hJb.out; omega
                obtain ⟨G, hG⟩ : ∃ G, G = 1 + D := ⟨_, rfl⟩
                rw [← hG]
                have hGb : -3359 ≤ G ∧ G ≤ 3361 := by omega
                have hlb := hJb.out
                have t1 : IntKind.i64.wrap (Bb - A) = Bb - A := IntWalk.i64_in _ (by omega)
                have t2 : IntKind.i64.wrap (f + l) = f + l := IntWalk.i64_in _ (by omega)
                have t3 : IntKind.i64.wrap (f + l - A) = f + l - A := IntWalk.i64_in _ (by omega)
                have t4 : IntKind.i64.wrap (Bb - G) = Bb - G := IntWalk.i64_in _ (by omega)
                have t5 : IntKind.i64.wrap (Bb - G + 1) = Bb - G + 1 := IntWalk.i64_in _ (by omega)
                have t6 : IntKind.i64.wrap (Bb - (t - l)) = Bb - (t - l) := IntWalk.i64_in _ (by omega)
                have t7 : IntKind.i64.wrap (A + G) = A + G := IntWalk.i64_in _ (by omega)
                have t8 : IntKind.i64.wrap (A + G - l) = A + G - l := IntWalk.i64_in _ (by omega)
                have t9 : IntKind.i64.wrap (A + G - l - 1) = A + G - l - 1 := IntWalk.i64_in _ (by omega)
                have ta : IntKind.i64.wrap ((i : Int) + 1) = (i : Int) + 1 := IntWalk.i64_in _ (by omega)
                have hpp := OwnS.parts hR3.out.own (i := i) (by rw [hso.out.1]; exact hins.out)
                have hpl := Lib.hid hpp
                have hgl := Lib.hid (World.ownsRow.lt hR3.out.own g rfl)
                have b3 := hR3.out.bx.1
                clear hG hDb' hmn hpp hndb hDb hlb
                by_cases c1 : mn < G
                · have d1 : decide (mn < G) = true := by simpa using c1
                  gi_wp2
                  go_roundw
                  case rel => exact ⟨i + 1, hin2.out, by go_num, _, hso, hR3, hK3⟩
                  case measure => simp [intOf]; omega
                · have d1 : decide (mn < G) = false := by simpa using c1
                  by_cases c2 : G ≤ f + l - A
                  · have d2 : decide (G ≤ f + l - A) = true := by simpa using c2
                    have hc78 := Lib.hid (before78 (w := W3) (g := g) (k := i * 2) (t := Bb - G + 1) hpl.out.2.1 (hpl.out.1 _))
                    gi_wp2_with (refine ⟨trivial, ?_⟩; gi_at_call 78; refine (CallsIn.inRound rl (callsIn_wide.2 hc78.out)).mono ?_; rintro e W4 ⟨rfl, hW4⟩; have hW4' := Lib.hid hW4; clear hW4)
                    have hR4 := Lib.hid (show Sp w W4 (.int .i64 s.P) (.slice (some ⟨jg, 0, none⟩) n jc) (.slice oa m oc) (.slice (some ⟨g, 0, none⟩) n c) (sp.set i (max (sp.getD i (0, 0)).1 (Bb - G + 1), (sp.getD i (0, 0)).2)) from by rw [hW4'.out]; exact Sp.row hR3.out hgl.out.1 (hpl.out.2.2.2.1 _))
                    have hs4 := Lib.hid (span_first hso.out hins.out (t := Bb - G + 1) (by omega))
                    have hK4 := Lib.hid (show KeepsOthers W W4 by rw [hW4'.out]; exact hK3.out.trans (KeepsOthers.setCell _ _ _))
                    go_roundw
                    case rel => exact ⟨i + 1, hin2.out, by go_num, _, hs4, hR4, hK4⟩
                    case measure => simp [intOf]; omega
                  · have d2 : decide (G ≤ f + l - A) = false := by simpa using c2
                    by_cases c3 : G ≤ Bb - (t - l)
                    · have d3 : decide (G ≤ Bb - (t - l)) = true := by simpa using c3
                      gi_wp2_with (refine ⟨trivial, ?_⟩; gi_at_call 38; refine (CallsIn.inRound rl (callsIn_wide.2 (e38.out _))).mono ?_; rintro e W4 ⟨rfl, hb4⟩; have hb4' := Lib.hid hb4; clear hb4)
                      have hR4 := Lib.hid (hR3.out.keep hb4'.out)
                      have hK4 := Lib.hid (hK3.out.trans (keepsO_below hb4'.out))
                      have hg4 : wo.heap.size < W3.heap.size := cell_in k2
                      have x2 := (hb4'.out.cell (p := ⟨wo.heap.size, 2, none⟩) hg4).trans k2
                      have hgw := Lib.hid (cell_in x2)
                      have b4 := hR4.out.bx.1
                      have hgB := Lib.hid (show w.heap.size + 1 < W4.heap.size from cell_in b4)
                      have hgA := Lib.hid (show w.heap.size + 1 ≠ g ∧ wo.heap.size ≠ g by have := hgo.out; omega)
                      refine inRound_held (fun w' => Kq g W4 w') hmx (by kernel_rfl) ?_
                      have hHeld : Kq g W4 W4.drew := Kq.of_below (Below.refl _ _).drew
                      change wpAnyH _ _ _ _ _ _ _ _ W4.drew
                      simp only [List.size_toArray, List.length_cons, List.length_nil, Nat.reduceAdd, Array.replicate_succ, Array.replicate_zero, List.push_toArray, List.nil_append, List.cons_append]
                      refine wpAnyH_take (i := 0) (v := .slice (some ⟨g, 0, none⟩) n c) rfl (by as_aux_lemma => kernel_rfl) (by as_aux_lemma => kernel_rfl) (by as_aux_lemma => kernel_rfl) (fun _ _ _ h => h) (Or.inl ⟨by rfl, ?_⟩) hHeld ?_
                      · intro w' hSw; have cb := (hSw.cell (k := 0) hgB.out hgA.out.1).trans b4; go_simp
                      simp only [Act.put, List.setIfInBounds_toArray, List.set_cons_zero, List.set_cons_succ, List.getElem_toArray, List.getElem_cons_zero]
                      refine wpAnyH_take (i := 1) (v := .int .i64 i) rfl (by as_aux_lemma => kernel_rfl) (by as_aux_lemma => kernel_rfl) (by as_aux_lemma => kernel_rfl) (fun _ _ _ h => h) (Or.inl ⟨by rfl, ?_⟩) hHeld ?_
                      · intro w' hSw; go_simp
                      simp only [Act.put, List.setIfInBounds_toArray, List.set_cons_zero, List.set_cons_succ, List.getElem_toArray, List.getElem_cons_succ, List.getElem_cons_zero]
                      refine wpAnyH_take (i := 2) (v := .pointer (some ⟨g, i * 2, none⟩)) rfl (by as_aux_lemma => kernel_rfl) (by as_aux_lemma => kernel_rfl) (by as_aux_lemma => kernel_rfl) (fun _ _ _ h => h) (Or.inl ⟨by rfl, ?_⟩) hHeld ?_
                      · intro w' hSw; go_simp
                      simp only [Act.put, List.setIfInBounds_toArray, List.set_cons_zero, List.set_cons_succ, List.getElem_toArray, List.getElem_cons_succ, List.getElem_cons_zero]
                      refine wpAnyH_take (i := 3) (v := .int .i64 A) rfl (by as_aux_lemma => kernel_rfl) (by as_aux_lemma => kernel_rfl) (by as_aux_lemma => kernel_rfl) (fun _ _ _ h => h) (Or.inl ⟨by rfl, ?_⟩) hHeld ?_
                      · intro w' hSw; go_simp
                      simp only [Act.put, List.setIfInBounds_toArray, List.set_cons_zero, List.set_cons_succ, List.getElem_toArray, List.getElem_cons_succ, List.getElem_cons_zero]
                      refine wpAnyH_take (i := 4) (v := .int .i64 G) rfl (by as_aux_lemma => kernel_rfl) (by as_aux_lemma => kernel_rfl) (by as_aux_lemma => kernel_rfl) (fun _ _ _ h => h) (Or.inl ⟨by rfl, ?_⟩) hHeld ?_
                      · intro w' hSw; go_simp
                      simp only [Act.put, List.setIfInBounds_toArray, List.set_cons_zero, List.set_cons_succ, List.getElem_toArray, List.getElem_cons_succ, List.getElem_cons_zero]
                      refine wpAnyH_take (i := 5) (v := .int .i64 (A + G)) rfl (by as_aux_lemma => kernel_rfl) (by as_aux_lemma => kernel_rfl) (by as_aux_lemma => kernel_rfl) (fun _ _ _ h => h) (Or.inl ⟨by rfl, ?_⟩) hHeld ?_
                      · intro w' hSw; go_simp
                      simp only [Act.put, List.setIfInBounds_toArray, List.set_cons_zero, List.set_cons_succ, List.getElem_toArray, List.getElem_cons_succ, List.getElem_cons_zero]
                      refine wpAnyH_take (i := 6) (v := .pointer (some ⟨wo.heap.size, 2, none⟩)) rfl (by as_aux_lemma => kernel_rfl) (by as_aux_lemma => kernel_rfl) (by as_aux_lemma => kernel_rfl) (fun _ _ _ h => h) (Or.inl ⟨by rfl, ?_⟩) hHeld ?_
                      · intro w' hSw; go_simp
                      simp only [Act.put, List.setIfInBounds_toArray, List.set_cons_zero, List.set_cons_succ, List.getElem_toArray, List.getElem_cons_succ, List.getElem_cons_zero]
                      refine wpAnyH_take (i := 7) (v := .int .i64 l) rfl (by as_aux_lemma => kernel_rfl) (by as_aux_lemma => kernel_rfl) (by as_aux_lemma => kernel_rfl) (fun _ _ _ h => h) (Or.inl ⟨by rfl, ?_⟩) hHeld ?_
                      · intro w' hSw; have cb := (hSw.cell (k := 2) hgw.out hgA.out.2).trans x2; go_simp
                      simp only [Act.put, List.setIfInBounds_toArray, List.set_cons_zero, List.set_cons_succ, List.getElem_toArray, List.getElem_cons_succ, List.getElem_cons_zero]
                      refine wpAnyH_take (i := 8) (v := .int .i64 (A + G - l)) rfl (by as_aux_lemma => kernel_rfl) (by as_aux_lemma => kernel_rfl) (by as_aux_lemma => kernel_rfl) (fun _ _ _ h => h) (Or.inl ⟨by rfl, ?_⟩) hHeld ?_
                      · intro w' hSw; go_simp
                      simp only [Act.put, List.setIfInBounds_toArray, List.set_cons_zero, List.set_cons_succ, List.getElem_toArray, List.getElem_cons_succ, List.getElem_cons_zero]
                      refine wpAnyH_take (i := 9) (v := .int .i64 (A + G - l - 1)) rfl (by as_aux_lemma => kernel_rfl) (by as_aux_lemma => kernel_rfl) (by as_aux_lemma => kernel_rfl) (fun _ _ _ h => h) (Or.inl ⟨by rfl, ?_⟩) hHeld ?_
                      · intro w' hSw; go_simp
                      simp only [Act.put, List.setIfInBounds_toArray, List.set_cons_zero, List.set_cons_succ, List.getElem_toArray, List.getElem_cons_succ, List.getElem_cons_zero]
                      clear b4 x2
                      have hR5 := Lib.hid (hR4.out.keep (Below.refl W4.heap.size W4).drew)
                      have hp5 := OwnS.parts hR5.out.own (i := i) (by rw [hso.out.1]; exact hins.out)
                      have hca := Lib.hid (after79 (w := W4.drew) (g := g) (k := i * 2) (t := A + G - l - 1) hp5.2.2.1 (hp5.1 _))
                      have hst := Lib.hid hp5.2.2.2.2
                      clear hp5
                      refine wpAnyH_ready (rs := [10]) (by as_aux_lemma => kernel_rfl) (by simp) ?_
                      refine AllReadyH.cons rfl (fun K hK => ?_) AllReadyH.nil
                      go_simp
                      refine hca.out.mono ?_
                      rintro e W6 ⟨rfl, hW6⟩
                      have hk6 : Kq g W4 W6 := by rw [hW6]; exact hHeld.trans (Kq.set g _ _ _)
                      have hR6 := Lib.hid (show Sp w W6 (.int .i64 s.P) (.slice (some ⟨jg, 0, none⟩) n jc) (.slice oa m oc) (.slice (some ⟨g, 0, none⟩) n c) (sp.set i ((sp.getD i (0, 0)).1, min (sp.getD i (0, 0)).2 (A + G - l - 1))) from by rw [hW6]; exact Sp.row hR5.out hgl.out.1 (hst.out _))
                      have hs6 := Lib.hid (span_last hso.out hins.out (t := A + G - l - 1) (by have := hJb.out; omega))
                      have hK6 := Lib.hid (show KeepsOthers W W6 by rw [hW6]; exact (hK4.out.trans (keepsO_below (Below.refl W4.heap.size W4).drew)).trans (KeepsOthers.setCell _ _ _))
                      refine hK.out _ _ hk6 (fun hHeld => ?_)
                      clear hK K hca hst hW6 hk6 hHeld hR5
                      simp only [List.setIfInBounds_toArray, List.set_cons_zero, List.set_cons_succ]
                      refine wpAnyH_done (by kernel_rfl) ?_ _
                      refine Nrm.normal ?_
                      gi_wp2
                      go_roundw
                      case rel => exact ⟨i + 1, hin2.out, by go_num, _, hs6, hR6, hK6⟩
                      case measure => simp [intOf]; omega
                    · have d3 : decide (G ≤ Bb - (t - l)) = false := by simpa using c3
                      gi_wp2_with (refine ⟨trivial, ?_⟩; gi_at_call 38; refine (CallsIn.inRound rl (callsIn_wide.2 (e38.out _))).mono ?_; rintro e W4 ⟨rfl, hb4⟩; have hb4' := Lib.hid hb4; clear hb4)
                      have hR4 := Lib.hid (hR3.out.keep hb4'.out)
                      have hK4 := Lib.hid (hK3.out.trans (keepsO_below hb4'.out))
                      go_roundw
                      case rel => exact ⟨i + 1, hin2.out, by go_num, _, hso, hR4, hK4⟩
                      case measure => simp [intOf]; omega
              · have hin' : ¬ ((i : Int) < (n : Int)) := by omega
                gi_wp2
                exact ⟨hKO.out, trivial, ⟨sp, hso.out, hR.out⟩, hR.out.low⟩
end Go.Proofs.Ytjkbhdlbomcbeaa
