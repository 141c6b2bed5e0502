import Derived.Test.YtccmabckmpelcaaTa
import Derived.Test.YtccmabckmpelcaaTc
import Derived.Test.YtccmabckmpelcaaNc
namespace Go.Proofs.Ytccmabckmpelcaa
open Go.RowKit

theorem make_eq (W : World) (n : Nat) (hC : n ≤ 1000000) : Sem.run Try.prog (Instr.makeSlice 22 (.int .i64 (n : Int)) (.int .i64 (n : Int))) W = .ok (.slice (some ⟨W.heap.size, 0, none⟩) n n) (W.alloc (.cells (madeCells #[.int .i64 0] n) 3)) := by
  obtain ⟨i0, hi, hz0, hz1, hz2⟩ := info_parts info3
  have hr := run_make (P := Try.prog) W 22 3 i0 (.int .i64 0) Try.underlying22 hi hz0 .i64 .i64 (n : Int) (n : Int) (by omega) (by omega) (by rw [hz2]; omega) (by omega)
  simp only [Int.toNat_natCast, hz1, Nat.mul_one] at hr
  exact hr

theorem heap3_2 (w1 : World) (x y z : Obj) : (((w1.alloc x).alloc y).alloc z).drew.heap[w1.heap.size + 1 + 1]? = some z := by
  show (((w1.alloc x).alloc y).alloc z).heap[w1.heap.size + 1 + 1]? = some z
  have := heap_alloc_new ((w1.alloc x).alloc y) z
  simpa using this
theorem heap3_1 (w1 : World) (x y z : Obj) : (((w1.alloc x).alloc y).alloc z).drew.heap[w1.heap.size + 1]? = some y := by
  show (((w1.alloc x).alloc y).alloc z).heap[w1.heap.size + 1]? = some y
  have h1 := heap_alloc_new (w1.alloc x) y
  have h2 := (below_alloc1 ((w1.alloc x).alloc y) z).block (w1.heap.size + 1) (by simp)
  rw [h2]; simpa using h1
theorem heap3_0 (w1 : World) (x y z : Obj) : (((w1.alloc x).alloc y).alloc z).drew.heap[w1.heap.size]? = some x := by
  show (((w1.alloc x).alloc y).alloc z).heap[w1.heap.size]? = some x
  have h1 := heap_alloc_new w1 x
  have h2 := (below_alloc1 (w1.alloc x) y).block w1.heap.size (by simp)
  have h3 := (below_alloc1 ((w1.alloc x).alloc y) z).block w1.heap.size (by simp; omega)
  rw [h3, h2]; exact h1
def Three (w1 : World) (n : Nat) (sv gv nv : Value) (wx : World) : Prop :=
  OwnG wx w1.heap.size sv [] ∧ OwnG wx w1.heap.size gv [] ∧ Dis sv gv ∧ Ints wx w1.heap.size nv (List.replicate n 0) ∧ Below w1.heap.size w1 wx
theorem three_of {w1 wx : World} {n b1 b2 b3 : Nat} (hn : n ≤ 1000) (hb : Below w1.heap.size w1 wx) (h1 : wx.heap[b1]? = some (.cells #[] 22)) (h2 : wx.heap[b2]? = some (.cells #[] 22)) (h3 : wx.heap[b3]? = some (.cells (madeCells #[.int .i64 0] n) 3)) (l1 : w1.heap.size ≤ b1) (l2 : w1.heap.size ≤ b2) (l3 : w1.heap.size ≤ b3) (hne : b1 ≠ b2) :
    Three w1 n (.slice (some ⟨b1, 0, none⟩) 0 0) (.slice (some ⟨b2, 0, none⟩) 0 0) (.slice (some ⟨b3, 0, none⟩) n n) wx := by
  refine ⟨⟨[], ⟨rfl, .inr ⟨b1, 0, _, rfl, l1, h1, Nat.le_refl _, by unfold maxLen; omega, by simp, by simp⟩⟩, rfl, fun j hj => by simp at hj⟩, ⟨[], ⟨rfl, .inr ⟨b2, 0, _, rfl, l2, h2, Nat.le_refl _, by unfold maxLen; omega, by simp, by simp⟩⟩, rfl, fun j hj => by simp at hj⟩, fun k hk e => ?_, ?_, hb⟩
  · simp only [Value.ownBlock, Option.some.injEq] at hk e
    omega
  · refine ⟨by simp, .inr ⟨b3, n, _, by simp, l3, h3, by simp, by unfold maxLen; omega, by simp [size_madeCells], ?_⟩⟩
    rw [toList_madeCells_one]
    simp

/-- The loop over the places. -/
def T14 (w1 : World) (gs : List (List Int)) (K n : Nat) (nv sv gv iv : Value) (wr : World) : Prop :=
  ∃ i : Nat, i ≤ n ∧ iv = .int .i64 (i : Int) ∧ Hid (OwnG wr w1.heap.size sv ((smallG gs).take i)) ∧ Hid (OwnG wr w1.heap.size gv ((scl K (smallG gs)).take i)) ∧ Hid (Dis sv gv) ∧ Hid (Ints wr w1.heap.size nv (List.replicate n 0)) ∧ Below w1.heap.size w1 wr
/-- The loop over the gains of a place. -/
def T14in (wo : World) (l : List Int) (K : Nat) (sv gv jv : Value) (wr : World) : Prop :=
  ∃ j : Nat, j ≤ l.length ∧ jv = .int .i64 (j : Int) ∧ Hid (Ints wr wo.heap.size sv ((l.map fun x => x / 4).take j)) ∧ Hid (Ints wr wo.heap.size gv ((l.map fun x => x / 4 * (K : Int)).take j)) ∧ Hid (Dis sv gv) ∧ Below wo.heap.size wo wr
theorem st_two {w : World} {B : Nat} {s g : Value} {ss gg : List Int} (hs : Ints w B s ss) (hg : Ints w B g gg) (hd : Dis s g) (hB : B ≤ w.heap.size) : St w w B [(s, ss), (g, gg)] [] := by
  refine St.start (fun i v xs hi => ?_) (fun i j v xs u ys hij hi hj => ?_) hB
  · match i, hi with
    | 0, hi => simp at hi; obtain ⟨rfl, rfl⟩ := hi; exact hs
    | 1, hi => simp at hi; obtain ⟨rfl, rfl⟩ := hi; exact hg
    | i + 2, hi => simp at hi
  · match i, j, hi, hj with
    | 0, 0, _, _ => exact absurd rfl hij
    | 0, 1, hi, hj => simp at hi hj; obtain ⟨rfl, rfl⟩ := hi; obtain ⟨rfl, rfl⟩ := hj; exact hd
    | 1, 0, hi, hj => simp at hi hj; obtain ⟨rfl, rfl⟩ := hi; obtain ⟨rfl, rfl⟩ := hj; exact hd.symm
    | 1, 1, _, _ => exact absurd rfl hij
    | i + 2, j, hi, _ => simp at hi
    | i, j + 2, _, hj => simp at hj
theorem map_getD {f : Int → Int} (l : List Int) (j : Nat) (h : j < l.length) : (l.map f).getD j 0 = f (l.getD j 0) := by simp [List.getD_eq_getElem?_getD, h]

theorem take_snocGG (gs : List (List Int)) (i : Nat) (h : i < gs.length) : gs.take i ++ [gs.getD i []] = gs.take (i + 1) := by
  rw [List.take_succ_eq_append_getElem h]; simp [List.getD_eq_getElem?_getD, h]
theorem small_take {gs : List (List Int)} {i : Nat} {l : List Int} (h : i < gs.length) (hl : l = gs.getD i []) : (smallG gs).take i ++ [l.map fun x => x / 4] = (smallG gs).take (i + 1) := by
  rw [← take_snocGG _ _ (by simpa [smallG] using h), hl]
  congr 2
  unfold smallG
  simp [List.getD_eq_getElem?_getD, h]
theorem great_take {gs : List (List Int)} {i : Nat} {l : List Int} {K : Int} (h : i < gs.length) (hl : l = gs.getD i []) : (scl K (smallG gs)).take i ++ [l.map fun x => x / 4 * K] = (scl K (smallG gs)).take (i + 1) := by
  rw [great_eq, ← take_snocGG _ _ (by simpa using h), hl]
  congr 2
  simp [List.getD_eq_getElem?_getD, h]

theorem riv_mk {w : World} {B : Nat} {u v : Value} {fs : List Int} {gs : List (List Int)} (hu : Reads w u fs) (hv : OwnG w B v gs) (hr : rivB fs gs = true) : Riv w u v fs gs := by
  obtain ⟨h1, h2, h3, h4, h5, h6⟩ := rivB_facts hr
  exact ⟨hu, hv.shape, by omega, by omega, fun j hj => by have := (gain_at (h5.2 j hj)).1; omega⟩
theorem mulK_bd {K : Nat} {x : Int} {M : Int} (h1 : 1 ≤ K) (h4 : K ≤ 4) (h0 : 0 ≤ x) (hM : x ≤ M) : 0 ≤ (K : Int) * x ∧ (K : Int) * x ≤ 4 * M := by
  have hc : K = 1 ∨ K = 2 ∨ K = 3 ∨ K = 4 := by omega
  rcases hc with rfl | rfl | rfl | rfl <;> omega

theorem mulK_bd2 {K : Nat} {x : Int} {M : Int} (h1 : 1 ≤ K) (h4 : K ≤ 4) (h0 : -M ≤ x) (hM : x ≤ M) : -(4 * M) ≤ (K : Int) * x ∧ (K : Int) * x ≤ 4 * M := by
  have hc : K = 1 ∨ K = 2 ∨ K = 3 ∨ K = 4 := by omega
  rcases hc with rfl | rfl | rfl | rfl <;> omega

set_option maxHeartbeats 40000000 in
set_option maxRecDepth 100000 in
theorem walk14 {w : World} {a b : Value} {xs : List Int} {xss : List (List Int)} {one : Int} (hf : InRow w a xs) (hg : InRows w b xss) (h1 : (Lit.int .u8 one).wf = true) :
    Calls Try.prog 14 #[.agg #[a, b], .int .u8 one] w fun e w' => e = .returned (.bool true) ∧ Below w.heap.size w w' := by
  obtain ⟨a0, a1⟩ := bounds_u8 h1
  obtain ⟨A, rfl⟩ : ∃ A : Nat, one = (A : Int) := ⟨one.toNat, by omega⟩
  obtain ⟨ao, ac, rfl, _⟩ := hf.2.2
  have hg' := Lib.hid hg
  obtain ⟨bo, bc, rfl, _⟩ := hg
  have hf' := Lib.hid hf
  clear hf h1
  go_enter Try.func14, Try.ntmps14
  go_wp2_with fail
  have hb0 := below_alloc1 w (.cells #[.slice ao xs.length ac, .slice bo xss.length bc] 25)
  refine (made37' (hf'.out.below hb0) (hg'.out.below hb0) 8 (by omega) (by omega)).mono ?_
  rintro e w1 ⟨uo, uc, vo, vc, fs, gs, n, rfl, hn, hfn, hn1, h8, hr, hriv, hb1⟩
  have hb1 := Lib.hid (below_call hb0 hb1)
  have hriv' := Lib.hid hriv
  have hn' := Lib.hid hn
  have hfn' := Lib.hid hfn
  clear hriv hn hfn hb0
  go_wp2_with fail
  obtain ⟨K, hK⟩ : ∃ K : Nat, (K : Int) = (A : Int) % 4 + 1 := ⟨A % 4 + 1, by omega⟩
  rw [← hK]
  have hK1 : 1 ≤ K ∧ K ≤ 4 := by omega
  obtain ⟨hK1, hK4⟩ := hK1
  clear hK a0 a1
  have hmk : ∀ W : World, Sem.run Try.prog (Instr.makeSlice 22 (.int .i64 (n : Int)) (.int .i64 (n : Int))) W = .ok (.slice (some ⟨W.heap.size, 0, none⟩) n n) (W.alloc (.cells (madeCells #[.int .i64 0] n) 3)) := fun W => make_eq W n (by omega)
  go_cut [8, 9, 10] from 42 to 46 (fun sv gv nv wx => Three w1 n sv gv nv wx)
  case first =>
    go_region
    all_goals
      go_wp2_with fail
      go_meet
      exact three_of (by omega) ((((Below.refl _ _).alloc (Nat.le_refl _) _).alloc (by simp) _).alloc (by simp; omega) _).drew (by first | exact heap3_0 _ _ _ _ | exact heap3_1 _ _ _ _ | exact heap3_2 _ _ _ _) (by first | exact heap3_0 _ _ _ _ | exact heap3_1 _ _ _ _ | exact heap3_2 _ _ _ _) (by first | exact heap3_0 _ _ _ _ | exact heap3_1 _ _ _ _ | exact heap3_2 _ _ _ _) (by omega) (by omega) (by omega) (by omega)
  case rest =>
    have hst := Lib.hid (show T14 w1 gs K n u10 u8 u9 (.int .i64 0) wc from ⟨0, Nat.zero_le _, rfl, Lib.hid (by rw [List.take_zero]; exact hcut.1), Lib.hid (by rw [List.take_zero]; exact hcut.2.1), Lib.hid hcut.2.2.1, Lib.hid hcut.2.2.2.1, hcut.2.2.2.2⟩)
    clear hcut hmk
    obtain ⟨_, _, hfl, hfo, hok, _⟩ := rivB_facts hr
    have hok' := Lib.hid hok
    clear hfl hfo hok
    go_wp2_with fail
    go_loopw [8, 9, 11] (fun sv gv iv wr => T14 w1 gs K n u10 sv gv iv wr) (fun _ _ iv _ => n - (intOf iv).toNat)
    case atStart => exact hst.out
    case round =>
      obtain ⟨i, hi, rfl, hsm, hgr, hdi, hno, hb⟩ := hrel
      obtain ⟨wo, rfl⟩ : ∃ wo : World, wo = wr := ⟨_, rfl⟩
      by_cases hin : i < n
      · have hrv := Lib.hid (hriv'.out.2.1.below hb)
        obtain ⟨g4, o4, rfl, hg4, ro, rc, hc4, hrow4⟩ := hrv.out.at hn'.out.symm hin
        obtain ⟨l, hl⟩ : ∃ l, l = gs.getD i [] := ⟨_, rfl⟩
        rw [← hl] at hc4 hrow4
        have hgl := Lib.hid (show gainB l = true by rw [hl]; exact hok'.out.2 i (by rw [← hn'.out]; exact hin))
        have h20 := (gain_at hgl.out).1
        obtain ⟨r, hrl⟩ : ∃ r, r = l.length := ⟨_, rfl⟩
        rw [← hrl] at hc4 hrow4 h20
        have hl' := Lib.hid hl
        have hrl' := Lib.hid hrl
        have hrow' := Lib.hid hrow4
        have hb' := Lib.hid hb
        have hs0 := hb.size
        have hst2 := Lib.hid (show T14in wo l K (.slice (some ⟨wo.heap.size, 0, none⟩) 0 0) (.slice (some ⟨wo.heap.size + 1, 0, none⟩) 0 0) (.int .i64 0) ((wo.alloc (.cells #[] 3)).alloc (.cells #[] 3)) from by
          refine ⟨0, Nat.zero_le _, rfl, Lib.hid ?_, Lib.hid ?_, Lib.hid (fun k hk e => ?_), (below_alloc1 wo _).alloc (by simp) _⟩
          · rw [List.take_zero]; exact (Ints.lit wo _ (Nat.le_refl _)).alloc _
          · rw [List.take_zero]
            have := Ints.lit (wo.alloc (.cells #[] 3)) wo.heap.size (by simp)
            simpa using this
          · simp only [Value.ownBlock, Option.some.injEq] at hk e; omega)
        clear hl hrl hrow4 hb
        go_wp2_with fail
        go_loopw [12, 13, 14] (fun sv gv jv wr => T14in wo l K sv gv jv wr) (fun _ _ jv _ => r - (intOf jv).toNat)
        case atStart => exact hst2.out
        case round =>
          obtain ⟨j, hj, rfl, hss, hgg, hd, hb⟩ := hrel
          rw [← hrl'.out] at hj
          have c4 := (hb.cell (p := ⟨g4, o4 + i, none⟩) hg4).trans hc4
          by_cases hjr : j < r
          · obtain ⟨g5, o5, rfl, hg5, hc5⟩ := hrow'.out.at hrl'.out.symm hjr
            have c5 := (hb.cell (p := ⟨g5, o5 + j, none⟩) hg5).trans (hc5 j hjr)
            obtain ⟨x0, x1, _⟩ := (gain_at hgl.out).2 j (by rw [← hrl'.out]; exact hjr)
            obtain ⟨X, hX⟩ : ∃ X, X = l.getD j 0 := ⟨_, rfl⟩
            rw [← hX] at c5 x0 x1
            have hX' := Lib.hid hX
            have hst3 := st_two hss.out hgg.out hd.out hb.size
            have e1 := Lib.hid (take_ext (y := X / 4) (show (l.map fun x => x / 4).take j = (l.map fun x => x / 4).take j from rfl) (by rw [List.length_map, ← hrl'.out]; exact hjr) (by rw [map_getD _ _ (by rw [← hrl'.out]; exact hjr), hX'.out]))
            have e2 := Lib.hid (take_ext (y := X / 4 * K) (show (l.map fun x => x / 4 * (K : Int)).take j = (l.map fun x => x / 4 * (K : Int)).take j from rfl) (by rw [List.length_map, ← hrl'.out]; exact hjr) (by rw [map_getD _ _ (by rw [← hrl'.out]; exact hjr), hX'.out]))
            have hP0 : 0 ≤ X / 4 * (K : Int) ∧ X / 4 * (K : Int) ≤ 1000 := by
              have hc : K = 1 ∨ K = 2 ∨ K = 3 ∨ K = 4 := by omega
              rcases hc with rfl | rfl | rfl | rfl <;> omega
            obtain ⟨hP0, hP1⟩ := hP0
            have hwd : IntKind.i64.wrap (X.tdiv 4) = X / 4 := by rw [Int.tdiv_eq_ediv_of_nonneg x0]; exact IntWalk.i64_in _ (by omega)
            have hPw : IntKind.i64.wrap (X / 4 * (K : Int)) = X / 4 * (K : Int) := IntWalk.i64_in _ (by omega)
            have k1 : ((l.map fun x => x / 4).take j).length ≤ 1000000 := by rw [List.length_take]; omega
            have k2 : ((l.map fun x => x / 4 * (K : Int)).take j).length ≤ 1000000 := by rw [List.length_take]; omega
            clear hc5 hX hss hgg hd
            go_wp2_with fail
            go_region_held3 (fun w' => w'.cell? ⟨g4, o4 + i, none⟩ = some (.slice (some ⟨g5, o5, none⟩) r rc) ∧ w'.cell? ⟨g5, o5 + j, none⟩ = some (.int .i64 X)) (first | exact ⟨St.cell (a := ⟨g4, o4 + i, none⟩) hst7 hg4 c4, St.cell (a := ⟨g5, o5 + j, none⟩) hst7 hg5 c5⟩ | go_keep)
              (first
                | (refine step_app_st 0 (y := X / 4) rfl (.tmp 64) (.tmp 73) rfl rfl (by first | exact hst7 | exact hst7.alloc _ | exact (hst3.alloc _).drew | exact ((hst3.alloc _).alloc _).drew) (by rfl) (by rfl) (by rfl) (by simp) (by simpa using k1) ?_; intro v7 w7 hst7)
                | (refine step_app_st 1 (y := X / 4 * K) rfl (.tmp 75) (.tmp 86) rfl rfl (by first | exact hst7 | exact hst7.alloc _ | exact (hst3.alloc _).drew | exact ((hst3.alloc _).alloc _).drew) (by rfl) (by rfl) (by rfl) (by simp) (by simpa using k2) ?_; intro v7 w7 hst7))
            all_goals
              have f1 := hst7.ints 0 rfl
              have f2 := hst7.ints 1 rfl
              have f3 := hst7.dis 0 1 (by omega) rfl rfl
              have f4 := hst7.below
              rw [e1.out] at f1
              rw [e2.out] at f2
              have f1' := Lib.hid f1
              have f2' := Lib.hid f2
              have f3' := Lib.hid f3
              clear f1 f2 f3
              go_wp2_with fail
              go_roundw
              case rel => exact ⟨j + 1, by rw [← hrl'.out]; omega, by go_num, f1', f2', f3', hb.trans f4⟩
              case measure => simp [intOf]; omega
          · obtain rfl : j = r := by omega
            have hs1 := hb.size
            have hfs : (l.map fun x => x / 4).take j = l.map fun x => x / 4 := List.take_of_length_le (by rw [List.length_map, ← hrl'.out]; exact Nat.le_refl _)
            have hfg : (l.map fun x => x / 4 * (K : Int)).take j = l.map fun x => x / 4 * (K : Int) := List.take_of_length_le (by rw [List.length_map, ← hrl'.out]; exact Nat.le_refl _)
            have hss1 := Lib.hid (hss.out.base hs0)
            have hgg1 := Lib.hid (hgg.out.base hs0)
            rw [hfs] at hss1
            rw [hfg] at hgg1
            have hsm1 := Lib.hid (hsm.out.below hb)
            have hgr1 := Lib.hid (hgr.out.below hb)
            have hno1 := Lib.hid (hno.out.below hb)
            have e3 := Lib.hid (show (smallG gs).take i ++ [l.map fun x => x / 4] = (smallG gs).take (i + 1) from small_take (by rw [← hn'.out]; exact hin) hl'.out)
            have e4 := Lib.hid (show (scl K (smallG gs)).take i ++ [l.map fun x => x / 4 * (K : Int)] = (scl K (smallG gs)).take (i + 1) from great_take (by rw [← hn'.out]; exact hin) hl'.out)
            have k1 := Lib.hid (show ((smallG gs).take i).length ≤ 1000000 by rw [List.length_take]; omega)
            have k2 := Lib.hid (show ((scl K (smallG gs)).take i).length ≤ 1000000 by rw [List.length_take]; omega)
            have hbt := Lib.hid (hb'.out.trans (hb.mono hs0))
            have hs2 : w1.heap.size ≤ wr.heap.size := by omega
            obtain ⟨sa, sc, e12, _⟩ := hss1.out.shape
            obtain ⟨ga, gc, e13, _⟩ := hgg1.out.shape
            rw [List.length_map, ← hrl'.out] at e12 e13
            subst e12
            subst e13
            clear hfs hfg hss hgg hd hb
            go_wp2_with (first | (at_builtin; refine app_rowD hsm1.out hss1.out k1.out hs2 rfl _ _ rfl rfl rfl rfl ?_; intro v5 w5 a5 b5 c5 d5; have hs5 : w1.heap.size ≤ w5.heap.size := Nat.le_trans hs2 b5.size; have sm5 := Lib.hid a5; have gg5 := Lib.hid (c5 _ _ hgg1.out); have no5 := Lib.hid (c5 _ _ hno1.out); obtain ⟨p5, q5⟩ := d5 _ _ hgr1.out hdi.out.symm; have gr5 := Lib.hid p5; have di5 := Lib.hid q5; have b5' := Lib.hid b5; clear a5 c5 d5 p5 q5 b5) | (at_builtin; refine app_rowD gr5.out gg5.out k2.out hs5 rfl _ _ rfl rfl rfl rfl ?_; intro v6 w6 a6 b6 c6 d6; have gr6 := Lib.hid a6; have no6 := Lib.hid (c6 _ _ no5.out); obtain ⟨p6, q6⟩ := d6 _ _ sm5.out di5.out.symm; have sm6 := Lib.hid p6; have di6 := Lib.hid q6; have b6' := Lib.hid b6; clear a6 c6 d6 p6 q6 b6))
            go_roundw
            case rel => exact ⟨i + 1, by omega, by go_num, by rw [← e3.out]; exact sm6, by rw [← e4.out]; exact gr6, di6, no6, (hbt.out.trans b5'.out).trans b6'.out⟩
            case measure => simp [intOf]; omega
      · obtain rfl : i = n := by omega
        have e1 : (smallG gs).take i = smallG gs := List.take_of_length_le (by unfold smallG; rw [List.length_map, ← hn'.out]; exact Nat.le_refl _)
        have e2 : (scl K (smallG gs)).take i = scl K (smallG gs) := List.take_of_length_le (by rw [scl_len]; unfold smallG; rw [List.length_map, ← hn'.out]; exact Nat.le_refl _)
        have hns := Lib.hid (show i = (smallG gs).length by unfold smallG; rw [List.length_map]; exact hn'.out)
        have hng2 := Lib.hid (show i = (scl K (smallG gs)).length by rw [scl_len]; exact hns.out)
        have rs := small_riv hr
        have rg := great_riv (k := (K : Int)) (by omega) (by omega) hr
        have rz := zeros_riv (n := i) rg hfn'.out.symm
        have vs := Lib.hid (riv_mk (hriv'.out.1.below hb) (by have := hsm.out; rw [e1] at this; exact this) rs)
        have vg := Lib.hid (riv_mk (hriv'.out.1.below hb) (by have := hgr.out; rw [e2] at this; exact this) rg)
        have vz := Lib.hid (riv_mk (hno.out.shape) (by have := hgr.out; rw [e2] at this; exact this) rz)
        have no := Lib.hid hno.out.shape
        have hbt := Lib.hid (below_call hb1.out hb)
        obtain ⟨s1, s8, sfl, sfo, sok, s30⟩ := rivB_facts rs
        obtain ⟨_, _, gfl, _, gok, _⟩ := rivB_facts rg
        obtain ⟨bu, bw⟩ := best_scl (k := (K : Int)) (by omega) sok gok sfl sfo
        obtain ⟨zu, zw⟩ := best_none gok hng2.out
        have wb := bestW_bd sok fs
        obtain ⟨W1, hW1⟩ : ∃ X, X = bestW fs (smallG gs) := ⟨_, rfl⟩
        obtain ⟨Z1, hZ1⟩ : ∃ X, X = bestW fs (scl K (smallG gs)) := ⟨_, rfl⟩
        rw [← hW1] at wb
        rw [← hW1, ← hZ1] at bw
        have hKW : 0 ≤ (K : Int) * W1 ∧ (K : Int) * W1 ≤ 720000 := mulK_bd hK1 hK4 wb.1 wb.2
        have hwz : IntKind.i64.wrap ((K : Int) * W1) = Z1 := by rw [bw]; exact IntWalk.i64_in _ (by omega)
        have hwz' := Lib.hid hwz
        have hscl := Lib.hid (fun j => shares_scl (k := (K : Int)) (n := i) (by omega) sok gok sfl sfo (by rw [← hns.out]; exact Nat.le_refl _) j)
        have hpcl := Lib.hid (fun j => prices_scl (k := (K : Int)) (n := i) (by omega) sok gok sfl sfo s8 s30 j)
        have hsb := Lib.hid (fun j (hj : j < i) => share_bd (fs := fs) sok (j := j) (by rw [← hns.out]; exact hj))
        have hpb := Lib.hid (fun (fs' : List Int) => bestW_bd sok fs')
        have bu' := Lib.hid bu
        have zu' := Lib.hid zu
        have zw' := Lib.hid zw
        have hW1' := Lib.hid hW1
        have hZ1' := Lib.hid hZ1
        have hbl := Lib.hid (show (bestU fs (smallG gs)).length ≤ 1000000 by rw [(bestU_ok sfl).1, ← hns.out]; omega)
        clear e1 e2 sok gok sfl gfl sfo s30 bu zu zw bw hW1 hZ1 hsm hgr hno hb hwz hdi s1 s8 wb hKW
        go_wp2_with fail
        refine (best22' vs.out rs hns.out).mono ?_
        rw [← hW1'.out]
        rintro e w2 ⟨xo, xc, rfl, hx2, b2⟩
        have x2 := Lib.hid hx2
        have b2' := Lib.hid b2
        clear hx2 b2
        go_wp2_with fail
        refine (best22' (vg.out.below b2'.out) rg hng2.out).mono ?_
        rw [← hZ1'.out]
        rintro e w3 ⟨yo, yc, rfl, hy3, b3⟩
        have y3 := Lib.hid hy3
        have x3 := Lib.hid (x2.out.below b3)
        have b3' := Lib.hid (below_call b2'.out b3)
        clear hy3 b3
        go_wp2_with fail
        refine (shares30' (vs.out.below b3'.out) rs hns.out).mono ?_
        rintro e w4 ⟨so, sc, rfl, hs4, b4⟩
        have s4 := Lib.hid hs4
        have xy4 := Lib.hid (And.intro (x3.out.below b4) (y3.out.below b4))
        have b4' := Lib.hid (below_call b3'.out b4)
        clear hs4 b4
        go_wp2_with fail
        refine (shares30' (vg.out.below b4'.out) rg hng2.out).mono ?_
        rintro e w5 ⟨tto, ttc, rfl, ht5, b5⟩
        have t5 := Lib.hid ht5
        have xy5 := Lib.hid (And.intro (xy4.out.1.below b5) (xy4.out.2.below b5))
        have s5 := Lib.hid (s4.out.below b5)
        have b5' := Lib.hid (below_call b4'.out b5)
        clear ht5 b5
        go_wp2_with fail
        refine (prices31' (vs.out.below b5'.out) rs hns.out).mono ?_
        rintro e w6 ⟨po, pc, rfl, hp6, b6⟩
        have p6 := Lib.hid hp6
        have xy6 := Lib.hid (And.intro (xy5.out.1.below b6) (xy5.out.2.below b6))
        have st6 := Lib.hid (And.intro (s5.out.below b6) (t5.out.below b6))
        have b6' := Lib.hid (below_call b5'.out b6)
        clear hp6 b6
        go_wp2_with fail
        refine (prices31' (vg.out.below b6'.out) rg hng2.out).mono ?_
        rintro e w7 ⟨qo, qc, rfl, hq7, b7⟩
        have q7 := Lib.hid hq7
        have p7 := Lib.hid (p6.out.below b7)
        have xy7 := Lib.hid (And.intro (xy6.out.1.below b7) (xy6.out.2.below b7))
        have st7 := Lib.hid (And.intro (st6.out.1.below b7) (st6.out.2.below b7))
        have b7' := Lib.hid (below_call b6'.out b7)
        clear hq7 b7
        go_wp2_with fail
        refine (best22' (vz.out.below b7'.out) rz hng2.out).mono ?_
        rw [zu'.out, zw'.out]
        rintro e w8 ⟨oo, oc, rfl, ho8, b8⟩
        have o8 := Lib.hid ho8
        have xy8 := Lib.hid (And.intro (xy7.out.1.below b8) (xy7.out.2.below b8))
        have st8 := Lib.hid (And.intro (st7.out.1.below b8) (st7.out.2.below b8))
        have pq8 := Lib.hid (And.intro (p7.out.below b8) (q7.out.below b8))
        have b8' := Lib.hid (below_call b7'.out b8)
        have no8 := Lib.hid (no.out.below b8'.out)
        clear ho8 b8
        go_wp2_with fail
        refine (same24 o8.out no8.out (by simp; omega)).mono ?_
        rw [sameL_self]
        rintro e w9 ⟨rfl, b9⟩
        have xy9 := Lib.hid (And.intro (xy8.out.1.below b9) (xy8.out.2.below b9))
        have st9 := Lib.hid (And.intro (st8.out.1.below b9) (st8.out.2.below b9))
        have pq9 := Lib.hid (And.intro (pq8.out.1.below b9) (pq8.out.2.below b9))
        have b9' := Lib.hid (below_call b8'.out b9)
        clear b9
        go_wp2_with fail
        refine (same24 xy9.out.1 xy9.out.2 hbl.out).mono ?_
        rw [bu'.out, sameL_self]
        rintro e w10 ⟨rfl, b10⟩
        have st10 := Lib.hid (And.intro (st9.out.1.below b10) (st9.out.2.below b10))
        have pq10 := Lib.hid (And.intro (pq9.out.1.below b10) (pq9.out.2.below b10))
        have b10' := Lib.hid (below_call b9'.out b10)
        clear b10
        have hzz : (Z1 != Z1) = false := by simp
        have hwz : IntKind.i64.wrap ((K : Int) * W1) = Z1 := hwz'.out
        have hwz2 : wrap64 ((K : Int) * W1) = Z1 := by have h := hwz'.out; rw [IntKind.wrap_i64] at h; unfold wrap64; exact h
        go_wp2_with fail
        refine (lives20 w10).mono ?_
        rintro e w11 ⟨rfl, b11⟩
        have st11 := Lib.hid (And.intro (st10.out.1.below b11) (st10.out.2.below b11))
        have pq11 := Lib.hid (And.intro (pq10.out.1.below b11) (pq10.out.2.below b11))
        have b11' := Lib.hid (below_call b10'.out b11)
        clear b11 hwz hwz2
        go_wp2_with fail
        go_loopw [32] (fun jv wr => ∃ j : Nat, j ≤ i ∧ jv = .int .i64 (j : Int) ∧ Below w11.heap.size w11 wr) (fun jv _ => i - (intOf jv).toNat)
        case atStart => exact ⟨0, Nat.zero_le _, rfl, Below.refl _ _⟩
        case round =>
          obtain ⟨j, hj, rfl, hb⟩ := hrel
          by_cases hji : j < i
          · obtain ⟨g1, o1, rfl, hg1, hc1⟩ := st11.out.1.at (by rw [sharesK_len]) hji
            obtain ⟨g2, o2, rfl, hg2, hc2⟩ := st11.out.2.at (by rw [sharesK_len]) hji
            obtain ⟨g3, o3, rfl, hg3, hc3⟩ := pq11.out.1.at (by rw [pricesK_len]) hji
            obtain ⟨g4, o4, rfl, hg4, hc4⟩ := pq11.out.2.at (by rw [pricesK_len]) hji
            have c1 := (hb.cell (p := ⟨g1, o1 + j, none⟩) hg1).trans (hc1 j hji)
            have c2 := (hb.cell (p := ⟨g2, o2 + j, none⟩) hg2).trans (hc2 j hji)
            have c3 := (hb.cell (p := ⟨g3, o3 + j, none⟩) hg3).trans (hc3 j hji)
            have c4 := (hb.cell (p := ⟨g4, o4 + j, none⟩) hg4).trans (hc4 j hji)
            rw [hscl.out j] at c2
            rw [hpcl.out j] at c4
            have hs1 := hsb.out j hji
            rw [← shares_at fs (smallG gs) i j hji] at hs1
            have hp1 : -180000 ≤ (pricesK fs (smallG gs) i).getD j 0 ∧ (pricesK fs (smallG gs) i).getD j 0 ≤ 180000 := by
              have y1 := hpb.out (grow1 fs j)
              have y2 := hpb.out fs
              rw [pricesK_at _ _ _ _ hji]
              omega
            obtain ⟨S1, hS1⟩ : ∃ X, X = (sharesK fs (smallG gs) i).getD j 0 := ⟨_, rfl⟩
            obtain ⟨P1, hP1⟩ : ∃ X, X = (pricesK fs (smallG gs) i).getD j 0 := ⟨_, rfl⟩
            rw [← hS1] at c1 c2 hs1
            rw [← hP1] at c3 c4 hp1
            obtain ⟨S2, hS2⟩ : ∃ X, X = (K : Int) * S1 := ⟨_, rfl⟩
            obtain ⟨P2, hP2⟩ : ∃ X, X = (K : Int) * P1 := ⟨_, rfl⟩
            rw [← hS2] at c2
            rw [← hP2] at c4
            have hm1 : IntKind.i64.wrap ((K : Int) * S1) = S2 := by rw [hS2]; exact IntWalk.i64_in _ (by have := mulK_bd2 hK1 hK4 hs1.1 hs1.2; omega)
            have hm2 : IntKind.i64.wrap ((K : Int) * P1) = P2 := by rw [hP2]; exact IntWalk.i64_in _ (by have := mulK_bd2 hK1 hK4 hp1.1 hp1.2; omega)
            have n1 : (S2 != S2) = false := by simp
            have n2 : (P2 != P2) = false := by simp
            have hb' := Lib.hid hb
            clear hc1 hc2 hc3 hc4 hS1 hP1 hS2 hP2 hs1 hp1 hb
            go_wp2_with fail
            go_quiet (fail)
            go_wp2_with fail
            go_roundw
            case rel => exact ⟨j + 1, by omega, by go_num, below_drewN hb'.out _⟩
            case measure => simp [intOf]; omega
          · go_wp2_with fail
            go_ret
            exact ⟨rfl, below_call (below_call hbt.out b11'.out) hb⟩
end Go.Proofs.Ytccmabckmpelcaa
