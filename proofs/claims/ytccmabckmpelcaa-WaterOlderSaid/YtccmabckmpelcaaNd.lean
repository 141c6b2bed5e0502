import Derived.Test.YtccmabckmpelcaaNc
import Derived.Test.YtccmabckmpelcaaGc
import Derived.Test.YtccmabckmpelcaaNe
namespace Go.Proofs.Ytccmabckmpelcaa
open Go.RowKit

/-- The tables of the places from `i1` on are there. -/
def TabRel (T : Nat) (fs : List Int) (gs : List (List Int)) (k g : Nat) (w : World) (iv : Value) (wr : World) : Prop :=
  ∃ (i1 : Nat) (vs : List Value), i1 ≤ k ∧ iv = .int .i64 ((i1 : Int) - 1) ∧ RowV wr g g (k + 1) vs ∧ Hid (∀ j, i1 ≤ j → j ≤ k → ReadsN wr.heap.size g wr (vs.getD j undef) (tblL T fs gs j)) ∧ Hid (∀ j, j < i1 → vs.getD j undef = .slice none 0 0) ∧ Below g w wr
/-- The table of place `i` grows. -/
def TabIn (T : Nat) (fs : List Int) (gs : List (List Int)) (k g i B : Nat) (w : World) (qv : Value) (wr : World) : Prop :=
  ∃ (q : Nat) (vs : List Value) (os : List Int), q ≤ T + 1 ∧ qv = .int .i64 (q : Int) ∧ RowV wr g g (k + 1) vs ∧ Hid (Ints wr B (vs.getD i undef) os) ∧ Hid (os = (tblL T fs gs i).take q) ∧ Hid (∀ j, i < j → j ≤ k → ReadsN B g wr (vs.getD j undef) (tblL T fs gs j)) ∧ Hid (∀ j, j < i → vs.getD j undef = .slice none 0 0) ∧ B ≤ wr.heap.size ∧ Below g w wr
theorem getD_set (vs : List Value) (i j : Nat) (y : Value) (h : i < vs.length) : (vs.set i y).getD j undef = if i = j then y else vs.getD j undef := by
  rw [List.getD_eq_getElem?_getD, List.getElem?_set]
  by_cases e : i = j
  · subst e; simp [h]
  · simp [e, List.getD_eq_getElem?_getD]

theorem ints_set_other {w : World} {B g i : Nat} {v u : Value} {xs : List Int} (h : Ints w B v xs) (hg : g < B) : Ints (w.setCell ⟨g, i, none⟩ u) B v xs := by
  refine ⟨h.1, ?_⟩
  rcases h.2 with hn | ⟨b, cap, cur, rfl, hB, hb, rest⟩
  · exact .inl hn
  · exact .inr ⟨b, cap, cur, rfl, hB, by rw [heap_setCell_other w ⟨g, i, none⟩ b _ (by show b ≠ g; omega)]; exact hb, rest⟩
theorem rowv_keep {w w' : World} {B C g n : Nat} {vs : List Value} (h : RowV w B g n vs) (hb : Below C w w') (hg : g < C) : RowV w' B g n vs := by
  refine ⟨⟨h.1.1, ?_⟩, h.2⟩
  rcases h.1.2 with hn | ⟨b, cap, cur, e, hB, hb', rest⟩
  · exact .inl hn
  · have e2 : g = b := by simp only [Value.slice.injEq, Option.some.injEq, Addr.mk.injEq, and_true, true_and] at e; exact e.1
    subst e2
    exact .inr ⟨g, cap, cur, e, hB, by rw [hb.block g hg]; exact hb', rest⟩
theorem TabIn.next {T : Nat} {fs : List Int} {gs : List (List Int)} {k g i B q : Nat} {w wr w5 : World} {vs : List Value} {os : List Int} {Y : Int} {v5 : Value} (hrow : RowV wr g g (k + 1) vs) (hi : i ≤ k) (hos : os = (tblL T fs gs i).take q) (hq : q ≤ T) (hY : Y = (tblL T fs gs i).getD q 0)
    (hrd : ∀ j, i < j → j ≤ k → ReadsN B g wr (vs.getD j undef) (tblL T fs gs j)) (hnil : ∀ j, j < i → vs.getD j undef = .slice none 0 0) (hB : B ≤ wr.heap.size) (hgB : g < B) (hb : Below g w wr) (hb5 : Below B wr w5) (hown : Ints w5 B v5 (os ++ [Y])) :
    TabIn T fs gs k g i B w (.int .i64 ((q + 1 : Nat) : Int)) (w5.setCell ⟨g, i, none⟩ v5) := by
  have hrow5 := (rowv_keep hrow hb5 hgB).set i v5
  have hlen : i < vs.length := by rw [hrow.2]; omega
  refine ⟨q + 1, vs.set i v5, os ++ [Y], by omega, rfl, hrow5, Lib.hid ?_, Lib.hid ?_, Lib.hid (fun j h1 h2 => ?_), Lib.hid (fun j hj => ?_), ?_, ?_⟩
  · rw [getD_set _ _ _ _ hlen, if_pos rfl]; exact ints_set_other hown hgB
  · exact take_ext hos (by unfold tblL; rw [tbl_len]; omega) hY
  · rw [getD_set _ _ _ _ hlen, if_neg (by omega)]; exact ((hrd j h1 h2).below hb5).set
  · rw [getD_set _ _ _ _ hlen, if_neg (by omega)]; exact hnil j hj
  · have := hb5.size; simp; omega
  · exact below_set (hb.trans (hb5.mono (by omega))) (Nat.le_refl _)

/-- The use is found place by place. -/
def UseRel (T : Nat) (fs : List Int) (gs : List (List Int)) (k : Nat) (wt : World) (uv lv iv : Value) (wr : World) : Prop :=
  ∃ (i left : Nat) (us : List Int), i ≤ k ∧ iv = .int .i64 (i : Int) ∧ lv = .int .i64 (left : Int) ∧ Ints wr wt.heap.size uv us ∧ Hid (us.length = i) ∧ Hid (U fs gs 0 = us ++ U (fs.drop i) (gs.drop i) left) ∧ Hid ((left : Int) + (fs.drop i).sum ≤ T) ∧ left ≤ T ∧ Below wt.heap.size wt wr

set_option maxHeartbeats 40000000 in
set_option maxRecDepth 100000 in
theorem best23 {w : World} {u v : Value} {fs : List Int} {gs : List (List Int)} {n : Nat} (hu : Reads w u fs) (hv : ReadsG w v gs) (hn : n = fs.length) (hng : n = gs.length) (h1 : 1 ≤ n) (hfo : FlowOk fs) (hok : GOk gs) :
    Calls Try.prog 23 #[u, v] w fun e w' => ∃ xo xc, e = .returned (.tuple #[.slice xo n xc, .int .i64 (V fs gs 0)]) ∧ Reads w' (.slice xo n xc) (U fs gs 0) ∧ Below w.heap.size w w' := by
  have hu' := Lib.hid hu
  have hv' := Lib.hid hv
  obtain ⟨uo, uc, rfl, _, _⟩ := hu
  obtain ⟨vo, vc, rfl, _, _⟩ := hv
  rw [← hn] at hu' ⊢
  rw [← hng] at hv' ⊢
  have h9 : n ≤ 9 := by rw [hn]; exact hfo.1
  have hn' := Lib.hid hn
  have hng' := Lib.hid hng
  have hfo' := Lib.hid hfo
  have hok' := Lib.hid hok
  have hsum := Lib.hid (sum_take_bd hfo)
  clear hn hng hfo hok
  go_enter Try.func23, Try.ntmps23
  go_wp2_with fail
  go_loop [6, 7] (fun t i => ∃ k : Nat, k ≤ n ∧ i = .int .i64 k ∧ t = .int .i64 (fs.take k).sum) (fun _ i => n - (intOf i).toNat)
  case atStart => exact ⟨0, Nat.zero_le _, rfl, rfl⟩
  case round =>
    obtain ⟨k, hk, rfl, rfl⟩ := hrel
    obtain ⟨hs0, hs1⟩ := hsum.out k (by rw [← hn'.out]; exact hk)
    by_cases hlt : k < n
    · obtain ⟨g1, o1, rfl, hg1, hc1⟩ := hu'.out.at hn'.out.symm hlt
      have c1 := hc1 k hlt
      obtain ⟨f0, f1⟩ := hfo'.out.2 k (by rw [← hn'.out]; exact hlt)
      have hsn := Lib.hid (show (fs.take (k + 1)).sum = (fs.take k).sum + fs.getD k 0 by rw [take_snocN _ _ (by rw [← hn'.out]; exact hlt), List.sum_append]; simp)
      obtain ⟨F, hF⟩ : ∃ F, F = fs.getD k 0 := ⟨_, rfl⟩
      rw [← hF] at c1 f0 f1 hsn
      obtain ⟨A, hA⟩ : ∃ A, A = (fs.take k).sum := ⟨_, rfl⟩
      rw [← hA] at hsn hs0 hs1 ⊢
      clear hc1 hF hA
      go_wp2_with fail
      go_round
      case rel => exact ⟨k + 1, by omega, by go_num, by rw [hsn.out]⟩
      case measure => simp [intOf]; omega
    · obtain rfl : k = n := by omega
      obtain ⟨T, hT⟩ : ∃ T : Nat, (T : Int) = (fs.take k).sum := ⟨((fs.take k).sum).toNat, by omega⟩
      rw [← hT] at hs0 hs1 ⊢
      have hT' := Lib.hid hT
      clear hT
      go_wp2_with (first | (at_make; refine make_rowv (k + 1) (by omega) (Nat.le_refl _) rfl _ _ rfl (by rfl) (by rfl) ?_; intro w3 hr3 hb3) | (at_make; refine make_row (T + 1) (by omega) (Nat.le_refl _) rfl _ _ rfl (by rfl) (by rfl) ?_; intro w4 hr4 hb4; have hrow4 := Lib.hid (hr3.below hb4); have cg := hrow4.out.cell (j := k) (by omega); have fg := hrow4.out.frozen k))
      have hs3 := hb3.size
      obtain ⟨g, hgq⟩ : ∃ g, g = w.heap.size := ⟨_, rfl⟩
      obtain ⟨g4, hg4⟩ : ∃ g4, g4 = w3.heap.size := ⟨_, rfl⟩
      have hlt3 := hr3.lt
      rw [← hgq] at hrow4 cg fg hlt3 ⊢
      rw [← hg4] at hr4 ⊢
      obtain ⟨w5, hw5⟩ : ∃ w5, w5 = w4.setCell ⟨g, k, none⟩ (.slice (some ⟨g4, 0, none⟩) (T + 1) (T + 1)) := ⟨_, rfl⟩
      have hb5 := Lib.hid (show Below g w w5 by rw [hw5]; rw [← hgq] at hb3; exact below_set (hb3.trans (hb4.mono (by omega))) (Nat.le_refl _))
      have hrow5 := hrow4.out.set k (.slice (some ⟨g4, 0, none⟩) (T + 1) (T + 1))
      rw [← hw5] at hrow5 ⊢
      have hg45 : g4 ≠ g := by omega
      have hg4s : g4 < w5.heap.size := by rw [hw5]; have := hr4.lt; simp; omega
      have htk : ReadsN w5.heap.size g w5 (.slice (some ⟨g4, 0, none⟩) (T + 1) (T + 1)) (tblL T fs gs k) := by
        have e1 : (tblL T fs gs k).length = T + 1 := by unfold tblL; rw [tbl_len]
        refine ⟨g4, T + 1, by rw [e1], by rw [e1]; exact Nat.le_refl _, hg4s, hg45, hg4s, fun j hj => ?_⟩
        rw [hw5, World.cell?_setCell_other _ _ _ _ (by intro e; simp only [Addr.mk.injEq] at e; omega), hr4.cell (by omega), tblL_end hn'.out]
      have hst := Lib.hid (show TabRel T fs gs k g w (.int .i64 ((k : Int) - 1)) w5 from ⟨k, _, Nat.le_refl _, rfl, hrow5, Lib.hid (fun j h1 h2 => by
        obtain rfl : j = k := by omega
        rw [getD_set _ _ _ _ (by simp), if_pos rfl]; exact htk), Lib.hid (fun j hj => by
        rw [getD_set _ _ _ _ (by simp), if_neg (by omega)]; simp [List.getD_eq_getElem?_getD, show j < k + 1 by omega]), hb5.out⟩)
      have hgw := Lib.hid hgq
      clear hw5 hrow5 hr4 hr3 hb3 hb4 cg fg hrow4 hg45 hg4s htk hlt3 hs3 hgq hg4
      go_loopw [9] (fun iv wr => TabRel T fs gs k g w iv wr) (fun iv _ => (intOf iv + 1).toNat)
      case atStart => exact hst.out
      case round =>
        obtain ⟨i1, vs, hi1, rfl, hrow, hrd, hnil, hb⟩ := hrel
        by_cases hi0 : 0 < i1
        · obtain ⟨i, rfl⟩ : ∃ i, i1 = i + 1 := ⟨i1 - 1, by omega⟩
          have ei : (((i + 1 : Nat) : Int) - 1) = (i : Int) := by omega
          rw [ei]
          clear ei
          obtain ⟨wo, rfl⟩ : ∃ wo : World, wo = wr := ⟨_, rfl⟩
          have hst2 := Lib.hid (show TabIn T fs gs k g i wo.heap.size w (.int .i64 0) wo from ⟨0, vs, [], Nat.zero_le _, rfl, hrow, Lib.hid (by rw [hnil.out i (by omega)]; exact Ints.nil _ _), Lib.hid (by simp), Lib.hid (fun j h1 h2 => hrd.out j (by omega) h2), Lib.hid (fun j hj => hnil.out j (by omega)), Nat.le_refl _, hb⟩)
          have hgo := hrow.lt.2
          clear hrow hb
          go_wp2_with fail
          go_loopw [10] (fun qv wr => TabIn T fs gs k g i wo.heap.size w qv wr) (fun qv _ => (T + 1) - (intOf qv).toNat)
          case atStart => exact hst2.out
          case round =>
            obtain ⟨q, vs2, os, hq, rfl, hrow, hown, hos, hrd2, hnil2, hBr, hb⟩ := hrel
            by_cases hqT : q ≤ T
            · obtain ⟨b1, cc1, hu1, hl1, hb1, hb1g, hb1s, hcell1⟩ := hrd2.out (i + 1) (by omega) (by omega)
              have hlen1 : (tblL T fs gs (i + 1)).length = T + 1 := by unfold tblL; rw [tbl_len]
              have hrdv := Lib.hid (hrd2.out (i + 1) (by omega) (by omega)).reads
              rw [hu1, hlen1] at hrdv
              rw [hlen1] at hu1
              have cgi := hrow.cell (j := i) (by omega)
              have cgi1 := hrow.cell (j := i + 1) (by omega)
              rw [hu1] at cgi1
              have fgi := hrow.frozen i
              obtain ⟨vv, hvv⟩ : ∃ vv, vv = vs2.getD i undef := ⟨_, rfl⟩
              rw [← hvv] at cgi hown
              have hbw := Lib.hid (show Below w.heap.size w wr by rw [← hgw.out]; exact hb)
              have hcall := Lib.hid (show ∀ W, Below wr.heap.size wr W → Calls Try.prog 45 #[.slice uo k uc, .slice vo k vc, .int .i64 (i : Int), .int .i64 (q : Int), .slice (some ⟨b1, 0, none⟩) (T + 1) cc1] W (fun e w' => e = .returned (.int .i64 ((tblL T fs gs i).getD q 0)) ∧ ∃ p, w' = W.drewN p) from fun W hW => by
                obtain ⟨f0, f1⟩ := hfo'.out.2 i (by rw [← hn'.out]; omega)
                rw [tblL_next (by rw [← hn'.out]; omega) (by rw [← hng'.out]; omega) q hqT]
                exact most45 (hu'.out.below (below_call hbw.out hW)) (hv'.out.below (below_call hbw.out hW)) (hrdv.out.below hW) hn'.out hng'.out rfl hlen1 (by omega) i q (by omega) hqT f0 f1 (hok'.out.2 i (by rw [← hng'.out]; omega)) (fun j => tblL_bd hok'.out (i + 1) j))
              obtain ⟨Y, hY⟩ : ∃ Y, Y = (tblL T fs gs i).getD q 0 := ⟨_, rfl⟩
              rw [← hY] at hcall
              have hos1 : os.length ≤ T + 1 := by rw [hos.out, List.length_take]; omega
              have hgr : g < wr.heap.size := by omega
              have hrow' := Lib.hid hrow
              have hvv' := Lib.hid hvv
              have hY' := Lib.hid hY
              have hu1' := Lib.hid hu1
              have hlen1' := Lib.hid hlen1
              clear hrow hcell1 hu1 hlen1 hvv hY
              have xi : IntKind.i64.wrap ((i : Int) + 1) = (i : Int) + 1 := IntWalk.i64_in _ (by omega)
              have x0 : (0 : Int) ≤ (i : Int) := by omega
              have x1 : i ≤ k := by omega
              have x2 : i < k := by omega
              have x5 : (i : Int) ≤ (k : Int) := by omega
              have x6 : (i : Int) < (k : Int) := by omega
              have x7 : (i : Int) < (k : Int) + 1 := by omega
              have x8 : (i : Int) + 1 < (k : Int) + 1 := by omega
              have x3 : (0 : Int) ≤ (i : Int) + 1 := by omega
              have x4 : ((i : Int) + 1).toNat = i + 1 := by omega
              go_wp2_with fail
              go_region_law
                (first
                  | (refine step_app_int (y := Y) rfl (.tmp 55) (.tmp 66) rfl ⟨wr.heap.size, 0, none⟩ (by rfl) (by rfl) (by show ((wr.drewN (1 + p)).alloc (.cells #[.int .i64 Y] 3)).cell? ⟨(wr.drewN (1 + p)).heap.size, 0, none⟩ = _; rw [World.cell?_alloc_at (hn := rfl)]; rfl) (hown.out.below ((below_drewN (Below.refl _ _) _).alloc (Nat.le_refl _) _)) (by omega) (by simp; omega) ?_; intro v5 w5 hown5 hb5; obtain ⟨a5, c5, rfl, _, _⟩ := id hown5.shape; have ck1 : w5.cell? ⟨g, i, none⟩ = some vv := (hb5.cell (p := ⟨g, i, none⟩) hgo).trans ((((below_drewN (Below.refl wr.heap.size wr) _).alloc (Nat.le_refl _) _).cell (p := ⟨g, i, none⟩) hgr).trans cgi); have ck2 : w5.cell? ⟨g, i + 1, none⟩ = some (.slice (some ⟨b1, 0, none⟩) (T + 1) cc1) := (hb5.cell (p := ⟨g, i + 1, none⟩) hgo).trans ((((below_drewN (Below.refl wr.heap.size wr) _).alloc (Nat.le_refl _) _).cell (p := ⟨g, i + 1, none⟩) hgr).trans cgi1); have ck3 : w5.frozen? ⟨g, i, none⟩ = false := (hb5.frozen (p := ⟨g, i, none⟩) hgo).trans ((((below_drewN (Below.refl wr.heap.size wr) _).alloc (Nat.le_refl _) _).frozen (p := ⟨g, i, none⟩) hgr).trans fgi))
                  | (go_simp; go_at_call 45; refine (hcall.out _ ?_).mono ?_; (first | exact Below.refl _ _ | exact (Below.refl _ _).drew); rintro e w7 ⟨rfl, p, rfl⟩; have ck0 : ((wr.drewN (1 + p)).alloc (.cells #[.int .i64 Y] 3)).cell? ⟨g, i, none⟩ = some vv := (((below_drewN (Below.refl wr.heap.size wr) _).alloc (Nat.le_refl _) _).cell (p := ⟨g, i, none⟩) hgr).trans cgi))
              all_goals
                have e5 : (os ++ [Y]).length = os.length + 1 := by simp
                rw [e5] at hown5
                have hnx := Lib.hid (TabIn.next (w := w) hrow'.out x1 hos.out hqT hY'.out hrd2.out hnil2.out hBr hgo hb (((below_drewN (Below.refl wo.heap.size wr) _).alloc hBr _).trans hb5) hown5)
                clear e5
                go_wp2_with fail
                go_roundw
                case rel => exact hnx.out
                case measure => simp [intOf]; omega
            · obtain rfl : q = T + 1 := by omega
              have hlen1 : (tblL T fs gs i).length = T + 1 := by unfold tblL; rw [tbl_len]
              have hos' := Lib.hid (show os = tblL T fs gs i by rw [hos.out]; exact List.take_of_length_le (by omega))
              have hnx := Lib.hid (show TabRel T fs gs k g w (.int .i64 ((i : Int) - 1)) wr from ⟨i, vs2, by omega, rfl, hrow, Lib.hid (fun j h1 h2 => by
                by_cases e : j = i
                · subst e
                  have h3 := hown.out.readsN hgo (by intro e; rw [hos'.out] at e; rw [e] at hlen1; simp at hlen1)
                  rw [hos'.out] at h3
                  exact h3
                · exact (hrd2.out j (by omega) h2).base hBr), hnil2, hb⟩)
              have x0 : (0 : Int) ≤ (i : Int) := by omega
              clear hrow hlen1 hb
              go_wp2_with fail
              go_roundw
              case rel => exact hnx.out
              case measure => simp [intOf]
        · obtain rfl : i1 = 0 := by omega
          rw [show (((0 : Nat) : Int) - 1) = -1 from rfl]
          obtain ⟨wo, rfl⟩ : ∃ wo : World, wo = wr := ⟨_, rfl⟩
          have hbw := Lib.hid (show Below w.heap.size w wo by rw [← hgw.out]; exact hb)
          have hrow' := Lib.hid hrow
          have hgo := hrow.lt.2
          have hst2 := Lib.hid (show UseRel T fs gs k wo (.slice (some ⟨wo.heap.size, 0, none⟩) 0 0) (.int .i64 0) (.int .i64 0) (wo.alloc (.cells #[] 3)) from ⟨0, 0, [], Nat.zero_le _, rfl, rfl, Ints.lit _ _ (Nat.le_refl _), Lib.hid rfl, Lib.hid rfl, Lib.hid (by
            have h1 := hT'.out
            rw [show fs.take k = fs from List.take_of_length_le (by rw [← hn'.out]; exact Nat.le_refl _)] at h1
            rw [List.drop_zero, ← h1]; simp), Nat.zero_le _, below_alloc1 _ _⟩)
          clear hrow hb hnil
          go_wp2_with fail
          go_loopw [11, 12, 13] (fun uv lv iv wr => UseRel T fs gs k wo uv lv iv wr) (fun _ _ iv _ => k - (intOf iv).toNat)
          case atStart => exact hst2.out
          case round =>
            obtain ⟨i, left, us, hi, rfl, rfl, hus, hul, hU, hs, hlT, hb⟩ := hrel
            by_cases hik : i < k
            · obtain ⟨X, hX1, hX2, hX3, hX4, hX5, hX6⟩ := use_facts hn'.out hng'.out hfo'.out hik hs.out
              obtain ⟨f0, f1⟩ := hfo'.out.2 i (by rw [← hn'.out]; exact hik)
              have hX3' := Lib.hid hX3
              have hX5' := Lib.hid hX5
              have hX6' := Lib.hid hX6
              clear hX3 hX5 hX6
              have hus' := Lib.hid hus
              clear hus
              obtain ⟨wp, rfl⟩ : ∃ wp : World, wp = wr := ⟨_, rfl⟩
              go_wp2_with fail
              go_loopw [11, 12, 14] (fun uv lv xv wr => ∃ x : Nat, x ≤ X ∧ uv = u11 ∧ lv = .int .i64 (left : Int) ∧ xv = .int .i64 (x : Int) ∧ Below wp.heap.size wp wr) (fun _ _ xv _ => X - (intOf xv).toNat)
              case atStart => exact ⟨0, Nat.zero_le _, rfl, rfl, rfl, Below.refl _ _⟩
              case round =>
                obtain ⟨x, hx, rfl, rfl, rfl, hb2⟩ := hrel
                have hbt := Lib.hid (hb.trans (hb2.mono hb.size))
                have hbx := Lib.hid (below_call hbw.out hbt.out)
                obtain ⟨g1, o1, rfl, hg1, hc1⟩ := hu'.out.at hn'.out.symm hik
                have c1 := (hbx.out.cell (p := ⟨g1, o1 + i, none⟩) hg1).trans (hc1 i hik)
                obtain ⟨g2, o2, rfl, hg2, ro, rc, hc2, hrow2⟩ := hv'.out.at hng'.out.symm hik
                have c2 := (hbx.out.cell (p := ⟨g2, o2 + i, none⟩) hg2).trans hc2
                have hrow2' := Lib.hid (hrow2.below hbx.out)
                have hlen0 : (tblL T fs gs i).length = T + 1 := by unfold tblL; rw [tbl_len]
                have hlen1 : (tblL T fs gs (i + 1)).length = T + 1 := by unfold tblL; rw [tbl_len]
                obtain ⟨b0, cc0, hu0, hl0, hb0, hb0g, hb0s, hcell0⟩ := hrd.out i (Nat.zero_le _) (by omega)
                obtain ⟨b1, cc1, hu1, hl1, hb1, hb1g, hb1s, hcell1⟩ := hrd.out (i + 1) (Nat.zero_le _) (by omega)
                have t0 := (hbt.out.cell (p := ⟨g, i, none⟩) hgo).trans (hrow'.out.cell (j := i) (by omega))
                have t1 := (hbt.out.cell (p := ⟨g, i + 1, none⟩) hgo).trans (hrow'.out.cell (j := i + 1) (by omega))
                rw [hu0, hlen0] at t0
                rw [hu1, hlen1] at t1
                obtain ⟨F, hF⟩ : ∃ F : Nat, (F : Int) = fs.getD i 0 := ⟨(fs.getD i 0).toNat, by omega⟩
                rw [← hF] at c1 f0 f1 hX2 hX4 hX6'
                have z0 := (hbt.out.cell (p := ⟨b0, left, none⟩) hb0).trans (hcell0 left (by omega))
                have z1 := (hbt.out.cell (p := ⟨b1, left + F - x, none⟩) hb1).trans (hcell1 (left + F - x) (by omega))
                have heq := hX6'.out x hx
                rw [show ((left : Int) + (F : Int) - (x : Int)).toNat = left + F - x by omega] at heq
                have y0 := (tblL_bd (T := T) (fs := fs) hok'.out i left)
                have y1 := (tblL_bd (T := T) (fs := fs) hok'.out (i + 1) (left + F - x))
                have y2 := gainTo_bd (hok'.out.2 i (by rw [← hng'.out]; exact hik)) x
                obtain ⟨l, hl⟩ : ∃ l, l = gs.getD i [] := ⟨_, rfl⟩
                obtain ⟨r, hr⟩ : ∃ r, r = l.length := ⟨_, rfl⟩
                rw [← hl] at c2 hrow2' heq hX1 y2
                rw [← hr] at c2 hrow2' hX1
                obtain ⟨G, hG⟩ : ∃ G, G = gainTo l x := ⟨_, rfl⟩
                obtain ⟨Y, hY⟩ : ∃ Y, Y = (tblL T fs gs (i + 1)).getD (left + F - x) 0 := ⟨_, rfl⟩
                obtain ⟨Z, hZ⟩ : ∃ Z, Z = (tblL T fs gs i).getD left 0 := ⟨_, rfl⟩
                rw [← hG, ← hY, ← hZ] at heq
                rw [← hZ] at z0 y0
                rw [← hY] at z1 y1
                rw [← hG] at y2
                obtain ⟨y00, y01⟩ := y0
                obtain ⟨y10, y11⟩ := y1
                obtain ⟨y20, y21⟩ := y2
                obtain ⟨c, hc⟩ : ∃ c, c = decide (x = X) := ⟨_, rfl⟩
                rw [← hc] at heq
                have hcall := Lib.hid (show ∀ p, Calls Try.prog 43 #[.slice ro r rc, .int .i64 (x : Int)] (wr.drewN p) (fun e w' => e = .returned (.int .i64 G) ∧ w' = wr.drewN p) from fun p => by
                  have := gain43 (w := wr.drewN p) (hrow2'.out.below (below_drewN (Below.refl _ _) _)) (by rw [hl]; exact hok'.out.2 i (by rw [← hng'.out]; exact hik)) (x : Int) (by omega)
                  rw [Int.toNat_natCast, ← hG] at this
                  exact this)
                have hF' := Lib.hid hF
                have hc' := Lib.hid hc
                have hxl : x ≤ left + F := by omega
                have x1 : i ≤ k := by omega
                have xi : IntKind.i64.wrap ((i : Int) + 1) = (i : Int) + 1 := IntWalk.i64_in _ (by omega)
                have x0 : (0 : Int) ≤ (i : Int) := by omega
                have x3 : (0 : Int) ≤ (i : Int) + 1 := by omega
                have x4 : ((i : Int) + 1).toNat = i + 1 := by omega
                have x5 : (i : Int) ≤ (k : Int) := by omega
                have x6 : (i : Int) < (k : Int) := by omega
                have w1 : IntKind.i64.wrap ((left : Int) + (F : Int)) = (left : Int) + (F : Int) := IntWalk.i64_in _ (by omega)
                have w2 : IntKind.i64.wrap ((left : Int) + (F : Int) - (x : Int)) = (left : Int) + (F : Int) - (x : Int) := IntWalk.i64_in _ (by omega)
                have w3 : IntKind.i64.wrap (G + Y) = G + Y := IntWalk.i64_in _ (by omega)
                clear hc1 hc2 hrow2 hlen0 hlen1 hu0 hu1 hcell0 hcell1 hl hr hG hY hZ hc hF hb0g hb1g hb0s hb1s hl0 hl1
                go_upto_region 21 with fail
                go_cut [109] from 78 to 109 (fun t wx => t = .bool c ∧ ∃ q, wx = wr.drewN q)
                case first =>
                  by_cases hmin : (left : Int) + (F : Int) - (x : Int) < (T : Int)
                  · go_quiet ((go_at_call 43; exact Calls.quiet_of_same (hcall.out _)))
                    go_wp2_with fail
                    go_meet
                    exact ⟨rfl, _, rfl⟩
                  · have e : left + F - x = T := by omega
                    rw [e] at z1
                    clear e
                    go_quiet ((go_at_call 43; exact Calls.quiet_of_same (hcall.out _)))
                    go_wp2_with fail
                    go_meet
                    exact ⟨rfl, _, rfl⟩
                case rest =>
                  obtain ⟨rfl, q, hwq⟩ := hcut
                  have hb3 := Lib.hid (show Below wp.heap.size wp wc by rw [hwq]; exact below_drewN hb2 _)
                  have c1q : wc.cell? ⟨g1, o1 + i, none⟩ = some (.int .i64 (F : Int)) := by rw [hwq]; exact c1
                  clear hwq c1 c2 t0 t1 z0 z1 heq hcall
                  cases c
                  · have hxX : x ≠ X := by have := hc'.out; simpa using this
                    have hnx : x + 1 ≤ X := by omega
                    clear hc'
                    go_wp2_with fail
                    go_roundw
                    case rel => exact ⟨x + 1, hnx, rfl, rfl, by go_num, hb3.out⟩
                    case measure => simp [intOf]; omega
                  · obtain rfl : x = X := by have := hc'.out; simpa using this
                    have husq := Lib.hid (hus'.out.below hb3.out)
                    have hbt3 := Lib.hid (hb.trans (hb3.out.mono hb.size))
                    have hsz3 := hbt3.out.size
                    have hul2 : us.length ≤ 1000000 := by rw [hul.out]; omega
                    have hnext := Lib.hid (show ∀ wz v5, Ints wz wo.heap.size v5 (us ++ [(x : Int)]) → Below wo.heap.size wo wz → UseRel T fs gs k wo v5 (.int .i64 ((left : Int) + (F : Int) - (x : Int))) (.int .i64 ((i : Int) + 1)) wz from fun wz v5 h1 h2 => ⟨i + 1, left + F - x, us ++ [(x : Int)], by omega, rfl, int_eq (by omega), h1, Lib.hid (by rw [List.length_append, hul.out]; rfl), Lib.hid (by
                      rw [hU.out, hX3'.out, ← hF'.out, show (((left + F - x : Nat)) : Int) = (left : Int) + (F : Int) - (x : Int) by omega]; simp), Lib.hid (by have := hX5'.out; rw [← hF'.out] at this; rw [show (((left + F - x : Nat)) : Int) = (left : Int) + (F : Int) - (x : Int) by omega]; exact this), by omega, h2⟩)
                    have x9 : (0 : Int) ≤ (x : Int) := by omega
                    have hg1w : g1 < wo.heap.size := Nat.lt_of_lt_of_le hg1 hbw.out.size
                    clear hc' hb hb2
                    go_wp2_with fail
                    go_region_held3 (fun w' => w'.cell? ⟨g1, o1 + i, none⟩ = some (.int .i64 (F : Int))) (first | go_keep | exact (Below.cell (p := ⟨g1, o1 + i, none⟩) hb5 (by assumption)).trans (by simp [*]))
                      ((refine step_app_int (y := (x : Int)) rfl (.tmp 110) (.tmp 112) rfl ⟨wc.heap.size, 0, none⟩ (by rfl) (by rfl) (by show (wc.alloc (.cells #[.int .i64 (x : Int)] 3)).cell? ⟨wc.heap.size, 0, none⟩ = _; rw [World.cell?_alloc_at (hn := rfl)]; rfl) (husq.out.below (below_alloc1 _ _).drew) hul2 (by simp; omega) ?_; intro v5 w5 hown5 hb5))
                    all_goals
                      go_wp2_with fail
                      go_roundw
                      case rel => exact hnext.out _ _ hown5 (hbt3.out.trans (((Below.refl _ _).alloc hsz3 _).drew.trans hb5))
                      case measure => simp [intOf]; omega
            · obtain rfl : i = k := by omega
              have hbx := Lib.hid (below_call hbw.out hb)
              have hlen0 : (tblL T fs gs 0).length = T + 1 := by unfold tblL; rw [tbl_len]
              obtain ⟨b0, cc0, hu0, hl0, hb0, hb0g, hb0s, hcell0⟩ := hrd.out 0 (Nat.le_refl _) (by omega)
              have t0 := (hb.cell (p := ⟨g, 0, none⟩) hgo).trans (hrow'.out.cell (j := 0) (by omega))
              rw [hu0, hlen0] at t0
              have z0 := (hb.cell (p := ⟨b0, 0, none⟩) hb0).trans (hcell0 0 (by omega))
              have hV : (tblL T fs gs 0).getD 0 0 = V fs gs 0 := tbl_V T fs gs 0 (by rw [← hn'.out, ← hng'.out]) (fun j hj => (hfo'.out.2 j hj).1) (by
                have h1 := hT'.out
                rw [show fs.take i = fs from List.take_of_length_le (by rw [← hn'.out]; exact Nat.le_refl _)] at h1
                omega)
              have hUs := Lib.hid (show U fs gs 0 = us by
                rw [hU.out, drop_end fs i (by rw [← hn'.out]; exact Nat.le_refl _)]
                simp [U])
              rw [hV] at z0
              obtain ⟨R, hR⟩ : ∃ R, R = V fs gs 0 := ⟨_, rfl⟩
              rw [← hR] at z0
              have hR' := Lib.hid hR
              have hus' := Lib.hid hus.shape
              obtain ⟨xo, xc, hxx, _⟩ := hus.shape
              rw [hul.out] at hxx
              subst hxx
              clear hu0 hlen0 hl0 hb0g hb0s hcell0 hV hR hus hb
              go_wp2_with fail
              go_quiet (fail)
              go_wp2_with fail
              go_ret2
              exact ⟨xo, xc, by rw [← hR'.out]; rfl, by rw [hUs.out]; exact hus'.out.below (below_drewN (Below.refl _ _) _), below_drewN hbx.out _⟩
end Go.Proofs.Ytccmabckmpelcaa
