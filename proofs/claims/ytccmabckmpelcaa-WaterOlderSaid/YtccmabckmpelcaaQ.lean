import Derived.Test.YtccmabckmpelcaaP
import Derived.Deep.RegionWith
import Derived.Deep.CutRange
namespace Go.Proofs.Ytccmabckmpelcaa
open Go.RowKit

/-- A row that lies in another block. -/
def Ap (u : Value) (fb : Option Nat) : Prop := u.ownBlock = none ∨ u.ownBlock ≠ fb

/-- append(s, y) of one int: the block is the row's own, or a new one. -/
theorem app_run (w : World) {B : Nat} {v : Value} {xs : List Int} {y : Int} (hown : Ints w B v xs) (hlen : xs.length ≤ 1000000) (hB : B ≤ w.heap.size) (ad : Addr) (hc : w.cell? ad = some (.int .i64 y)) :
    ∃ v' w', (Builtin.append_ #[22, 22] 22 #[v, .slice (some ad) 1 1]).run Try.prog w = .ok v' w' ∧ Ints w' B v' (xs ++ [y]) ∧ w.grownBy w' v.ownBlock ∧ (v'.ownBlock = v.ownBlock ∨ v'.ownBlock = some w.heap.size) := by
  obtain ⟨i0, hi, hz0, hz1, hz2⟩ := info_parts info3
  have hnews : ∀ j u, ([Value.int .i64 y] : List Value)[j]? = some u → w.cell? (ad.add j) = some u := by
    intro j u hj
    cases j with
    | zero => simp at hj; subst hj; simpa [Addr.add] using hc
    | succ j => simp at hj
  obtain ⟨v', w', hr, h2, h3, _⟩ := run_append_own (P := Try.prog) w B 22 22 3 i0 (.int .i64 0) 1 8 Try.underlying22 hi hz0 hz1 hz2 rfl (by decide) v xs.length (xs.map (Value.int .i64)) hown ad 1 1 [.int .i64 y] rfl hnews (by intro u hu; simp at hu; subst hu; rfl) (by unfold maxLen; omega) (by omega) hB
  refine ⟨v', w', hr, by unfold Ints; simpa using h2, h3, ?_⟩
  rcases hown.2 with ⟨rfl, h0⟩ | ⟨g, cap, cur, rfl, hbg, hg, hnc, hcm, hcs, htake⟩
  · have hr2 := run_append_nil (P := Try.prog) w 22 22 3 i0 (.int .i64 0) Try.underlying22 hi hz0 ad 1 1 [.int .i64 y] (by rw [hz1]; rfl) hnews (by omega) (by omega) (by rw [hz2]; omega)
    rw [hr] at hr2
    simp only [Result.ok.injEq] at hr2
    right; rw [hr2.1]; rfl
  · by_cases hroom : xs.length + 1 ≤ cap
    · have hr2 := run_append_room (P := Try.prog) w 22 22 3 i0 Try.underlying22 hi g xs.length cap cur hg ad 1 1 [.int .i64 y] (by rw [hz1]; rfl) hnews (by intro u hu; simp at hu; subst hu; rfl) hroom (by rw [hz1, hcs]; simp; omega)
      rw [hr] at hr2
      simp only [Result.ok.injEq] at hr2
      left; rw [hr2.1]; rfl
    · have holds : ∀ j u, (xs.map (Value.int .i64))[j]? = some u → w.cell? ((⟨g, 0, none⟩ : Addr).add j) = some u := World.ownsRow.cells (g := g) hown rfl
      have hr2 := run_append_grow (P := Try.prog) w 22 22 3 i0 (.int .i64 0) Try.underlying22 hi hz0 ⟨g, 0, none⟩ xs.length cap (xs.map (Value.int .i64)) (by rw [hz1]; simp) holds ad 1 1 [.int .i64 y] (by rw [hz1]; rfl) hnews (by omega) (by omega) (growslice_fits (by omega) (by rw [hz2]; omega))
      rw [hr] at hr2
      simp only [Result.ok.injEq] at hr2
      right; rw [hr2.1]; rfl

theorem app_int2 {ops : Array Oper} {rest : List Oper} {o : Oper} {a : Act} {Q : Exit → Act → World → Prop} {w : World} {B : Nat} {v : Value} {xs : List Int} {y : Int}
    (hown : Ints w B v xs) (hlen : xs.length ≤ 1000000) (hB : B ≤ w.heap.size) (hgd : o.guard = none) (s x : Operand) (hty : o.type = 22)
    (ho : o.op = .call { callee := .builtin .append, args := #[s, x], argTypes := #[22, 22] }) (hs : a.eval s = v) (hx : a.eval x = .slice (some ⟨w.heap.size, 0, none⟩) 1 1)
    (h : ∀ v' w', Ints w' B v' (xs ++ [y]) → Below B w w' → (w.alloc (.cells #[.int .i64 y] 3)).grownBy w' v.ownBlock → (v'.ownBlock = v.ownBlock ∨ v'.ownBlock = some (w.heap.size + 1)) → wpList Try.prog ops Q rest (a.put o.dst v') w') :
    wpList Try.prog ops Q (o :: rest) a (w.alloc (.cells #[.int .i64 y] 3)) := by
  refine wpList_plain hgd fun K hK => ?_
  obtain ⟨v', w', hr, h2, h3, h4⟩ := app_run (w.alloc (.cells #[.int .i64 y] 3)) (World.ownsRow.alloc hown _) hlen (by simp; omega) ⟨w.heap.size, 0, none⟩ (by rw [World.cell?_alloc_at (hn := rfl)]; rfl)
  unfold Oper.wp execOp
  simp only [ho, resolve, invoke, builtin, Sem.run_bind, Sem.run_pure, Result.andThen_ok, List.map_toArray, List.map_cons, List.map_nil, hs, hx, hty, hr]
  exact hK _ _ (h v' w' h2 (((Below.refl B w).alloc hB _).grown h3 (by simp; omega) (fun k hk => (World.ownsRow.lt hown k hk).1)) h3 (by simpa using h4))

/-- Rows of one's own that lie apart from a block. -/
def OwnGA (w : World) (B : Nat) (v : Value) (xss : List (List Int)) (fb : Option Nat) : Prop :=
  ∃ vs : List Value, w.ownsRow B 22 1 v vs.length vs ∧ vs.length = xss.length ∧ ∀ j, j < vs.length → Ints w B (vs.getD j undef) (xss.getD j []) ∧ Ap (vs.getD j undef) fb
theorem OwnGA.own {w : World} {B : Nat} {v : Value} {xss : List (List Int)} {fb : Option Nat} (h : OwnGA w B v xss fb) : OwnG w B v xss := by
  obtain ⟨vs, h1, h2, h3⟩ := h
  exact ⟨vs, h1, h2, fun j hj => (h3 j hj).1⟩
theorem OwnGA.below {w w' : World} {B : Nat} {v : Value} {xss : List (List Int)} {fb : Option Nat} (h : OwnGA w B v xss fb) (hb : Below w.heap.size w w') : OwnGA w' B v xss fb := by
  obtain ⟨vs, h1, h2, h3⟩ := h
  exact ⟨vs, own_below h1 hb, h2, fun j hj => ⟨(h3 j hj).1.below hb, (h3 j hj).2⟩⟩
theorem Ints.ownBlock_lt {w : World} {B : Nat} {u : Value} {zs : List Int} (h : Ints w B u zs) : ∀ k, u.ownBlock = some k → k < w.heap.size := fun k hk => (World.ownsRow.lt h k hk).2

/-- What an append to the row `f` of ints leaves of the rows. -/
theorem OwnGA.grown {w w' : World} {B : Nat} {v f f' : Value} {fs : List Int} {xss : List (List Int)} (h : OwnGA w B v xss f.ownBlock) (hf : Ints w B f fs) (hg : w.grownBy w' f.ownBlock) (hf' : f'.ownBlock = f.ownBlock ∨ f'.ownBlock = some w.heap.size) :
    OwnGA w' B v xss f'.ownBlock := by
  obtain ⟨vs, h1, h2, h3⟩ := h
  refine ⟨vs, World.ownsRow.kept h1 hg ?_, h2, fun j hj => ?_⟩
  · rcases h1.2 with ⟨rfl, _⟩ | ⟨g, cap, cur, rfl, _, hg', _⟩
    · exact .inl rfl
    · right
      intro e
      rcases hf.2 with ⟨rfl, _⟩ | ⟨g2, cap', cur', rfl, _, hg2, _⟩
      · simp [Value.ownBlock] at e
      · simp only [Value.ownBlock, Option.some.injEq] at e
        subst e
        rw [hg'] at hg2
        simp at hg2
  · obtain ⟨a, b⟩ := h3 j hj
    refine ⟨World.ownsRow.kept a hg b, ?_⟩
    rcases hf' with e | e
    · rw [e]; exact b
    · cases hu : (vs.getD j undef).ownBlock with
      | none => exact .inl hu
      | some k => right; rw [hu, e]; have := a.ownBlock_lt k hu; simp; omega

/-- append(s, row) of one row of ints, apart from a block. -/
theorem app_row2 {ops : Array Oper} {rest : List Oper} {o : Oper} {a : Act} {Q : Exit → Act → World → Prop} {w : World} {B : Nat} {v u : Value} {xss : List (List Int)} {ys : List Int} {fb : Option Nat}
    (hown : OwnGA w B v xss fb) (hu : Ints w B u ys) (hap : Ap u fb) (hlen : xss.length ≤ 1000000) (hB : B ≤ w.heap.size) (hgd : o.guard = none) (s x : Operand)
    (ho : o.op = .call { callee := .builtin .append, args := #[s, x], argTypes := #[23, 23] }) (hs : a.eval s = v) (hx : a.eval x = .slice (some ⟨w.heap.size, 0, none⟩) 1 1)
    (h : ∀ v' w', OwnGA w' B v' (xss ++ [ys]) fb → Below B w w' → (∀ u' zs, Ints w B u' zs → Ints w' B u' zs) → wpList Try.prog ops Q rest (a.put o.dst v') w') : wpList Try.prog ops Q (o :: rest) a (w.alloc (.cells #[u] 22)) := by
  obtain ⟨i0, hi, hz0, hz1, hz2⟩ := info_parts info22
  obtain ⟨vs, hv, hvl, hin⟩ := hown
  have hone : u.oneCell' = true := by obtain ⟨ao, c, rfl, _⟩ := hu.shape; rfl
  refine wpList_append_own _ hgd s x 23 ho B 22 i0 (.slice none 0 0) 1 24 Try.underlying23 hi hz0 hz1 hz2 rfl (by decide) v vs.length vs hs (World.ownsRow.alloc hv _) ⟨w.heap.size, 0, none⟩ 1 1 [u] hx rfl (cell_one_new _ _ _) ?_ ?_ ?_ ?_ ?_
  · intro z hz; simp at hz; subst hz; exact hone
  · unfold maxLen; omega
  · omega
  · simp; omega
  · intro v' w' h2 h3 _
    have hkeep : ∀ u' zs, Ints w B u' zs → Ints w' B u' zs := by
      intro u' zs hz
      refine World.ownsRow.kept (World.ownsRow.alloc hz _) h3 ?_
      rcases hz.2 with ⟨rfl, _⟩ | ⟨g, cap, cur, rfl, _, hg, _⟩
      · exact .inl rfl
      · right
        intro e
        rcases hv.2 with ⟨rfl, _⟩ | ⟨g', cap', cur', rfl, _, hg', _⟩
        · simp [Value.ownBlock] at e
        · simp only [Value.ownBlock, Option.some.injEq] at e
          subst e
          rw [hg] at hg'
          simp at hg'
    refine h v' w' ⟨vs ++ [u], by simpa using h2, by simp [hvl], fun j hj => ?_⟩ ?_ hkeep
    · simp at hj
      by_cases e : j < vs.length
      · have h4 := hin j e
        have := hkeep _ _ h4.1
        rw [List.getD_eq_getElem?_getD, List.getElem?_append_left e, ← List.getD_eq_getElem?_getD, List.getD_eq_getElem?_getD (l := xss ++ [ys]), List.getElem?_append_left (by omega), ← List.getD_eq_getElem?_getD]
        exact ⟨this, h4.2⟩
      · have : j = vs.length := by omega
        subst this
        have := hkeep _ _ hu
        rw [List.getD_eq_getElem?_getD, List.getElem?_append_right (Nat.le_refl _), List.getD_eq_getElem?_getD, List.getElem?_append_right (by omega), hvl]
        exact ⟨by simpa using this, by simpa using hap⟩
    · exact ((Below.refl B w).alloc hB _).grown h3 (by simp; omega) (fun k hk => (World.ownsRow.lt hv k hk).1)

theorem end_grown {w w' : World} {B B2 : Nat} {f f' g l : Value} {fs ls : List Int} {gs : List (List Int)} {y : Int} (hf : Ints w B f fs) (hg : OwnGA w B g gs f.ownBlock) (hl : Ints w B2 l ls) (hB : B ≤ B2)
    (hlt : ∀ k, f.ownBlock = some k → k < B2) (hgr : (w.alloc (.cells #[.int .i64 y] 3)).grownBy w' f.ownBlock) (hf' : f'.ownBlock = f.ownBlock ∨ f'.ownBlock = some (w.heap.size + 1)) :
    OwnGA w' B g gs f'.ownBlock ∧ Ints w' B l ls ∧ Ap l f'.ownBlock := by
  have hap : Ap l f.ownBlock := by
    cases hk : l.ownBlock with
    | none => exact .inl hk
    | some k =>
      right
      rw [hk]
      intro e
      have h1 := (World.ownsRow.lt hl k hk).1
      have h2 := hlt k e.symm
      omega
  refine ⟨(hg.below (below_alloc1 w _)).grown (hf.alloc _) hgr (by simpa using hf'), World.ownsRow.kept ((hl.base hB).alloc _) hgr hap, ?_⟩
  rcases hf' with e | e
  · rw [e]; exact hap
  · cases hk : l.ownBlock with
    | none => exact .inl hk
    | some k =>
      right
      rw [hk, e]
      have := hl.ownBlock_lt k hk
      simp; omega

theorem amt_snoc (l : List Int) (x : Int) : amt (l ++ [x]) = (amt l && (decide (0 ≤ x) && decide (x ≤ 30))) := by simp [amt]
theorem allG_snoc (l : List (List Int)) (x : List Int) : allG (l ++ [x]) = (allG l && gainB x) := by simp [allG]

set_option maxHeartbeats 4000000 in
set_option maxRecDepth 100000 in
theorem made37 {w : World} {u v : Value} {xs : List Int} {xss : List (List Int)} (hf : InRow w u xs) (hg : InRows w v xss) (most : Nat) (hm1 : 1 ≤ most) (hm8 : most ≤ 8) :
    Calls Try.prog 37 #[.agg #[u, v], .int .i64 most] w fun e w' => ∃ u' v' fs gs, e = .returned (.tuple #[u', v']) ∧ Ints w' w.heap.size u' fs ∧ OwnG w' w.heap.size v' gs ∧ rivB fs gs = true ∧ fs.length ≤ most ∧ Below w.heap.size w w' := by
  have hf' := Lib.hid hf
  obtain ⟨hfr, hfm, fo, fc, rfl, _⟩ := hf
  obtain ⟨_, _, _, hfc, hfcell⟩ := hfr
  obtain ⟨go, gc, rfl, hgc, hgm, h1⟩ := hg
  obtain ⟨N, hN⟩ : ∃ N, N = xss.length := ⟨_, rfl⟩
  obtain ⟨M, hM⟩ : ∃ M, M = xs.length := ⟨_, rfl⟩
  rw [← hN] at hgc hgm ⊢
  rw [← hM] at hfm hf' ⊢
  unfold maxLen at hgm hfm
  have hN' := Lib.hid hN
  have hM' := Lib.hid hM
  have h1' := Lib.hid h1
  have hfcell' := Lib.hid hfcell
  clear hN hM h1 hfcell
  obtain ⟨n, hn⟩ : ∃ n, n = max 1 (min M most) := ⟨_, rfl⟩
  have hn1 : 1 ≤ n := by omega
  have hn8 : n ≤ most := by omega
  obtain ⟨wx, hwx⟩ : ∃ wx, wx = w.alloc (Obj.cells #[Value.slice fo M fc, Value.slice go N gc] 25) := ⟨_, rfl⟩
  have hbx : Below w.heap.size w wx := by rw [hwx]; exact below_alloc1 w _
  obtain ⟨B, hB⟩ : ∃ B, B = w.heap.size + 1 := ⟨_, rfl⟩
  have hsx : wx.heap.size = B := by rw [hwx, hB]; simp
  have cb0 : wx.cell? ⟨w.heap.size, 0, none⟩ = some (.slice fo M fc) := by rw [hwx, World.cell?_alloc_at (hn := rfl)]; rfl
  have cb : wx.cell? ⟨w.heap.size, 1, none⟩ = some (.slice go N gc) := by rw [hwx, World.cell?_alloc_at (hn := rfl)]; rfl
  have hi0 : Ints ((wx.alloc (.cells #[] 3)).alloc (.cells #[] 22)) B (.slice (some ⟨B, 0, none⟩) 0 0) [] := by
    have := (Ints.lit wx B (by omega)).alloc (.cells #[] 22)
    rw [hsx] at this; exact this
  have hg0 : OwnGA ((wx.alloc (.cells #[] 3)).alloc (.cells #[] 22)) B (.slice (some ⟨B + 1, 0, none⟩) 0 0) [] (some B) := by
    refine ⟨[], ?_, rfl, fun j hj => by simp at hj⟩
    have := World.ownsRow_made (e := 22) (size := 1) (wx.alloc (.cells #[] 3)) #[] 0 (base := B) (by simp; omega) (by unfold maxLen; omega) (by simp)
    rw [show (wx.alloc (.cells #[] 3)).heap.size = B + 1 from by simp [hsx]] at this
    exact this
  have hb0 : Below B wx ((wx.alloc (.cells #[] 3)).alloc (.cells #[] 22)) := ((Below.refl _ _).alloc (by omega) _).alloc (by simp; omega) _
  go_enter Try.func37, Try.ntmps37
  go_upto_region 1 with fail
  go_cut [6] from 14 to 19 (fun nv w1 => nv = .int .i64 (n : Int) ∧ wx = w1)
  case first =>
    go_wp2_with fail
    all_goals
      go_meet
      exact ⟨int_eq (by omega), hwx⟩
  case rest =>
    obtain ⟨rfl, rfl⟩ := hcut
    go_wp2_with fail
    rw [← hwx, ← hB]
    have hwb : w.heap.size < B := by omega
    have hwB := Lib.hid (show w.heap.size ≤ B by omega)
    have hn' := Lib.hid hn
    clear hwx hB hn
    go_loopw [7, 8, 9] (fun fv gv i wr => ∃ (k : Nat) (fs : List Int) (gs : List (List Int)), k ≤ n ∧ i = .int .i64 k ∧ Ints wr B fv fs ∧ OwnGA wr B gv gs fv.ownBlock ∧ Hid (fs.length = k) ∧ Hid (gs.length = k) ∧ Hid (amt fs = true) ∧ Hid (allG gs = true) ∧ Below B wx wr) (fun _ _ i _ => n - (intOf i).toNat)
    case atStart => exact ⟨0, [], [], Nat.zero_le _, rfl, hi0, hg0, rfl, rfl, rfl, rfl, hb0⟩
    case round =>
      obtain ⟨k, fs, gs, hk, rfl, hfs, hgs, hfl, hgl, ham, hal, hb⟩ := hrel
      obtain ⟨wo, rfl⟩ : ∃ wo : World, wo = wr := ⟨_, rfl⟩
      have hsz := hb.size
      rw [hsx] at hsz
      have hwr : w.heap.size < wo.heap.size := by omega
      have cbb0 := (hb.cell (p := ⟨w.heap.size, 0, none⟩) hwb).trans cb0
      have cbb := (hb.cell (p := ⟨w.heap.size, 1, none⟩) hwb).trans cb
      have hb2 : Below wx.heap.size wx wo := by rw [hsx]; exact hb
      have hbw := below_call hbx hb2
      obtain ⟨fva, fvc, rfl, hfsh⟩ := hfs.shape
      obtain ⟨gva, gvc, rfl, hgsh⟩ := hgs.own.shape
      have hfs' := Lib.hid hfs
      have hgs' := Lib.hid hgs
      have hfbl := Lib.hid (show ∀ q, (Value.slice fva fs.length fvc).ownBlock = some q → q < wo.heap.size from hfs.ownBlock_lt)
      rw [hfl.out] at hfs' hgs' hfbl ⊢
      rw [hgl.out] at hgs' ⊢
      clear hfs hgs hfsh hgsh
      by_cases hlt : k < n
      · have hlit := Lib.hid (Ints.lit wo wo.heap.size (Nat.le_refl _))
        have hbl := Lib.hid (below_alloc1 wo (.cells #[] 3))
        by_cases hkM : k < M
        · have e1 := hM'.out
          obtain ⟨g, o, rfl, hg, hc1⟩ := hfcell'.out (fun e => by rw [e] at e1; simp at e1; omega)
          have c1 := (hbw.cell (p := ⟨g, o + k, none⟩) hg).trans (hc1 k (by omega))
          have hgr : g < wo.heap.size := Nat.lt_of_lt_of_le hg hbw.size
          clear hc1 e1
          have hfd := foldZ_bd (xs.getD k 0) 31 (by omega)
          obtain ⟨y, hy⟩ : ∃ y, y = foldZ (xs.getD k 0) 31 := ⟨_, rfl⟩
          rw [← hy] at hfd
          have hy' := Lib.hid hy
          obtain ⟨hy0, hy1⟩ := hfd
          obtain ⟨x, hx⟩ : ∃ x, x = xs.getD k 0 := ⟨_, rfl⟩
          rw [← hx] at c1 hy'
          clear hy hx
          go_wp2_with fail
          refine (fold38 _ 31 _ (by omega) (by omega)).mono ?_
          rw [← hy'.out]
          rintro e w2 ⟨rfl, rfl⟩
          go_wp2_with fail
          go_loopw [11, 12, 13] (fun lv la jv w3 => ∃ (j : Nat) (last : Int) (ls : List Int), j ≤ 20 ∧ jv = .int .i64 j ∧ la = .int .i64 last ∧ 0 ≤ last ∧ last ≤ 1000 ∧ Hid (ls.length = j) ∧ Ints w3 wo.heap.size lv ls ∧ Hid (∀ r, gFrom 1000 (ls ++ r) = gFrom last r) ∧ Below wo.heap.size wo w3) (fun _ _ jv _ => 20 - (intOf jv).toNat)
          case atStart => exact ⟨0, 1000, [], by omega, rfl, rfl, by omega, by omega, rfl, hlit.out, Lib.hid (fun r => rfl), hbl.out⟩
          case round =>
            obtain ⟨j, last, ls, hj20, rfl, rfl, hl0, hl1, hll, hls, hgf, hb3⟩ := hrel
            have hsz3 := hb3.size
            have hwi : w.heap.size < wr.heap.size := by omega
            have cd0 := (hb3.cell (p := ⟨w.heap.size, 0, none⟩) hwr).trans cbb0
            have cd := (hb3.cell (p := ⟨w.heap.size, 1, none⟩) hwr).trans cbb
            obtain ⟨lva, lvc, rfl, _⟩ := hls.shape
            have hls' := Lib.hid hls
            rw [hll.out] at hls' ⊢
            have hf3 := Lib.hid (hfs'.out.below hb3)
            have hg3 := Lib.hid (hgs'.out.below hb3)
            have hbB := hb.trans (hb3.mono hsz)
            clear hls
            by_cases hkN : k < N
            · have e1 := hN'.out
              obtain ⟨g2, o2, rfl, hg2, hc2⟩ := h1'.out (fun e => by rw [e] at e1; simp at e1; omega)
              obtain ⟨z, c2, hz⟩ := hc2 k (by omega)
              have hg2r : g2 < wo.heap.size := Nat.lt_of_lt_of_le hg2 hbw.size
              have cc2 := (hb3.cell (p := ⟨g2, o2 + k, none⟩) hg2r).trans ((hbw.cell (p := ⟨g2, o2 + k, none⟩) hg2).trans c2)
              obtain ⟨l, hl⟩ : ∃ l, l = xss.getD k [] := ⟨_, rfl⟩
              rw [← hl] at hz
              obtain ⟨⟨_, _, e3, _, hzc⟩, hzm, za, zc, e4, _⟩ := hz
              subst e4
              obtain ⟨m, hm⟩ : ∃ m, m = l.length := ⟨_, rfl⟩
              have hm' := Lib.hid hm
              rw [← hm] at cc2 hzm e3
              have hzc' : l ≠ [] → ∃ g o, za = some ⟨g, o, none⟩ ∧ g < w.heap.size ∧ ∀ j, j < l.length → w.cell? ⟨g, o + j, none⟩ = some (.int .i64 (l.getD j 0)) := by
                intro hne
                obtain ⟨g, o, ea, r⟩ := hzc hne
                exact ⟨g, o, by cases e3; exact ea, r⟩
              have hzc2 := Lib.hid hzc'
              unfold maxLen at hzm
              clear hzc hzc' e3 hc2 e1 c2 hl hm
              by_cases hjm : j < m
              · by_cases hj2 : j < 20
                · have e5 := hm'.out
                  obtain ⟨g4, o4, rfl, hg4, hc4⟩ := hzc2.out (fun e => by rw [e] at e5; simp at e5; omega)
                  have hg4r : g4 < wo.heap.size := Nat.lt_of_lt_of_le hg4 hbw.size
                  have cc4 := (hb3.cell (p := ⟨g4, o4 + j, none⟩) hg4r).trans ((hbw.cell (p := ⟨g4, o4 + j, none⟩) hg4).trans (hc4 j (by omega)))
                  have hfd2 := foldZ_bd (l.getD j 0) 1001 (by omega)
                  obtain ⟨q, hq⟩ : ∃ y, y = foldZ (l.getD j 0) 1001 := ⟨_, rfl⟩
                  rw [← hq] at hfd2
                  have hq' := Lib.hid hq
                  obtain ⟨hq0, hq1⟩ := hfd2
                  obtain ⟨x4, hx4⟩ : ∃ x, x = l.getD j 0 := ⟨_, rfl⟩
                  rw [← hx4] at cc4 hq'
                  clear hq hx4 hc4 e5
                  have hgf2 := Lib.hid (show ∀ t : Int, 0 ≤ t → t ≤ last → ∀ r, gFrom 1000 ((ls ++ [t]) ++ r) = gFrom t r from fun t h0 h1 r => by
                    rw [List.append_assoc, hgf.out]
                    simp [gFrom, h0, h1])
                  by_cases hmn : last ≤ q
                  all_goals
                    go_wp2_with fail
                    refine (fold38 _ 1001 _ (by omega) (by omega)).mono ?_
                    rw [← hq'.out]
                    rintro e w4 ⟨rfl, rfl⟩
                    go_wp2_with (first | (at_builtin; refine app_int hls'.out (by rw [hll.out]; omega) hsz3 rfl _ _ rfl rfl rfl ?_; intro v' w5 hown5 hb5))
                    go_roundw
                    case rel => exact ⟨j + 1, _, _, by omega, by go_num, rfl, by omega, by omega, Lib.hid (by rw [List.length_append, hll.out]; rfl), hown5, Lib.hid (hgf2.out _ (by omega) (by omega)), hb3.trans hb5⟩
                    case measure => simp [intOf]; omega
                · have hgfin := Lib.hid (show gainB ls = true by unfold gainB; rw [hll.out]; have := hgf.out []; rw [List.append_nil] at this; rw [this]; simp [gFrom]; omega)
                  have hl2 := Lib.hid hll.out
                  go_wp2_with (first | (at_builtin; refine app_int2 (y := y) hf3.out (by rw [hfl.out]; omega) (by omega) rfl _ _ rfl rfl rfl rfl ?_; intro v' w5 hown5 hb5 hgr5 hob5; obtain ⟨hG5, hL5, hA5⟩ := end_grown hf3.out hg3.out hls'.out hsz hfbl.out hgr5 hob5; have hs5 := hb5.size) | (at_builtin; refine app_row2 hG5 hL5 hA5 (by rw [hgl.out]; omega) (by omega) rfl _ _ rfl rfl rfl ?_; intro v6 w6 hown6 hb6 hkeep6; have hF6 := hkeep6 _ _ hown5; clear hkeep6))
                  go_roundw
                  case rel => exact ⟨k + 1, _, _, by omega, by go_num, hF6, hown6, Lib.hid (by rw [List.length_append, hfl.out]; rfl), Lib.hid (by rw [List.length_append, hgl.out]; rfl), Lib.hid (by rw [amt_snoc, ham.out]; simp <;> omega), Lib.hid (by rw [allG_snoc, hal.out, hgfin.out]; rfl), hbB.trans (hb5.trans hb6)⟩
                  case measure => simp [intOf]; omega
              · have hgfin := Lib.hid (show gainB ls = true by unfold gainB; rw [hll.out]; have := hgf.out []; rw [List.append_nil] at this; rw [this]; simp [gFrom]; omega)
                have hl2 := Lib.hid hll.out
                go_wp2_with (first | (at_builtin; refine app_int2 (y := y) hf3.out (by rw [hfl.out]; omega) (by omega) rfl _ _ rfl rfl rfl rfl ?_; intro v' w5 hown5 hb5 hgr5 hob5; obtain ⟨hG5, hL5, hA5⟩ := end_grown hf3.out hg3.out hls'.out hsz hfbl.out hgr5 hob5; have hs5 := hb5.size) | (at_builtin; refine app_row2 hG5 hL5 hA5 (by rw [hgl.out]; omega) (by omega) rfl _ _ rfl rfl rfl ?_; intro v6 w6 hown6 hb6 hkeep6; have hF6 := hkeep6 _ _ hown5; clear hkeep6))
                go_roundw
                case rel => exact ⟨k + 1, _, _, by omega, by go_num, hF6, hown6, Lib.hid (by rw [List.length_append, hfl.out]; rfl), Lib.hid (by rw [List.length_append, hgl.out]; rfl), Lib.hid (by rw [amt_snoc, ham.out]; simp <;> omega), Lib.hid (by rw [allG_snoc, hal.out, hgfin.out]; rfl), hbB.trans (hb5.trans hb6)⟩
                case measure => simp [intOf]; omega
            · have hgfin := Lib.hid (show gainB ls = true by unfold gainB; rw [hll.out]; have := hgf.out []; rw [List.append_nil] at this; rw [this]; simp [gFrom]; omega)
              have hl2 := Lib.hid hll.out
              go_wp2_with (first | (at_builtin; refine app_int2 (y := y) hf3.out (by rw [hfl.out]; omega) (by omega) rfl _ _ rfl rfl rfl rfl ?_; intro v' w5 hown5 hb5 hgr5 hob5; obtain ⟨hG5, hL5, hA5⟩ := end_grown hf3.out hg3.out hls'.out hsz hfbl.out hgr5 hob5; have hs5 := hb5.size) | (at_builtin; refine app_row2 hG5 hL5 hA5 (by rw [hgl.out]; omega) (by omega) rfl _ _ rfl rfl rfl ?_; intro v6 w6 hown6 hb6 hkeep6; have hF6 := hkeep6 _ _ hown5; clear hkeep6))
              go_roundw
              case rel => exact ⟨k + 1, _, _, by omega, by go_num, hF6, hown6, Lib.hid (by rw [List.length_append, hfl.out]; rfl), Lib.hid (by rw [List.length_append, hgl.out]; rfl), Lib.hid (by rw [amt_snoc, ham.out]; simp <;> omega), Lib.hid (by rw [allG_snoc, hal.out, hgfin.out]; rfl), hbB.trans (hb5.trans hb6)⟩
              case measure => simp [intOf]; omega
        · obtain ⟨y, hy⟩ : ∃ y : Int, y = 0 := ⟨_, rfl⟩
          have hy0 : 0 ≤ y := by omega
          have hy1 : y < 31 := by omega
          go_wp2_with fail
          go_loopw [11, 12, 13] (fun lv la jv w3 => ∃ (j : Nat) (last : Int) (ls : List Int), j ≤ 20 ∧ jv = .int .i64 j ∧ la = .int .i64 last ∧ 0 ≤ last ∧ last ≤ 1000 ∧ Hid (ls.length = j) ∧ Ints w3 wo.heap.size lv ls ∧ Hid (∀ r, gFrom 1000 (ls ++ r) = gFrom last r) ∧ Below wo.heap.size wo w3) (fun _ _ jv _ => 20 - (intOf jv).toNat)
          case atStart => exact ⟨0, 1000, [], by omega, rfl, rfl, by omega, by omega, rfl, hlit.out, Lib.hid (fun r => rfl), hbl.out⟩
          case round =>
            obtain ⟨j, last, ls, hj20, rfl, rfl, hl0, hl1, hll, hls, hgf, hb3⟩ := hrel
            have hsz3 := hb3.size
            have hwi : w.heap.size < wr.heap.size := by omega
            have cd0 := (hb3.cell (p := ⟨w.heap.size, 0, none⟩) hwr).trans cbb0
            have cd := (hb3.cell (p := ⟨w.heap.size, 1, none⟩) hwr).trans cbb
            obtain ⟨lva, lvc, rfl, _⟩ := hls.shape
            have hls' := Lib.hid hls
            rw [hll.out] at hls' ⊢
            have hf3 := Lib.hid (hfs'.out.below hb3)
            have hg3 := Lib.hid (hgs'.out.below hb3)
            have hbB := hb.trans (hb3.mono hsz)
            clear hls
            by_cases hkN : k < N
            · have e1 := hN'.out
              obtain ⟨g2, o2, rfl, hg2, hc2⟩ := h1'.out (fun e => by rw [e] at e1; simp at e1; omega)
              obtain ⟨z, c2, hz⟩ := hc2 k (by omega)
              have hg2r : g2 < wo.heap.size := Nat.lt_of_lt_of_le hg2 hbw.size
              have cc2 := (hb3.cell (p := ⟨g2, o2 + k, none⟩) hg2r).trans ((hbw.cell (p := ⟨g2, o2 + k, none⟩) hg2).trans c2)
              obtain ⟨l, hl⟩ : ∃ l, l = xss.getD k [] := ⟨_, rfl⟩
              rw [← hl] at hz
              obtain ⟨⟨_, _, e3, _, hzc⟩, hzm, za, zc, e4, _⟩ := hz
              subst e4
              obtain ⟨m, hm⟩ : ∃ m, m = l.length := ⟨_, rfl⟩
              have hm' := Lib.hid hm
              rw [← hm] at cc2 hzm e3
              have hzc' : l ≠ [] → ∃ g o, za = some ⟨g, o, none⟩ ∧ g < w.heap.size ∧ ∀ j, j < l.length → w.cell? ⟨g, o + j, none⟩ = some (.int .i64 (l.getD j 0)) := by
                intro hne
                obtain ⟨g, o, ea, r⟩ := hzc hne
                exact ⟨g, o, by cases e3; exact ea, r⟩
              have hzc2 := Lib.hid hzc'
              unfold maxLen at hzm
              clear hzc hzc' e3 hc2 e1 c2 hl hm
              by_cases hjm : j < m
              · by_cases hj2 : j < 20
                · have e5 := hm'.out
                  obtain ⟨g4, o4, rfl, hg4, hc4⟩ := hzc2.out (fun e => by rw [e] at e5; simp at e5; omega)
                  have hg4r : g4 < wo.heap.size := Nat.lt_of_lt_of_le hg4 hbw.size
                  have cc4 := (hb3.cell (p := ⟨g4, o4 + j, none⟩) hg4r).trans ((hbw.cell (p := ⟨g4, o4 + j, none⟩) hg4).trans (hc4 j (by omega)))
                  have hfd2 := foldZ_bd (l.getD j 0) 1001 (by omega)
                  obtain ⟨q, hq⟩ : ∃ y, y = foldZ (l.getD j 0) 1001 := ⟨_, rfl⟩
                  rw [← hq] at hfd2
                  have hq' := Lib.hid hq
                  obtain ⟨hq0, hq1⟩ := hfd2
                  obtain ⟨x4, hx4⟩ : ∃ x, x = l.getD j 0 := ⟨_, rfl⟩
                  rw [← hx4] at cc4 hq'
                  clear hq hx4 hc4 e5
                  have hgf2 := Lib.hid (show ∀ t : Int, 0 ≤ t → t ≤ last → ∀ r, gFrom 1000 ((ls ++ [t]) ++ r) = gFrom t r from fun t h0 h1 r => by
                    rw [List.append_assoc, hgf.out]
                    simp [gFrom, h0, h1])
                  by_cases hmn : last ≤ q
                  all_goals
                    go_wp2_with fail
                    refine (fold38 _ 1001 _ (by omega) (by omega)).mono ?_
                    rw [← hq'.out]
                    rintro e w4 ⟨rfl, rfl⟩
                    go_wp2_with (first | (at_builtin; refine app_int hls'.out (by rw [hll.out]; omega) hsz3 rfl _ _ rfl rfl rfl ?_; intro v' w5 hown5 hb5))
                    go_roundw
                    case rel => exact ⟨j + 1, _, _, by omega, by go_num, rfl, by omega, by omega, Lib.hid (by rw [List.length_append, hll.out]; rfl), hown5, Lib.hid (hgf2.out _ (by omega) (by omega)), hb3.trans hb5⟩
                    case measure => simp [intOf]; omega
                · have hgfin := Lib.hid (show gainB ls = true by unfold gainB; rw [hll.out]; have := hgf.out []; rw [List.append_nil] at this; rw [this]; simp [gFrom]; omega)
                  have hl2 := Lib.hid hll.out
                  go_wp2_with (first | (at_builtin; refine app_int2 (y := 0) hf3.out (by rw [hfl.out]; omega) (by omega) rfl _ _ rfl rfl rfl rfl ?_; intro v' w5 hown5 hb5 hgr5 hob5; obtain ⟨hG5, hL5, hA5⟩ := end_grown hf3.out hg3.out hls'.out hsz hfbl.out hgr5 hob5; have hs5 := hb5.size) | (at_builtin; refine app_row2 hG5 hL5 hA5 (by rw [hgl.out]; omega) (by omega) rfl _ _ rfl rfl rfl ?_; intro v6 w6 hown6 hb6 hkeep6; have hF6 := hkeep6 _ _ hown5; clear hkeep6))
                  go_roundw
                  case rel => exact ⟨k + 1, _, _, by omega, by go_num, hF6, hown6, Lib.hid (by rw [List.length_append, hfl.out]; rfl), Lib.hid (by rw [List.length_append, hgl.out]; rfl), Lib.hid (by rw [amt_snoc, ham.out]; simp <;> omega), Lib.hid (by rw [allG_snoc, hal.out, hgfin.out]; rfl), hbB.trans (hb5.trans hb6)⟩
                  case measure => simp [intOf]; omega
              · have hgfin := Lib.hid (show gainB ls = true by unfold gainB; rw [hll.out]; have := hgf.out []; rw [List.append_nil] at this; rw [this]; simp [gFrom]; omega)
                have hl2 := Lib.hid hll.out
                go_wp2_with (first | (at_builtin; refine app_int2 (y := 0) hf3.out (by rw [hfl.out]; omega) (by omega) rfl _ _ rfl rfl rfl rfl ?_; intro v' w5 hown5 hb5 hgr5 hob5; obtain ⟨hG5, hL5, hA5⟩ := end_grown hf3.out hg3.out hls'.out hsz hfbl.out hgr5 hob5; have hs5 := hb5.size) | (at_builtin; refine app_row2 hG5 hL5 hA5 (by rw [hgl.out]; omega) (by omega) rfl _ _ rfl rfl rfl ?_; intro v6 w6 hown6 hb6 hkeep6; have hF6 := hkeep6 _ _ hown5; clear hkeep6))
                go_roundw
                case rel => exact ⟨k + 1, _, _, by omega, by go_num, hF6, hown6, Lib.hid (by rw [List.length_append, hfl.out]; rfl), Lib.hid (by rw [List.length_append, hgl.out]; rfl), Lib.hid (by rw [amt_snoc, ham.out]; simp <;> omega), Lib.hid (by rw [allG_snoc, hal.out, hgfin.out]; rfl), hbB.trans (hb5.trans hb6)⟩
                case measure => simp [intOf]; omega
            · have hgfin := Lib.hid (show gainB ls = true by unfold gainB; rw [hll.out]; have := hgf.out []; rw [List.append_nil] at this; rw [this]; simp [gFrom]; omega)
              have hl2 := Lib.hid hll.out
              go_wp2_with (first | (at_builtin; refine app_int2 (y := 0) hf3.out (by rw [hfl.out]; omega) (by omega) rfl _ _ rfl rfl rfl rfl ?_; intro v' w5 hown5 hb5 hgr5 hob5; obtain ⟨hG5, hL5, hA5⟩ := end_grown hf3.out hg3.out hls'.out hsz hfbl.out hgr5 hob5; have hs5 := hb5.size) | (at_builtin; refine app_row2 hG5 hL5 hA5 (by rw [hgl.out]; omega) (by omega) rfl _ _ rfl rfl rfl ?_; intro v6 w6 hown6 hb6 hkeep6; have hF6 := hkeep6 _ _ hown5; clear hkeep6))
              go_roundw
              case rel => exact ⟨k + 1, _, _, by omega, by go_num, hF6, hown6, Lib.hid (by rw [List.length_append, hfl.out]; rfl), Lib.hid (by rw [List.length_append, hgl.out]; rfl), Lib.hid (by rw [amt_snoc, ham.out]; simp <;> omega), Lib.hid (by rw [allG_snoc, hal.out, hgfin.out]; rfl), hbB.trans (hb5.trans hb6)⟩
              case measure => simp [intOf]; omega
      · go_wp2_with fail
        go_ret2
        have hkn : k = n := by omega
        exact ⟨_, _, _, _, rfl, hfs'.out.base hwB.out, hgs'.out.own.base hwB.out, by
          unfold rivB flowB
          rw [hfl.out, hgl.out, ham.out, hal.out]
          simp; omega, by rw [hfl.out]; omega, hbw⟩
end Go.Proofs.Ytccmabckmpelcaa
