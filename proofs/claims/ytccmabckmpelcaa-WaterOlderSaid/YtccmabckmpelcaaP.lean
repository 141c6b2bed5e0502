import Derived.Test.YtccmabckmpelcaaO
namespace Go.Proofs.Ytccmabckmpelcaa
open Go.RowKit

/-- Rows of ints of one's own. -/
def OwnG (w : World) (B : Nat) (v : Value) (xss : List (List Int)) : Prop :=
  ∃ vs : List Value, w.ownsRow B 22 1 v vs.length vs ∧ vs.length = xss.length ∧ ∀ j, j < vs.length → Ints w B (vs.getD j undef) (xss.getD j [])
theorem OwnG.below {w w' : World} {B : Nat} {v : Value} {xss : List (List Int)} (h : OwnG w B v xss) (hb : Below w.heap.size w w') : OwnG w' B v xss := by
  obtain ⟨vs, h1, h2, h3⟩ := h
  exact ⟨vs, own_below h1 hb, h2, fun j hj => (h3 j hj).below hb⟩
theorem OwnG.base {w : World} {B B' : Nat} {v : Value} {xss : List (List Int)} (h : OwnG w B v xss) (hb : B' ≤ B) : OwnG w B' v xss := by
  obtain ⟨vs, h1, h2, h3⟩ := h
  exact ⟨vs, own_base h1 hb, h2, fun j hj => (h3 j hj).base hb⟩
theorem OwnG.shape {w : World} {B : Nat} {v : Value} {xss : List (List Int)} (h : OwnG w B v xss) : ReadsG w v xss := by
  obtain ⟨vs, h1, h2, h3⟩ := h
  have hh := h1
  rcases h1.2 with ⟨rfl, h0⟩ | ⟨g, cap, cur, rfl, hB, hg, hn, _⟩
  · refine ⟨none, 0, by rw [← h2, h0], by omega, fun hne => absurd (List.length_eq_zero_iff.1 (by omega)) hne⟩
  · refine ⟨_, cap, by rw [h2], by omega, fun _ => ⟨g, 0, rfl, (Array.getElem?_eq_some_iff.1 hg).1, fun j hj => ?_⟩⟩
    rw [← h2] at hj
    refine ⟨vs.getD j undef, ?_, (h3 j hj).shape⟩
    rw [show 0 + j = j from by omega, hh.cellAt j (by omega)]
    simp [List.getD_eq_getElem?_getD, hj]

/-- append(s, row) of one row of ints, at the model's operation. -/
theorem app_row {ops : Array Oper} {rest : List Oper} {o : Oper} {a : Act} {Q : Exit → Act → World → Prop} {w : World} {B : Nat} {v u : Value} {xss : List (List Int)} {ys : List Int}
    (hown : OwnG w B v xss) (hu : Ints w B u ys) (hlen : xss.length ≤ 1000000) (hB : B ≤ w.heap.size) (hgd : o.guard = none) (s x : Operand)
    (ho : o.op = .call { callee := .builtin .append, args := #[s, x], argTypes := #[23, 23] }) (hs : a.eval s = v) (hx : a.eval x = .slice (some ⟨w.heap.size, 0, none⟩) 1 1)
    (h : ∀ v' w', OwnG w' B v' (xss ++ [ys]) → Below B w w' → (∀ u' zs, Ints w B u' zs → Ints w' B u' zs) → wpList Try.prog ops Q rest (a.put o.dst v') w') : wpList Try.prog ops Q (o :: rest) a (w.alloc (.cells #[u] 22)) := by
  obtain ⟨i0, hi, hz0, hz1, hz2⟩ := info_parts info22
  obtain ⟨vs, hv, hvl, hin⟩ := hown
  have hone : u.oneCell' = true := by obtain ⟨ao, c, rfl, _⟩ := hu.shape; rfl
  refine wpList_append_own _ hgd s x 23 ho B 22 i0 (.slice none 0 0) 1 24 Try.underlying23 hi hz0 hz1 hz2 rfl (by decide) v vs.length vs hs (World.ownsRow.alloc hv _) ⟨w.heap.size, 0, none⟩ 1 1 [u] hx rfl (cell_one_new _ _ _) ?_ ?_ ?_ ?_ ?_
  · intro z hz; simp at hz; subst hz; exact hone
  · unfold maxLen; omega
  · omega
  · simp; omega
  · intro v' w' h2 h3 _
    have hkeep : ∀ u' zs, Ints w B u' zs → Ints w' B u' zs := by
      intro u' zs hz
      refine World.ownsRow.kept (World.ownsRow.alloc hz _) h3 ?_
      rcases hz.2 with ⟨rfl, _⟩ | ⟨g, cap, cur, rfl, _, hg, _⟩
      · exact .inl rfl
      · right
        intro e
        rcases hv.2 with ⟨rfl, _⟩ | ⟨g', cap', cur', rfl, _, hg', _⟩
        · simp [Value.ownBlock] at e
        · simp only [Value.ownBlock, Option.some.injEq] at e
          subst e
          rw [hg] at hg'
          simp at hg'
    refine h v' w' ⟨vs ++ [u], by simpa using h2, by simp [hvl], fun j hj => ?_⟩ ?_ hkeep
    · simp at hj
      by_cases e : j < vs.length
      · have := hkeep _ _ (hin j e)
        rw [List.getD_eq_getElem?_getD, List.getElem?_append_left e, ← List.getD_eq_getElem?_getD, List.getD_eq_getElem?_getD (l := xss ++ [ys]), List.getElem?_append_left (by omega), ← List.getD_eq_getElem?_getD]
        exact this
      · have : j = vs.length := by omega
        subst this
        have := hkeep _ _ hu
        rw [List.getD_eq_getElem?_getD, List.getElem?_append_right (Nat.le_refl _), List.getD_eq_getElem?_getD, List.getElem?_append_right (by omega), hvl]
        simpa using this
    · exact ((Below.refl B w).alloc hB _).grown h3 (by simp; omega) (fun k hk => (World.ownsRow.lt hv k hk).1)

theorem OwnG.lit (w : World) (B : Nat) (hB : B ≤ w.heap.size) : OwnG (w.alloc (.cells #[] 22)) B (.slice (some ⟨w.heap.size, 0, none⟩) 0 0) [] :=
  ⟨[], World.ownsRow_made w #[] 0 hB (by unfold maxLen; omega) (by simp), rfl, fun j hj => by simp at hj⟩
theorem Ints.alloc {B : Nat} {v : Value} {xs : List Int} {w : World} (h : Ints w B v xs) (o : Obj) : Ints (w.alloc o) B v xs := World.ownsRow.alloc h o
theorem OwnG.alloc {B : Nat} {v : Value} {xs : List (List Int)} {w : World} (h : OwnG w B v xs) (o : Obj) : OwnG (w.alloc o) B v xs := h.below (below_alloc1 w o)

def fewG (gs : List (List Int)) (k : Nat) : List (List Int) := (gs.take k).map fun l => l.take 21
theorem fewG_len (gs : List (List Int)) (k : Nat) (h : k ≤ gs.length) : (fewG gs k).length = k := by simp [fewG]; omega
theorem fewG_snoc (gs : List (List Int)) (k : Nat) (h : k < gs.length) : fewG gs (k + 1) = fewG gs k ++ [(gs.getD k []).take 21] := by
  unfold fewG
  rw [List.take_succ_eq_append_getElem h, List.map_append]
  simp [List.getD_eq_getElem?_getD, h]

set_option maxHeartbeats 2000000 in
set_option maxRecDepth 100000 in
theorem few15 {w : World} {u v : Value} {fs : List Int} {gs : List (List Int)} (hf : InRow w u fs) (hg : InRows w v gs) :
    Calls Try.prog 15 #[.agg #[u, v]] w fun e w' => ∃ u' v', e = .returned (.tuple #[u', v']) ∧ Ints w' w.heap.size u' (fs.take 9) ∧ OwnG w' w.heap.size v' (fewG gs (min gs.length 9)) ∧ Below w.heap.size w w' := by
  have hf' := Lib.hid hf
  obtain ⟨_, hfm, fo, fc, rfl, _⟩ := hf
  obtain ⟨go, gc, rfl, hgc, hgm, h1⟩ := hg
  obtain ⟨n, hn⟩ : ∃ n, n = gs.length := ⟨_, rfl⟩
  rw [← hn] at hgc hgm ⊢
  unfold maxLen at hgm
  have hn' := Lib.hid hn
  have h1' := Lib.hid h1
  clear hn h1
  go_enter Try.func15, Try.ntmps15
  go_wp2_with fail
  obtain ⟨wx, hwx⟩ : ∃ wx, wx = w.alloc (Obj.cells #[Value.slice fo fs.length fc, Value.slice go n gc] 25) := ⟨_, rfl⟩
  have hbx : Below w.heap.size w wx := by rw [hwx]; exact below_alloc1 w _
  have hsx : wx.heap.size = w.heap.size + 1 := by rw [hwx]; simp
  have hg0 := OwnG.lit wx w.heap.size (by omega)
  have hb0 := below_call hbx (below_alloc1 wx (.cells #[] 22))
  rw [hsx] at hg0
  have cb0 : wx.cell? ⟨w.heap.size, 0, none⟩ = some (.slice fo fs.length fc) := by rw [hwx, World.cell?_alloc_at (hn := rfl)]; rfl
  have cb : wx.cell? ⟨w.heap.size, 1, none⟩ = some (.slice go n gc) := by rw [hwx, World.cell?_alloc_at (hn := rfl)]; rfl
  have hb1 := below_alloc1 wx (.cells #[] 22)
  rw [hsx] at hb1
  rw [← hwx]
  clear hwx
  obtain ⟨B, hB⟩ : ∃ B, B = w.heap.size + 1 := ⟨_, rfl⟩
  rw [← hB] at hsx hb1 hg0 ⊢
  have hB' := Lib.hid hB
  have hltB : w.heap.size < B := by omega
  have hg1 : OwnG (wx.alloc (.cells #[] 22)) B (.slice (some ⟨B, 0, none⟩) 0 0) [] := by
    have := OwnG.lit wx B (by omega)
    rw [hsx] at this; exact this
  clear hB hg0
  go_loopw [4, 5] (fun p i wr => ∃ (k : Nat), k ≤ n ∧ k ≤ 9 ∧ i = .int .i64 k ∧ OwnG wr B p (fewG gs k) ∧ Below B wx wr) (fun _ i _ => 9 - (intOf i).toNat)
  case atStart => exact ⟨0, Nat.zero_le _, by omega, rfl, by have : fewG gs 0 = [] := by simp [fewG]
                                                             rw [this]; exact hg1, hb1⟩
  case round =>
    obtain ⟨k, hk, hk9, rfl, hown, hb⟩ := hrel
    have hsz := hb.size
    rw [hsx] at hsz
    have cbb0 := (hb.cell (p := ⟨w.heap.size, 0, none⟩) hltB).trans cb0
    have cbb := (hb.cell (p := ⟨w.heap.size, 1, none⟩) hltB).trans cb
    have hb2 : Below wx.heap.size wx wr := by rw [hsx]; exact hb
    have hbw := below_call hbx hb2
    by_cases hgo : k < n ∧ k ≤ 8
    · obtain ⟨hkn, hk8⟩ := hgo
      have e1 := hn'.out
      obtain ⟨g, o, rfl, hg, hc1⟩ := h1'.out (fun e => by rw [e] at e1; simp at e1; omega)
      obtain ⟨y, c1, hy⟩ := hc1 k (by omega)
      have cc1 := (hbw.cell (p := ⟨g, o + k, none⟩) hg).trans c1
      have hy2 := Lib.hid (hy.below hbw)
      have hsn := Lib.hid (fewG_snoc gs k (by omega))
      have hfl := Lib.hid (fewG_len gs k (by omega))
      have hown' := Lib.hid hown
      obtain ⟨l, hl⟩ : ∃ l, l = gs.getD k [] := ⟨_, rfl⟩
      obtain ⟨ys, hys⟩ : ∃ ys, ys = l.take 21 := ⟨_, rfl⟩
      rw [← hl] at hy2 hsn hy
      rw [← hys] at hsn
      obtain ⟨ro, rc, rfl, _⟩ := hy.2.2
      have hys' := Lib.hid hys
      clear hc1 e1 hown hy hl hys
      obtain ⟨m, hm⟩ : ∃ m, m = l.length := ⟨_, rfl⟩
      rw [← hm] at cc1 hy2
      clear hm c1
      go_wp2_with fail
      refine (cut16 hy2.out 21 (by omega)).mono ?_
      rw [← hys'.out]
      rintro e w1 ⟨v1, rfl, hv1, hb3⟩
      have hs3 := hb3.size
      have hv1' := Lib.hid (hv1.base (B' := B) hsz)
      obtain ⟨va, vc, rfl, _⟩ := hv1.shape
      have hown1 := Lib.hid (hown'.out.below hb3)
      have hB3 := hb.trans (hb3.mono hsz)
      go_wp2_with (first | (at_builtin; refine app_row hown1.out hv1'.out (by rw [hfl.out]; omega) (by omega) rfl _ _ rfl rfl rfl ?_; intro v' w2 hown2 hb4 hkeep; clear hkeep))
      go_roundw
      case rel => exact ⟨k + 1, by omega, by omega, by go_num, by rw [hsn.out]; exact hown2, hB3.trans hb4⟩
      case measure => simp [intOf]; omega
    · have hmn := Lib.hid (show min n 9 = k by omega)
      have hown' := Lib.hid hown
      have hd : ¬ k < n ∨ ¬ k ≤ 8 := by omega
      have hfin := Lib.hid (hf'.out.below hbw)
      clear hgo hown
      rcases hd with hd | hd
      · go_wp2_with fail
        refine (cut16 hfin.out 9 (by omega)).mono ?_
        rintro e w1 ⟨v1, rfl, hv1, hb3⟩
        go_wp2_with fail
        go_ret2
        exact ⟨_, _, rfl, hv1.base hbw.size, by rw [hmn.out]; exact (hown'.out.below hb3).base (by omega), below_call hbw hb3⟩
      · by_cases hkn : k < n
        all_goals
          go_wp2_with fail
          refine (cut16 hfin.out 9 (by omega)).mono ?_
          rintro e w1 ⟨v1, rfl, hv1, hb3⟩
          go_wp2_with fail
          go_ret2
          exact ⟨_, _, rfl, hv1.base hbw.size, by rw [hmn.out]; exact (hown'.out.below hb3).base (by omega), below_call hbw hb3⟩
end Go.Proofs.Ytccmabckmpelcaa
