import Derived.Test.YtfobdlllghpelaaXv
namespace Go.Proofs.Ytfobdlllghpelaa
open Go.RowKit Go.Shelf Pair
attribute [local go_sem] Oper.semAt_some

/-- Eight zeros in a block of their own. -/
def Zr (W : World) (g : Nat) : Prop := g < W.heap.size ∧ (∀ j, j < 8 → W.cell? ⟨g, j, none⟩ = some (.int .i64 0)) ∧ ∀ j, W.frozen? ⟨g, j, none⟩ = false
theorem Zr.keep {W W' : World} {g C : Nat} (h : Zr W g) (hb : Below C W W') (hl : g < C) (hs : W.heap.size ≤ W'.heap.size) : Zr W' g :=
  ⟨Nat.lt_of_lt_of_le h.1 hs, fun j hj => (hb.cell (p := ⟨g, j, none⟩) hl).trans (h.2.1 j hj), fun j => (hb.frozen (p := ⟨g, j, none⟩) hl).trans (h.2.2 j)⟩
theorem Zr.set {W : World} {g b i : Nat} {u : Value} (h : Zr W g) (hb : g ≠ b) : Zr (W.setCell ⟨b, i, none⟩ u) g :=
  ⟨by simpa using h.1, fun j hj => (World.cell?_setCell_other _ _ _ _ (by intro e; simp only [Addr.mk.injEq] at e; exact hb e.1.symm)).trans (h.2.1 j hj), fun j => by rw [World.frozen?_setCell]; exact h.2.2 j⟩
theorem Zr.kept {W W' : World} {g : Nat} {row : Option Nat} (h : Zr W g) (hg : W.grownBy W' row) (hr : ∀ r, row = some r → ∃ o : Obj, W.heap[r]? = some o ∧ o.isCells = false) : Zr W' g := by
  have hcell := h.2.1 0 (by omega)
  have hne : some g ≠ row := fun e => by
    obtain ⟨o, ho, hk⟩ := hr g e.symm
    simp [World.cell?, ho] at hcell
    cases o <;> simp_all [Obj.isCells]
  exact ⟨Nat.lt_of_lt_of_le h.1 hg.size, fun j hj => cell_kept (h.2.1 j hj) hg hr, fun j => (World.frozen?_of_block (a := ⟨g, j, none⟩) (hg.block g h.1 hne)).trans (h.2.2 j)⟩
theorem Zr.new (w : World) : Zr (w.alloc (.cells #[.int .i64 0, .int .i64 0, .int .i64 0, .int .i64 0, .int .i64 0, .int .i64 0, .int .i64 0, .int .i64 0] 79)) w.heap.size :=
  ⟨by simp, fun j hj => by rw [World.cell?_alloc_at (hn := rfl)]; match j, hj with | 0, _ | 1, _ | 2, _ | 3, _ | 4, _ | 5, _ | 6, _ | 7, _ => rfl, fun j => frozen_of_row _ _ j _ 79 (World.alloc_heap_new w _)⟩
theorem Zr.arr {W : World} {g : Nat} (h : Zr W g) : Arr W g zeroF := ⟨rfl, h.1, fun j hj => by rw [h.2.1 j hj, zeroF, zeros_at], h.2.2⟩
/-- Eight stores into such a block. -/
theorem Zr.stored {W : World} {g : Nat} (h : Zr W g) (x0 x1 x2 x3 x4 x5 x6 x7 : Int) :
    Arr ((((((((W.setCell ⟨g, 0, none⟩ (.int .i64 x0)).setCell ⟨g, 1, none⟩ (.int .i64 x1)).setCell ⟨g, 2, none⟩ (.int .i64 x2)).setCell ⟨g, 3, none⟩ (.int .i64 x3)).setCell ⟨g, 4, none⟩ (.int .i64 x4)).setCell ⟨g, 5, none⟩ (.int .i64 x5)).setCell ⟨g, 6, none⟩ (.int .i64 x6)).setCell ⟨g, 7, none⟩ (.int .i64 x7)) g [x0, x1, x2, x3, x4, x5, x6, x7] :=
  (((((((h.arr.set 0 x0).set 1 x1).set 2 x2).set 3 x3).set 4 x4).set 5 x5).set 6 x6).set 7 x7
def Fz (W : World) (s sw sc bm gm rz n N : Nat) (ao : Option Addr) (c : Nat) (fw fc : Value) : Prop := Fx W s sw sc bm gm n N ao c fw fc ∧ Zr W rz
def LimF (s sw sc bm gm rz L : Nat) : Prop := (s < L ∧ sw < L ∧ sc < L ∧ bm < L) ∧ (gm < L ∧ rz < L) ∧ (s ≠ gm ∧ sw ≠ gm ∧ sc ≠ gm ∧ bm ≠ gm) ∧ rz ≠ gm
theorem Fz.keep {W W' : World} {s sw sc bm gm rz n N c C L : Nat} {ao : Option Addr} {fw fc : Value} (h : Fz W s sw sc bm gm rz n N ao c fw fc) (hb : Below C W W') (hl : LimF s sw sc bm gm rz L) (hL : L ≤ C) (hs : W.heap.size ≤ W'.heap.size) : Fz W' s sw sc bm gm rz n N ao c fw fc := by
  obtain ⟨⟨h1, h2, h3, h4⟩, ⟨h5, h6⟩, _⟩ := hl
  exact ⟨h.1.keep hb ⟨by omega, by omega, by omega, by omega⟩, h.2.keep hb (by omega) hs⟩
theorem Fz.kept {W W' : World} {s sw sc bm gm rz n N c : Nat} {ao : Option Addr} {fw fc : Value} {row : Option Nat} (h : Fz W s sw sc bm gm rz n N ao c fw fc) (hg : W.grownBy W' row) (hr : ∀ r, row = some r → ∃ o : Obj, W.heap[r]? = some o ∧ o.isCells = false) : Fz W' s sw sc bm gm rz n N ao c fw fc :=
  ⟨h.1.kept hg hr, h.2.kept hg hr⟩
theorem Fz.store {W : World} {s sw sc bm gm rz n N c o L : Nat} {ao : Option Addr} {fw fc : Value} (h : Fz W s sw sc bm gm rz n N ao c fw fc) (hl : LimF s sw sc bm gm rz L) (vs : List Value) : Fz (W.setCells gm o vs) s sw sc bm gm rz n N ao c fw fc := by
  obtain ⟨_, _, h7, h8⟩ := hl
  exact setCells_ind (Pr := fun W => Fz W s sw sc bm gm rz n N ao c fw fc) (fun _ _ _ h => ⟨h.1.set h7, h.2.set h8⟩) vs o W h
theorem Fz.set {W : World} {s sw sc bm gm rz n N c b i : Nat} {ao : Option Addr} {fw fc u : Value} (h : Fz W s sw sc bm gm rz n N ao c fw fc) (hl : s ≠ b ∧ sw ≠ b ∧ sc ≠ b ∧ bm ≠ b) (hz : rz ≠ b) : Fz (W.setCell ⟨b, i, none⟩ u) s sw sc bm gm rz n N ao c fw fc := ⟨h.1.set hl, h.2.set hz⟩

/-- Of a set `F` the first `k` columns have been offered. -/
structure OptJ (w : World) (s sw sc bm gm rz n N : Nat) (ao : Option Addr) (c : Nat) (fw fc : Value) (xs : List (List Int)) (off : Nat → Option (List Int)) (F z bf br bk : Nat) (Ds : List Nat) (wjs : Nat) (k : Nat) (W : World) : Prop where
  fz : Fz W s sw sc bm gm rz n N ao c fw fc
  row : FRow W w.heap.size gm N (xs.set F ((off k).getD zeroF))
  cf : W.cell? ⟨bf, 0, none⟩ = some (.int .u64 (F : Int)) ∧ W.frozen? ⟨bf, 0, none⟩ = false
  cr : W.cell? ⟨br, 0, none⟩ = some (.int .i64 ((n : Int) - (z : Int)))
  ck : W.cell? ⟨bk, 0, none⟩ = some (.bool (off k).isSome) ∧ W.frozen? ⟨bk, 0, none⟩ = false
  mks : Marks W w.heap.size Ds
  sz : wjs ≤ W.heap.size
  be : Below w.heap.size w W
theorem OptJ.below {w : World} {s sw sc bm gm rz n N L : Nat} {ao : Option Addr} {c : Nat} {fw fc : Value} {xs : List (List Int)} {off : Nat → Option (List Int)} {F z bf br bk : Nat} {Ds : List Nat} {wjs k : Nat} {W W' : World} (h : OptJ w s sw sc bm gm rz n N ao c fw fc xs off F z bf br bk Ds wjs k W)
    (hb : Below W.heap.size W W') (hl : LimF s sw sc bm gm rz L) (hL : L ≤ W.heap.size) (hB : bf < W.heap.size ∧ br < W.heap.size ∧ bk < W.heap.size) : OptJ w s sw sc bm gm rz n N ao c fw fc xs off F z bf br bk Ds wjs k W' :=
  ⟨h.fz.keep hb hl hL hb.size, h.row.below hb, ⟨(hb.cell (p := ⟨bf, 0, none⟩) hB.1).trans h.cf.1, (hb.frozen (p := ⟨bf, 0, none⟩) hB.1).trans h.cf.2⟩, (hb.cell (p := ⟨br, 0, none⟩) hB.2.1).trans h.cr,
    ⟨(hb.cell (p := ⟨bk, 0, none⟩) hB.2.2).trans h.ck.1, (hb.frozen (p := ⟨bk, 0, none⟩) hB.2.2).trans h.ck.2⟩, h.mks.below hb, Nat.le_trans h.sz hb.size, h.be.trans (hb.mono h.be.size)⟩
theorem OptJ.pass {w : World} {s sw sc bm gm rz n N : Nat} {ao : Option Addr} {c : Nat} {fw fc : Value} {xs : List (List Int)} {off : Nat → Option (List Int)} {F z bf br bk : Nat} {Ds : List Nat} {wjs k : Nat} {W : World} (h : OptJ w s sw sc bm gm rz n N ao c fw fc xs off F z bf br bk Ds wjs k W)
    (hs : off (k + 1) = off k) : OptJ w s sw sc bm gm rz n N ao c fw fc xs off F z bf br bk Ds wjs (k + 1) W :=
  ⟨h.fz, by rw [hs]; exact h.row, h.cf, h.cr, by rw [hs]; exact h.ck, h.mks, h.sz, h.be⟩
theorem OptJ.store {w : World} {s sw sc bm gm rz n N L : Nat} {ao : Option Addr} {c : Nat} {fw fc : Value} {xs : List (List Int)} {off : Nat → Option (List Int)} {F z bf br bk : Nat} {Ds : List Nat} {wjs k : Nat} {W : World} {m : List Int} (h : OptJ w s sw sc bm gm rz n N ao c fw fc xs off F z bf br bk Ds wjs k W)
    (hs : off (k + 1) = some m) (hm : m.length = 8) (hF : F < N) (hl : LimF s sw sc bm gm rz L) (h2 : s ≠ bk ∧ sw ≠ bk ∧ sc ≠ bk ∧ bm ≠ bk) (h2z : rz ≠ bk) (h3 : bk ≠ gm) (h4 : bf ≠ gm ∧ br ≠ gm) (h5 : bk ≠ bf ∧ bk ≠ br) (h6 : w.heap.size ≤ gm ∧ w.heap.size ≤ bk) :
    OptJ w s sw sc bm gm rz n N ao c fw fc xs off F z bf br bk Ds wjs (k + 1) ((W.setCells gm (F * 8) (rowV m)).setCell ⟨bk, 0, none⟩ (.bool true)) := by
  have o1 : ∀ b : Nat, b ≠ gm → b ≠ bk → ((W.setCells gm (F * 8) (rowV m)).setCell ⟨bk, 0, none⟩ (.bool true)).cell? ⟨b, 0, none⟩ = W.cell? ⟨b, 0, none⟩ := fun b e1 e2 => by
    rw [World.cell?_setCell_other _ _ _ _ (by intro e; simp only [Addr.mk.injEq] at e; exact e2 e.1.symm), cell_setCells W gm (F * 8) b 0 (rowV m) e1]
  refine ⟨(h.fz.store hl _).set h2 h2z, ?_, ⟨(o1 bf h4.1 h5.1.symm).trans h.cf.1, ?_⟩, (o1 br h4.2 h5.2.symm).trans h.cr, ⟨?_, ?_⟩, ((h.mks.setCells _ _ _).set _ _), by simpa [size_setCells] using h.sz, below_set (below_setCells h.be h6.1 _ _) h6.2⟩
  · rw [hs]
    have := (h.row.set hF hm).other (b := bk) (i := 0) (u := .bool true) h3
    rw [List.set_set] at this
    exact this
  · rw [World.frozen?_setCell, World.frozen?_setCells]; exact h.cf.2
  · rw [hs]
    refine World.cell?_setCell_same' _ _ _ ?_
    rw [cell_setCells W gm (F * 8) bk 0 (rowV m) h3, h.ck.1]; rfl
  · rw [World.frozen?_setCell, World.frozen?_setCells]; exact h.ck.2
/-- The table of the least rows is filled for the sets below `F`. -/
def OptAtF (w w' : World) (s sw sc bm gm rz n N L : Nat) (ao : Option Addr) (c : Nat) (fw fc : Value) (xs : List (List Int)) (F bf : Nat) (Ds : List Nat) : Prop :=
  (1 ≤ F ∧ F ≤ N) ∧ Hid (Fz w' s sw sc bm gm rz n N ao c fw fc) ∧ Hid (FRow w' w.heap.size gm N xs) ∧ (w'.cell? ⟨bf, 0, none⟩ = some (.int .u64 (F : Int)) ∧ w'.frozen? ⟨bf, 0, none⟩ = false) ∧ (L ≤ bf ∧ bf < w'.heap.size) ∧ Hid (Below w.heap.size w w') ∧ Hid (Marks w' w.heap.size Ds)
def OptEndF (w : World) (n : Nat) (x : List Nat) (e : Ending) (w' : World) : Prop := (∃ g u, e = .returned (.tuple #[.slice (some ⟨g, 0, none⟩) n n, u]) ∧ (∃ ys : List Int, u = arr8 ys ∧ ys.length = 8) ∧ Row w' w.heap.size g n (natI x)) ∧ Below w.heap.size w w'
theorem setF_at {xs : List (List Int)} {F : Nat} {y : List Int} (h : F < xs.length) : (xs.set F y).getD F zeroF = y := by
  simp [List.getD_eq_getElem?_getD, h]
theorem setF_not {xs : List (List Int)} {F i : Nat} {y : List Int} (h : F ≠ i) : (xs.set F y).getD i zeroF = xs.getD i zeroF := by
  simp [List.getD_eq_getElem?_getD, h]
/-- Asked of the sets that come up, by their numbers of columns or by the row: the same. -/
theorem tryF_same {cs : List (List Int)} {n k S : Nat} (hk : k + 1 ≤ n) (hn8 : n ≤ 8) (hS : S < 2 ^ n) (hz : szS S = k + 1) : ∀ (js : List Nat), (∀ j ∈ js, j < n) →
    tryC (decF cs n) (nxtF cs n) (n - (k + 1)) S js S = tryC (decO lexI insF zeroF (costAt cs) n) (nxtO lexI insF zeroF (costAt cs) n) (n - (k + 1)) S js S
  | [], _ => rfl
  | j :: js, h => by
    have hS8 : S < 256 := Nat.lt_of_lt_of_le hS (pow_le n hn8)
    rw [tryC, tryC]
    by_cases hb : S.testBit j = true
    · rw [if_pos hb, if_pos hb]
      have hj : j < n := h j (by simp)
      have h1 := (szS_clr S hS8 j (by omega) hb).1
      have e1 : n - (n - (k + 1) + 1) = szS (clr S j) := by omega
      have e2 : n - (n - (k + 1)) = szS S := by omega
      have ed : decF cs n S (n - (k + 1)) j (clr S j) = decO lexI insF zeroF (costAt cs) n S (n - (k + 1)) j (clr S j) := by
        unfold decF decO optF; rw [e1, e2]
      have en : nxtF cs n S (n - (k + 1)) j (clr S j) = nxtO lexI insF zeroF (costAt cs) n S (n - (k + 1)) j (clr S j) := by
        unfold nxtF nxtO; rw [ed]
      rw [ed, en]
      by_cases hd : decO lexI insF zeroF (costAt cs) n S (n - (k + 1)) j (clr S j) = true
      · rw [if_pos hd, if_pos hd]
      · rw [if_neg hd, if_neg hd]
        have : nxtO lexI insF zeroF (costAt cs) n S (n - (k + 1)) j (clr S j) = S := by unfold nxtO; rw [if_neg hd]
        rw [this]
        exact tryF_same hk hn8 hS hz js fun j hj => h j (by simp [hj])
    · rw [if_neg hb, if_neg hb]
      exact tryF_same hk hn8 hS hz js fun j hj => h j (by simp [hj])
theorem tryF_state {cs : List (List Int)} {n k S : Nat} : ∀ (js : List Nat) (j s' : Nat), tryC (decO lexI insF zeroF (costAt cs) n) (nxtO lexI insF zeroF (costAt cs) n) (n - (k + 1)) S js S = some (j, s') → s' = clr S j ∧ j ∈ js ∧ S.testBit j = true
  | [], _, _, h => by simp [tryC] at h
  | a :: js, j, s', h => by
    rw [tryC] at h
    split at h
    next hb =>
      split at h
      next hd =>
        simp only [Option.some.injEq, Prod.mk.injEq] at h
        obtain ⟨rfl, rfl⟩ := h
        exact ⟨by unfold nxtO; rw [if_pos hd], by simp, hb⟩
      next hd =>
        have : nxtO lexI insF zeroF (costAt cs) n S (n - (k + 1)) a (clr S a) = S := by unfold nxtO; rw [if_neg hd]
        rw [this] at h
        obtain ⟨h1, h2, h3⟩ := tryF_state js j s' h
        exact ⟨h1, by simp [h2], h3⟩
    next =>
      obtain ⟨h1, h2, h3⟩ := tryF_state js j s' h
      exact ⟨h1, by simp [h2], h3⟩
theorem srchF_same {cs : List (List Int)} {n : Nat} (hn8 : n ≤ 8) : ∀ (k S : Nat), k ≤ n → S < 2 ^ n → szS S = k → srch (decF cs n) (nxtF cs n) n k S S = srch (decO lexI insF zeroF (costAt cs) n) (nxtO lexI insF zeroF (costAt cs) n) n k S S
  | 0, _, _, _, _ => rfl
  | k + 1, S, hk, hS, hz => by
    rw [srch, srch, tryF_same hk hn8 hS hz (List.range n) (fun j hj => List.mem_range.1 hj)]
    cases e : tryC (decO lexI insF zeroF (costAt cs) n) (nxtO lexI insF zeroF (costAt cs) n) (n - (k + 1)) S (List.range n) S with
    | none => rfl
    | some p =>
      obtain ⟨j, s'⟩ := p
      obtain ⟨rfl, hj, hb⟩ := tryF_state _ _ _ e
      have hj := List.mem_range.1 hj
      have h1 := szS_clr S (Nat.lt_of_lt_of_le hS (pow_le n hn8)) j (by omega) hb
      simp only
      rw [srchF_same hn8 k (clr S j) (by omega) (by omega) (by omega)]
theorem Arr.range {W : World} {g : Nat} {xs : List Int} (h : Arr W g xs) : W.rangeAt g 0 (rowV xs) := fun j v hv => by
  obtain ⟨hj, rfl⟩ := List.getElem?_eq_some_iff.1 hv
  have hl := h.1
  simp only [rowV, List.length_map] at hj
  rw [Nat.zero_add, h.2.2.1 j (by omega), List.getD_eq_getElem?_getD, List.getElem?_eq_getElem hj]
  simp [rowV]
theorem results_tmp_cell8 {fn : Func} {t p : Tmp} (h : fn.results = #[.tmp t, .cell p 79]) (tmps : Array Value) (w : World) (g : Nat) (xs : List Int) (hp : tmps.getD p undef = .pointer (some ⟨g, 0, none⟩)) (hA : Arr w g xs) :
    (results fn tmps).run Try.prog w = .ok (.tuple #[tmps.getD t undef, arr8 xs]) w := by
  have hl : (loadVar 79 ⟨g, 0, none⟩).run Try.prog w = .ok (.agg (rowV xs).toArray) w := run_loadVar_mid w g 0 79 (rowV xs) _ hA.range Try.underlying79 rfl (by rw [rowV_len, hA.1]; kernel_rfl)
  have hp' : tmps[p]?.getD undef = .pointer (some ⟨g, 0, none⟩) := by simpa using hp
  simp [results, h, hp', asAddr, hl, arr8_eq]
theorem Zr.kept2 {W W' : World} {g : Nat} (h : Zr W g) (hs : W.heap.size ≤ W'.heap.size) (hb : W'.heap[g]? = W.heap[g]?) : Zr W' g :=
  ⟨Nat.lt_of_lt_of_le h.1 hs, fun j hj => (World.cell?_of_block (a := ⟨g, j, none⟩) hb).trans (h.2.1 j hj), fun j => (World.frozen?_of_block (a := ⟨g, j, none⟩) hb).trans (h.2.2 j)⟩
theorem Arr.kept {W W' : World} {g : Nat} {xs : List Int} {row : Option Nat} (h : Arr W g xs) (hg : W.grownBy W' row) (hr : ∀ r, row = some r → ∃ o : Obj, W.heap[r]? = some o ∧ o.isCells = false) : Arr W' g xs := by
  have hcell := h.2.2.1 0 (by omega)
  have hne : some g ≠ row := fun e => by
    obtain ⟨o, ho, hk⟩ := hr g e.symm
    simp [World.cell?, ho] at hcell
    cases o <;> simp_all [Obj.isCells]
  exact ⟨h.1, Nat.lt_of_lt_of_le h.2.1 hg.size, fun j hj => cell_kept (h.2.2.1 j hj) hg hr, fun j => (World.frozen?_of_block (a := ⟨g, j, none⟩) (hg.block g h.2.1 hne)).trans (h.2.2.2 j)⟩
end Go.Proofs.Ytfobdlllghpelaa
