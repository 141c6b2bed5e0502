import Derived.Test.YtfobdlllghpelaaO
namespace Go.Proofs.Ytfobdlllghpelaa
open Go.RowKit Go.Shelf Pair

/-- The boxes of a search for the least: the costs, two functions, the measures. -/
def Fx (W : World) (s sw sc bm gm n N : Nat) (ao : Option Addr) (c : Nat) (fw fc : Value) : Prop :=
  W.cell? ⟨s, 0, none⟩ = some (.slice ao n c) ∧ W.cell? ⟨sw, 0, none⟩ = some fw ∧ W.cell? ⟨sc, 0, none⟩ = some fc ∧ W.cell? ⟨bm, 0, none⟩ = some (.slice (some ⟨gm, 0, none⟩) N N)
theorem Fx.keep {W W' : World} {s sw sc bm gm n N c C : Nat} {ao : Option Addr} {fw fc : Value} (h : Fx W s sw sc bm gm n N ao c fw fc) (hb : Below C W W') (hl : s < C ∧ sw < C ∧ sc < C ∧ bm < C) : Fx W' s sw sc bm gm n N ao c fw fc :=
  ⟨(hb.cell (p := ⟨s, 0, none⟩) hl.1).trans h.1, (hb.cell (p := ⟨sw, 0, none⟩) hl.2.1).trans h.2.1, (hb.cell (p := ⟨sc, 0, none⟩) hl.2.2.1).trans h.2.2.1, (hb.cell (p := ⟨bm, 0, none⟩) hl.2.2.2).trans h.2.2.2⟩
theorem Fx.set {W : World} {s sw sc bm gm n N c g i : Nat} {ao : Option Addr} {fw fc u : Value} (h : Fx W s sw sc bm gm n N ao c fw fc) (hl : s ≠ g ∧ sw ≠ g ∧ sc ≠ g ∧ bm ≠ g) : Fx (W.setCell ⟨g, i, none⟩ u) s sw sc bm gm n N ao c fw fc :=
  ⟨(World.cell?_setCell_other _ _ _ _ (by intro e; simp only [Addr.mk.injEq] at e; exact hl.1 e.1.symm)).trans h.1, (World.cell?_setCell_other _ _ _ _ (by intro e; simp only [Addr.mk.injEq] at e; exact hl.2.1 e.1.symm)).trans h.2.1,
    (World.cell?_setCell_other _ _ _ _ (by intro e; simp only [Addr.mk.injEq] at e; exact hl.2.2.1 e.1.symm)).trans h.2.2.1, (World.cell?_setCell_other _ _ _ _ (by intro e; simp only [Addr.mk.injEq] at e; exact hl.2.2.2 e.1.symm)).trans h.2.2.2⟩
theorem Fx.kept {W W' : World} {s sw sc bm gm n N c : Nat} {ao : Option Addr} {fw fc : Value} {row : Option Nat} (h : Fx W s sw sc bm gm n N ao c fw fc) (hg : W.grownBy W' row) (hr : ∀ r, row = some r → ∃ o : Obj, W.heap[r]? = some o ∧ o.isCells = false) : Fx W' s sw sc bm gm n N ao c fw fc :=
  ⟨cell_kept h.1 hg hr, cell_kept h.2.1 hg hr, cell_kept h.2.2.1 hg hr, cell_kept h.2.2.2 hg hr⟩
/-- What the closure of the search for the least leans on. -/
structure OptInv (w : World) (s sw sc bm gm n N : Nat) (ao : Option Addr) (c : Nat) (fw fc : Value) (xs : List Int) (bfr S : Nat) (W : World) : Prop where
  fx : Fx W s sw sc bm gm n N ao c fw fc
  row : Row W w.heap.size gm N xs
  cf : W.cell? ⟨bfr, 0, none⟩ = some (.int .u64 (S : Int))
  ff : W.frozen? ⟨bfr, 0, none⟩ = false
  be : Below w.heap.size w W
  lt : S < N
theorem OptInv.drewN {w W : World} {s sw sc bm gm n N c bfr S : Nat} {ao : Option Addr} {fw fc : Value} {xs : List Int} (h : OptInv w s sw sc bm gm n N ao c fw fc xs bfr S W) (q : Nat) : OptInv w s sw sc bm gm n N ao c fw fc xs bfr S (W.drewN q) :=
  ⟨h.fx, h.row.below (below_drewN (Below.refl _ _) q), h.cf, h.ff, below_drewN h.be q, h.lt⟩
theorem OptInv.set {w W : World} {s sw sc bm gm n N c bfr S : Nat} {ao : Option Addr} {fw fc : Value} {xs : List Int} (h : OptInv w s sw sc bm gm n N ao c fw fc xs bfr S W) (h1 : s ≠ bfr ∧ sw ≠ bfr ∧ sc ≠ bfr ∧ bm ≠ bfr) (h2 : bfr ≠ gm) (h3 : w.heap.size ≤ bfr) (T : Nat) (hT : T < N) :
    OptInv w s sw sc bm gm n N ao c fw fc xs bfr T (W.setCell ⟨bfr, 0, none⟩ (.int .u64 (T : Int))) :=
  ⟨h.fx.set h1, h.row.other h2, World.cell?_setCell_same' _ _ _ (by rw [h.cf]; rfl), by rw [World.frozen?_setCell]; exact h.ff, below_set h.be h3, hT⟩
def OptPost (w : World) (s sw sc bm gm n N : Nat) (ao : Option Addr) (c : Nat) (fw fc : Value) (xs : List Int) (bfr B : Nat) (W : World) (d : Bool) (S : Nat) (e : Ending) (W' : World) : Prop :=
  e = .returned (.bool d) ∧ OptInv w s sw sc bm gm n N ao c fw fc xs bfr S W' ∧ Stays B W W' ∧ KeepsOthers W W'

/-- By the measures' table: the column keeps the measure. -/
def decI (cs : List (List Int)) (n S i j T : Nat) : Bool := decide (optI cs n (szS T) T + costAt cs i j = optI cs n (szS S) S)
def nxtI (cs : List (List Int)) (n S i j T : Nat) : Nat := if decI cs n S i j T then T else S

set_option maxHeartbeats 2000000 in
set_option maxRecDepth 100000 in
theorem opt82 {w W : World} {s sw sc bm gm n N c bfr S i j T : Nat} {ao : Option Addr} {fc : Value} {cs : List (List Int)} (h : OptInv w s sw sc bm gm n N ao c (.func (.func 60) #[] #[]) fc (optT cs n N) bfr S W)
    (hv : Sq w (.slice ao n c) cs n) (hc : ∀ i j, i < n → j < n → 0 ≤ costAt cs i j ∧ costAt cs i j ≤ 1000) (hN : N = 2 ^ n) (hn8 : n ≤ 8) (h1 : s ≠ bfr ∧ sw ≠ bfr ∧ sc ≠ bfr ∧ bm ≠ bfr) (h2 : bfr ≠ gm) (h3 : w.heap.size ≤ bfr) (B : Nat) (hB : bfr < B)
    (hi : i < n) (hj : j < n) (hT : T < N) :
    Calls Try.prog 82 #[.int .i64 i, .int .i64 j, .int .u64 T, .pointer (some ⟨sw, 0, none⟩), .pointer (some ⟨bm, 0, none⟩), .pointer (some ⟨s, 0, none⟩), .pointer (some ⟨bfr, 0, none⟩)] W
      (OptPost w s sw sc bm gm n N ao c (.func (.func 60) #[] #[]) fc (optT cs n N) bfr B W (decI cs n S i j T) (nxtI cs n S i j T)) := by
  have hb' := h
  have hSN := h.lt
  obtain ⟨⟨f0, f1, f2, f3⟩, hrow, cf, ff, hbe, _⟩ := h
  have h' := Lib.hid hb'
  have hszT : szS T ≤ n := by rw [szS_sz (by rw [← hN]; exact hT) hn8]; exact sz_le _ _
  have hszS : szS S ≤ n := by rw [szS_sz (by rw [← hN]; exact hSN) hn8]; exact sz_le _ _
  have cT := hrow.cell hT
  have cS := hrow.cell hSN
  rw [show (optT cs n N).getD T 0 = optI cs n (szS T) T by rw [hN]; exact optT_full cs (by rw [← hN]; exact hT)] at cT
  rw [show (optT cs n N).getD S 0 = optI cs n (szS S) S by rw [hN]; exact optT_full cs (by rw [← hN]; exact hSN)] at cS
  have bT := optI_bd hc (szS T) T hszT
  have bS := optI_bd hc (szS S) S hszS
  obtain ⟨g1, o1, e1, hg1, g2, o2, rc, c1, hg2, hc2⟩ := (hv.below hbe).at hi
  have c2 := hc2 j hj
  have bQ := hc i j hi hj
  rw [e1] at f0
  obtain ⟨P, hP⟩ : ∃ P, P = optI cs n (szS T) T := ⟨_, rfl⟩
  obtain ⟨R, hR⟩ : ∃ R, R = optI cs n (szS S) S := ⟨_, rfl⟩
  obtain ⟨Q, hQ⟩ : ∃ Q, Q = costAt cs i j := ⟨_, rfl⟩
  have hd := Lib.hid (show decI cs n S i j T = decide (P + Q = R) by unfold decI; rw [← hP, ← hQ, ← hR])
  have hn := Lib.hid (show nxtI cs n S i j T = if decide (P + Q = R) then T else S by unfold nxtI decI; rw [← hP, ← hQ, ← hR])
  rw [← hP] at cT bT
  rw [← hR] at cS bS
  rw [← hQ] at c2 bQ
  rw [hd.out, hn.out]
  have hadd := Lib.hid (fun (W : World) => qs (add60 (w := W) P Q (by omega)))
  have hst := Lib.hid (fun (q : Nat) => h'.out.drewN q)
  have hset := Lib.hid (fun (q : Nat) => (h'.out.drewN q).set h1 h2 h3 T hT)
  have hsy := Lib.hid (fun (q : Nat) => show Stays B W ((W.drewN q).setCell ⟨bfr, 0, none⟩ (.int .u64 (T : Int))) from Stays.set (W' := W.drewN q) ⟨Nat.le_refl _, fun _ _ _ => rfl⟩ hB)
  have hsy2 := Lib.hid (fun (q : Nat) => show Stays B W (W.drewN q) from ⟨Nat.le_refl _, fun _ _ _ => rfl⟩)
  have hko2 := Lib.hid (fun (q : Nat) => show KeepsOthers W (W.drewN q) from ⟨Nat.le_refl _, fun _ _ h _ => h⟩)
  have hko := Lib.hid (fun (q : Nat) => show KeepsOthers W ((W.drewN q).setCell ⟨bfr, 0, none⟩ (.int .u64 (T : Int))) from (hko2.out q).trans (KeepsOthers.setCell _ _ _))
  clear hP hR hQ hd hn hc2 e1 hrow hbe hb' hc hv hN
  by_cases he : P + Q = R
  · simp only [he, decide_true, if_true]
    subst he
    have hne : ((P + Q) != (P + Q)) = false := by simp
    go_enter Try.func82, Try.ntmps82
    go_wp2_with fail
    go_quiet (((go_at_call 60; exact Calls.quiet_of_same (hadd.out _))))
    go_wp2_with fail
    go_ret
    exact ⟨rfl, hset.out nq, hsy.out nq, hko.out nq⟩
  · simp only [he, decide_false, Bool.false_eq_true, if_false]
    have hne : ((P + Q) != R) = true := by simpa using he
    go_enter Try.func82, Try.ntmps82
    go_wp2_with fail
    go_quiet (((go_at_call 60; exact Calls.quiet_of_same (hadd.out _))))
    go_wp2_with fail
    go_ret
    exact ⟨rfl, hst.out nq, hsy2.out nq, hko2.out nq⟩

/-- Asked of the sets that come up, by their numbers of columns or by the row: the same. -/
theorem tryI_same {cs : List (List Int)} {n k S : Nat} (hk : k + 1 ≤ n) (hn8 : n ≤ 8) (hS : S < 2 ^ n) (hz : szS S = k + 1) : ∀ (js : List Nat), (∀ j ∈ js, j < n) →
    tryC (decI cs n) (nxtI cs n) (n - (k + 1)) S js S = tryC (decO ltI (· + ·) 0 (costAt cs) n) (nxtO ltI (· + ·) 0 (costAt cs) n) (n - (k + 1)) S js S
  | [], _ => rfl
  | j :: js, h => by
    have hS8 : S < 256 := Nat.lt_of_lt_of_le hS (pow_le n hn8)
    rw [tryC, tryC]
    by_cases hb : S.testBit j = true
    · rw [if_pos hb, if_pos hb]
      have hj : j < n := h j (by simp)
      have h1 := (szS_clr S hS8 j (by omega) hb).1
      have e1 : n - (n - (k + 1) + 1) = szS (clr S j) := by omega
      have e2 : n - (n - (k + 1)) = szS S := by omega
      have ed : decI cs n S (n - (k + 1)) j (clr S j) = decO ltI (· + ·) 0 (costAt cs) n S (n - (k + 1)) j (clr S j) := by
        unfold decI decO optI; rw [e1, e2]
      have en : nxtI cs n S (n - (k + 1)) j (clr S j) = nxtO ltI (· + ·) 0 (costAt cs) n S (n - (k + 1)) j (clr S j) := by
        unfold nxtI nxtO; rw [ed]
      rw [ed, en]
      by_cases hd : decO ltI (· + ·) 0 (costAt cs) n S (n - (k + 1)) j (clr S j) = true
      · rw [if_pos hd, if_pos hd]
      · rw [if_neg hd, if_neg hd]
        have : nxtO ltI (· + ·) 0 (costAt cs) n S (n - (k + 1)) j (clr S j) = S := by unfold nxtO; rw [if_neg hd]
        rw [this]
        exact tryI_same hk hn8 hS hz js fun j hj => h j (by simp [hj])
    · rw [if_neg hb, if_neg hb]
      exact tryI_same hk hn8 hS hz js fun j hj => h j (by simp [hj])
theorem tryO_state {cs : List (List Int)} {n k S : Nat} : ∀ (js : List Nat) (j s' : Nat), tryC (decO ltI (· + ·) 0 (costAt cs) n) (nxtO ltI (· + ·) 0 (costAt cs) n) (n - (k + 1)) S js S = some (j, s') → s' = clr S j ∧ j ∈ js ∧ S.testBit j = true
  | [], _, _, h => by simp [tryC] at h
  | a :: js, j, s', h => by
    rw [tryC] at h
    split at h
    next hb =>
      split at h
      next hd =>
        simp only [Option.some.injEq, Prod.mk.injEq] at h
        obtain ⟨rfl, rfl⟩ := h
        exact ⟨by unfold nxtO; rw [if_pos hd], by simp, hb⟩
      next hd =>
        have : nxtO ltI (· + ·) 0 (costAt cs) n S (n - (k + 1)) a (clr S a) = S := by unfold nxtO; rw [if_neg hd]
        rw [this] at h
        obtain ⟨h1, h2, h3⟩ := tryO_state js j s' h
        exact ⟨h1, by simp [h2], h3⟩
    next =>
      obtain ⟨h1, h2, h3⟩ := tryO_state js j s' h
      exact ⟨h1, by simp [h2], h3⟩
theorem srchI_same {cs : List (List Int)} {n : Nat} (hn8 : n ≤ 8) : ∀ (k S : Nat), k ≤ n → S < 2 ^ n → szS S = k → srch (decI cs n) (nxtI cs n) n k S S = srch (decO ltI (· + ·) 0 (costAt cs) n) (nxtO ltI (· + ·) 0 (costAt cs) n) n k S S
  | 0, _, _, _, _ => rfl
  | k + 1, S, hk, hS, hz => by
    rw [srch, srch, tryI_same hk hn8 hS hz (List.range n) (fun j hj => List.mem_range.1 hj)]
    cases e : tryC (decO ltI (· + ·) 0 (costAt cs) n) (nxtO ltI (· + ·) 0 (costAt cs) n) (n - (k + 1)) S (List.range n) S with
    | none => rfl
    | some p =>
      obtain ⟨j, s'⟩ := p
      obtain ⟨rfl, hj, hb⟩ := tryO_state _ _ _ e
      have hj := List.mem_range.1 hj
      have h1 := szS_clr S (Nat.lt_of_lt_of_le hS (pow_le n hn8)) j (by omega) hb
      simp only
      rw [srchI_same hn8 k (clr S j) (by omega) (by omega) (by omega)]
end Go.Proofs.Ytfobdlllghpelaa
