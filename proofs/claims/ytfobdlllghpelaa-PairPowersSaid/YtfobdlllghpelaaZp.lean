import Derived.Test.YtfobdlllghpelaaZn
import Derived.BigQuiet
namespace Go.Proofs.Ytfobdlllghpelaa
open Go.RowKit Go.Shelf Pair
attribute [local go_sem] Oper.semAt_some

/-- What the number of a pairing is, and whether there is one. -/
def RankEnd (w : World) (o : Option Nat) (e : Ending) (w' : World) : Prop := (match o with
  | some r => e = .returned (.tuple #[.int .i64 (r : Int), .bool true])
  | none => e = .returned (.tuple #[.int .i64 0, .bool false])) ∧ Below w.heap.size w w'

/-- The state of the walk over the rows. -/
structure RankAt (w W : World) (b BA BC gA gC n N : Nat) (al : List Nat) (xs : List Int) (r S : Nat) (Ds : List Nat) : Prop where
  hb : b = w.heap.size
  lt : gA < b ∧ gC < b
  c0 : W.cell? ⟨b, 0, none⟩ = some (.slice (some ⟨gA, 0, none⟩) n n)
  c1 : W.cell? ⟨b, 1, none⟩ = some (.slice (some ⟨gC, 0, none⟩) N N)
  cr : W.cell? ⟨b + 1, 0, none⟩ = some (.int .i64 (r : Int))
  fr : W.frozen? ⟨b + 1, 0, none⟩ = false
  cS : W.cell? ⟨b + 1 + 1, 0, none⟩ = some (.int .u64 (S : Int))
  fS : W.frozen? ⟨b + 1 + 1, 0, none⟩ = false
  hA : SRow W BA gA n al
  hC : Row W BC gC N xs
  ms : Marks W (b + 3) Ds
  be : Below w.heap.size w W
  sz : b + 3 ≤ W.heap.size
section
variable {w W : World} {b BA BC gA gC n N : Nat} {al : List Nat} {xs : List Int} {r S : Nat} {Ds : List Nat}
theorem cell_other {a : Addr} {b i : Nat} {u v : Value} (h : W.cell? a = some v) (hb : a.block ≠ b) : (W.setCell ⟨b, i, none⟩ u).cell? a = some v :=
  (World.cell?_setCell_other _ _ _ _ (by intro e; apply hb; rw [← e])).trans h
theorem RankAt.drew (h : RankAt w W b BA BC gA gC n N al xs r S Ds) : RankAt w W.drew b BA BC gA gC n N al xs r S Ds :=
  ⟨h.hb, h.lt, h.c0, h.c1, h.cr, h.fr, h.cS, h.fS, h.hA, h.hC, h.ms, h.be.drew, h.sz⟩
theorem RankAt.drewN (h : RankAt w W b BA BC gA gC n N al xs r S Ds) (q : Nat) : RankAt w (W.drewN q) b BA BC gA gC n N al xs r S Ds := by
  have hb := below_drewN (Below.refl W.heap.size W) q
  have hs := h.sz
  have hl := h.lt
  exact ⟨h.hb, h.lt, (hb.cell (p := ⟨b, 0, none⟩) (show b < _ by omega)).trans h.c0, (hb.cell (p := ⟨b, 1, none⟩) (show b < _ by omega)).trans h.c1, (hb.cell (p := ⟨b + 1, 0, none⟩) (show b + 1 < _ by omega)).trans h.cr, (hb.frozen (p := ⟨b + 1, 0, none⟩) (show b + 1 < _ by omega)).trans h.fr,
    (hb.cell (p := ⟨b + 1 + 1, 0, none⟩) (show b + 1 + 1 < _ by omega)).trans h.cS, (hb.frozen (p := ⟨b + 1 + 1, 0, none⟩) (show b + 1 + 1 < _ by omega)).trans h.fS, h.hA.below hb, h.hC.below hb, h.ms.below hb, below_drewN h.be q, Nat.le_trans h.sz hb.size⟩
theorem RankAt.setR (h : RankAt w W b BA BC gA gC n N al xs r S Ds) (q : Nat) : RankAt w (W.setCell ⟨b + 1, 0, none⟩ (.int .i64 (q : Int))) b BA BC gA gC n N al xs q S Ds := by
  have hl := h.lt
  exact ⟨h.hb, h.lt, cell_other h.c0 (show b ≠ b + 1 by omega), cell_other h.c1 (show b ≠ b + 1 by omega), World.cell?_setCell_same' _ _ _ (by rw [h.cr]; rfl), by rw [World.frozen?_setCell]; exact h.fr,
    cell_other h.cS (show b + 1 + 1 ≠ b + 1 by omega), by rw [World.frozen?_setCell]; exact h.fS, h.hA.other (by omega), h.hC.other (by omega), h.ms.set _ _, below_set h.be (by have := h.hb; omega), by have := h.sz; simpa using this⟩
theorem RankAt.setS (h : RankAt w W b BA BC gA gC n N al xs r S Ds) (q : Nat) : RankAt w (W.setCell ⟨b + 1 + 1, 0, none⟩ (.int .u64 (q : Int))) b BA BC gA gC n N al xs r q Ds := by
  have hl := h.lt
  exact ⟨h.hb, h.lt, cell_other h.c0 (show b ≠ b + 1 + 1 by omega), cell_other h.c1 (show b ≠ b + 1 + 1 by omega), cell_other h.cr (show b + 1 ≠ b + 1 + 1 by omega), by rw [World.frozen?_setCell]; exact h.fr,
    World.cell?_setCell_same' _ _ _ (by rw [h.cS]; rfl), by rw [World.frozen?_setCell]; exact h.fS, h.hA.other (by omega), h.hC.other (by omega), h.ms.set _ _, below_set h.be (by have := h.hb; omega), by have := h.sz; simpa using this⟩
theorem RankAt.kept {W' : World} {L : Nat} {row : Option Nat} (h : RankAt w W b BA BC gA gC n N al xs r S Ds) (hL : b + 3 ≤ L) (hD : ∀ D ∈ Ds, D < L) (hg : W.grownBy W' row) (hr : ∀ r, row = some r → L ≤ r ∧ ∃ o : Obj, W.heap[r]? = some o ∧ o.isCells = false) : RankAt w W' b BA BC gA gC n N al xs r S Ds := by
  have hr2 : ∀ r, row = some r → ∃ o : Obj, W.heap[r]? = some o ∧ o.isCells = false := fun r e => (hr r e).2
  exact ⟨h.hb, h.lt, cell_kept h.c0 hg hr2, cell_kept h.c1 hg hr2, cell_kept h.cr hg hr2, (frozen_kept h.cr hg hr2).trans h.fr, cell_kept h.cS hg hr2, (frozen_kept h.cS hg hr2).trans h.fS, h.hA.kept hg hr2, h.hC.kept hg hr2,
    h.ms.kept hD hg (fun r e => (hr r e).1), h.be.grown hg h.be.size (fun r e => by have := (hr r e).1; have := h.hb; omega), Nat.le_trans h.sz hg.size⟩
theorem RankAt.cons {D L : Nat} (h : RankAt w W b BA BC gA gC n N al xs r S Ds) (hL : b + 3 ≤ L) (hlt : ∀ E ∈ Ds, E < L) (hD : L ≤ D) (hK : W.heap[D]? = some (.deferred (some []))) : RankAt w W b BA BC gA gC n N al xs r S (D :: Ds) :=
  ⟨h.hb, h.lt, h.c0, h.c1, h.cr, h.fr, h.cS, h.fS, h.hA, h.hC, h.ms.cons (N := L) hlt hD (by omega) hK, h.be, h.sz⟩
theorem RankAt.begin (w : World) {BA BC gA gC n N M : Nat} {al : List Nat} {xs : List Int} (hA : SRow w BA gA n al) (hC : Row w BC gC N xs) :
    RankAt w (((w.alloc (.cells #[.slice (some ⟨gA, 0, none⟩) n n, .slice (some ⟨gC, 0, none⟩) N N] 98)).alloc (.cells #[.int .i64 0] 3)).alloc (.cells #[.int .u64 (M : Int)] 91)) w.heap.size BA BC gA gC n N al xs 0 M [] := by
  obtain ⟨w1, h1⟩ : ∃ w1, w1 = w.alloc (.cells #[.slice (some ⟨gA, 0, none⟩) n n, .slice (some ⟨gC, 0, none⟩) N N] 98) := ⟨_, rfl⟩
  have c0 : w1.cell? ⟨w.heap.size, 0, none⟩ = some (.slice (some ⟨gA, 0, none⟩) n n) := by rw [h1, World.cell?_alloc_at (hn := rfl)]; rfl
  have c1 : w1.cell? ⟨w.heap.size, 1, none⟩ = some (.slice (some ⟨gC, 0, none⟩) N N) := by rw [h1, World.cell?_alloc_at (hn := rfl)]; rfl
  have s1 : w1.heap.size = w.heap.size + 1 := by rw [h1]; simp
  have b1 : Below w.heap.size w w1 := by rw [h1]; exact below_alloc1 w _
  rw [← h1]
  clear h1
  have k2 := cell_new_e w1 (.int .i64 0) 3
  have b2 := below_alloc1 w1 (.cells #[.int .i64 0] 3)
  obtain ⟨w2, h2⟩ : ∃ w2, w2 = w1.alloc (.cells #[.int .i64 0] 3) := ⟨_, rfl⟩
  have s2 : w2.heap.size = w.heap.size + 1 + 1 := by rw [h2]; simp [s1]
  rw [← h2, s1] at k2
  rw [← h2] at b2 ⊢
  clear h2
  have k3 := cell_new_e w2 (.int .u64 (M : Int)) 91
  have b3 := below_alloc1 w2 (.cells #[.int .u64 (M : Int)] 91)
  obtain ⟨w3, h3⟩ : ∃ w3, w3 = w2.alloc (.cells #[.int .u64 (M : Int)] 91) := ⟨_, rfl⟩
  have s3 : w3.heap.size = w.heap.size + 3 := by rw [h3]; simp [s2]
  rw [← h3, s2] at k3
  rw [← h3] at b3 ⊢
  clear h3
  have b13 : Below w1.heap.size w1 w3 := below_call b2 b3
  exact ⟨rfl, ⟨hA.lt.2, hC.lt.2⟩, (b13.cell (p := ⟨w.heap.size, 0, none⟩) (show w.heap.size < _ by omega)).trans c0, (b13.cell (p := ⟨w.heap.size, 1, none⟩) (show w.heap.size < _ by omega)).trans c1,
    (b3.cell (p := ⟨w.heap.size + 1, 0, none⟩) (show w.heap.size + 1 < _ by omega)).trans k2.1, (b3.frozen (p := ⟨w.heap.size + 1, 0, none⟩) (show w.heap.size + 1 < _ by omega)).trans k2.2, k3.1, k3.2,
    hA.below (below_call b1 b13), hC.below (below_call b1 b13), Marks.nil _ _, below_call b1 b13, by omega⟩
end
/-- What the walk over the rows has found before row `k`. -/
def RankJ (ok : Nat → Nat → Bool) (n M k r S : Nat) (l : List Nat) : Prop :=
  S = frS M (l.take k) ∧ S < 2 ^ n ∧ szS S = n - k ∧ r ≤ 134217728 * k ∧ rkM ok n n M l = (rkM ok n (n - k) S (l.drop k)).map (r + ·)
structure SlotsR where
  (x8 x9 x10 x11 x18 x19 x20 x21 x22 x23 x24 x25 x26 x27 x28 x29 x30 x31 x32 x33 x34 x35 x36 x37 x38 x39 x40 x41 x42 x43 x44 x45 x46 x47 x48 x49 x50 x51 x52 x53 x54 x55 : Value)

set_option maxHeartbeats 4000000 in
set_option maxRecDepth 100000 in
theorem rank74 {w : World} {v : Value} {BA BC gA gC n N : Nat} {cs : List (List Int)} {lo hi : Int} {l : List Nat} (hA : SRow w BA gA n (alwL cs lo hi n)) (hC : Row w BC gC N (cwT (okM cs lo hi) n N)) (hN : N = 2 ^ n) (hn1 : 1 ≤ n) (hn8 : n ≤ 8)
    (hv : Reads w v (natI l)) (hl : l.length = n) (hd : l.Nodup) (hb : ∀ a ∈ l, a < n) :
    Calls Try.prog 74 #[.agg #[.slice (some ⟨gA, 0, none⟩) n n, .slice (some ⟨gC, 0, none⟩) N N], v] w (RankEnd w (rkM (okM cs lo hi) n n (2 ^ n - 1) l)) := by
  obtain ⟨vo, vc, rfl, _⟩ := hv.len
  have hll : (natI l).length = n := by rw [natI_len, hl]
  rw [hll] at hv ⊢
  have hfst := Lib.hid (fun (w : World) (k : Nat) (hk : k ≤ 8) => first67 (w := w) hk)
  have hf0 := Lib.hid (fun (w : World) => hfst.out w n hn8)
  refine (callsIn_wide (n := 9)).1 ?_
  refine callsIn_of_wp_marks Try.func74 rfl trivial ?_ rfl
  simp only [Try.ntmps74, List.size_toArray, List.length_cons, List.length_nil, Nat.reduceAdd, Nat.reduceSub, Array.replicate_succ, Array.replicate_zero, List.push_toArray, List.append_toArray, List.nil_append, List.cons_append]
  refine wpIn_wide.2 ?_
  obtain ⟨M, hM⟩ : ∃ M, M = 2 ^ n - 1 := ⟨_, rfl⟩
  have hM' := Lib.hid hM
  rw [← hM] at hf0 ⊢
  have hN256 := pow_le n hn8
  rw [← hN] at hN256
  have hst := Lib.hid (RankAt.begin w (M := M) hA hC)
  have hv' := Lib.hid hv
  have hl' := Lib.hid hl
  have hd' := Lib.hid hd
  have hb' := Lib.hid hb
  have hll' := Lib.hid hll
  have hN' := Lib.hid hN
  have hj0 := Lib.hid (show RankJ (okM cs lo hi) n M 0 0 M l from ⟨rfl, by have := Nat.pow_pos (n := n) (show 0 < 2 by decide); omega, by rw [hM, szS_full n hn8]; rfl, by omega, by
    rw [List.drop_zero, Nat.sub_zero]; cases rkM (okM cs lo hi) n n M l <;> simp⟩)
  have hal := Lib.hid (fun (i : Nat) (h : i < n) => alwL_at (cs := cs) (lo := lo) (hi := hi) h)
  have hcw := Lib.hid (fun (T : Nat) (h : T < 2 ^ n) => cwT_full (okM cs lo hi) h)
  clear hA hC hv hl hd hb hll hN hM
  obtain ⟨al, hal2⟩ : ∃ al, al = alwL cs lo hi n := ⟨_, rfl⟩
  rw [← hal2] at hst hal
  clear hal2
  obtain ⟨ok, hok⟩ : ∃ ok, ok = okM cs lo hi := ⟨_, rfl⟩
  rw [← hok] at hj0 hal hcw hst ⊢
  rw [← hN'.out] at hcw
  obtain ⟨xs, hxs⟩ : ∃ xs, xs = cwT ok n N := ⟨_, rfl⟩
  rw [← hxs] at hst hcw
  clear hok hxs
  go_wp2_with fail
  refine (hf0.out _).mono ?_
  rintro e w1 ⟨rfl, rfl⟩
  go_wp2_with fail
  obtain ⟨W0, hW0⟩ : ∃ W0, W0 = (((w.alloc (.cells #[.slice (some ⟨gA, 0, none⟩) n n, .slice (some ⟨gC, 0, none⟩) N N] 98)).alloc (.cells #[.int .i64 0] 3)).alloc (.cells #[.int .u64 (M : Int)] 91)) := ⟨_, rfl⟩
  rw [← hW0] at hst ⊢
  clear hW0
  obtain ⟨b, hb⟩ : ∃ b, b = w.heap.size := ⟨_, rfl⟩
  rw [← hb] at hst ⊢
  clear hb
  refine wp_loop (fun a' w' => ∃ (k r S : Nat) (Ds : List Nat) (X : SlotsR), k ≤ n ∧ Hid (RankAt w w' b BA BC gA gC n N al xs r S Ds) ∧ Hid (RankJ ok n M k r S l) ∧ a' = { tmps := #[.agg #[.slice (some ⟨gA, 0, none⟩) n n, .slice (some ⟨gC, 0, none⟩) N N], .slice vo n vc, .pointer (some ⟨b, 0, none⟩), undef, .int .i64 0, .bool false, .pointer (some ⟨b + 1, 0, none⟩), .pointer (some ⟨b + 1 + 1, 0, none⟩), X.x8, X.x9, X.x10, X.x11, .slice vo n vc, .int .i64 n, .int .u64 M, .slice vo n vc, .int .i64 n, .int .i64 k, X.x18, X.x19, X.x20, X.x21, X.x22, X.x23, X.x24, X.x25, X.x26, X.x27, X.x28, X.x29, X.x30, X.x31, X.x32, X.x33, X.x34, X.x35, X.x36, X.x37, X.x38, X.x39, X.x40, X.x41, X.x42, X.x43, X.x44, X.x45, X.x46, X.x47, X.x48, X.x49, X.x50, X.x51, X.x52, X.x53, X.x54, X.x55, undef], defers := Ds.map mark })
    (fun a' w' => n - (intOf (a'.tmps.getD 17 undef)).toNat) ?_ ?_
  · exact ⟨0, 0, M, [], ⟨_, _, _, _, _, _, _, _, _, _, _, _, _, _, _, _, _, _, _, _, _, _, _, _, _, _, _, _, _, _, _, _, _, _, _, _, _, _, _, _, _, _⟩, Nat.zero_le _, hst, hj0, rfl⟩
  rintro a' wr ⟨k, r, S, Ds, X, hk, hat, hj, rfl⟩
  clear hst hj0
  obtain ⟨ds, hds⟩ : ∃ ds, ds = Ds.map mark := ⟨_, rfl⟩
  rw [← hds]
  have hds' := Lib.hid hds
  clear hds
  by_cases hkn : k < n
  · obtain ⟨hJ1, hJ2, hJ3, hJ4, hJ5⟩ := hj.out
    have hkl : k < l.length := by rw [hl'.out]; exact hkn
    obtain ⟨g, o, rfl, hg, hc1⟩ := hv'.out.at hll'.out hkn
    have cv := (hat.out.be.cell (p := ⟨g, o + k, none⟩) hg).trans (hc1 k hkn)
    rw [natI_at l k hkl] at cv
    have hmx : l.getD k 0 = l[k] := by simp [List.getD_eq_getElem?_getD, hkl]
    have hxn := hb'.out (l.getD k 0) (by rw [hmx]; exact List.getElem_mem hkl)
    have hbit : S.testBit (l.getD k 0) = true := by
      rw [hJ1, frS_bit, hM'.out, full_bit, decide_eq_true hxn, Bool.true_and, Bool.not_eq_true', decide_eq_false_iff_not]
      intro hin
      obtain ⟨i, hi, e⟩ := List.getElem_of_mem hin
      rw [List.length_take] at hi
      rw [List.getElem_take, hmx] at e
      have := (List.getElem_inj hd'.out).1 e
      omega
    have hdr := drop_nat l k hkl
    have htk := Lib.hid (show l.take (k + 1) = l.take k ++ [l.getD k 0] by rw [List.take_succ_eq_append_getElem hkl, hmx])
    obtain ⟨x, hxq⟩ : ∃ x, x = l.getD k 0 := ⟨_, rfl⟩
    rw [← hxq] at cv hxn hbit hdr htk
    clear hc1 hmx hxq
    have hx8 : x < 8 := by omega
    have hS8 : S < 256 := Nat.lt_of_lt_of_le hJ2 (by rw [← hN'.out]; exact hN256)
    obtain ⟨q, hq⟩ : ∃ q, n - k = q + 1 := ⟨n - k - 1, by omega⟩
    have hqk : n - (q + 1) = k := by omega
    have hq2 : n - (k + 1) = q := by omega
    have hstep := Lib.hid (show rkM ok n n M l = (if ok k x then (rkM ok n q (clr S x) (l.drop (k + 1))).map (lowR ok n q S x + ·) else none).map (r + ·) by
      rw [hJ5, hdr, hq, rkM, hqk])
    have c0 := hat.out.c0
    have cA := hat.out.hA.cell (j := k) hkn
    have hA := hal.out k hkn
    obtain ⟨A, hAq⟩ : ∃ A, A = al.getD k 0 := ⟨_, rfl⟩
    rw [← hAq] at cA hA
    have hA8 : A < 256 := by rw [hA]; exact maskTo_lt (n := 8) _ hn8
    have hAb : A.testBit x = ok k x := by rw [hA, maskTo_bit, decide_eq_true hxn, Bool.true_and]
    have hh := Lib.hid (fun (w : World) => has87 (w := w) (S := A) (j := x) hA8)
    rw [hAb] at hh
    have hAb' := Lib.hid (show ∀ y, A.testBit y = (decide (y < n) && ok k y) from fun y => by rw [hA, maskTo_bit])
    have hJ4' := hJ4
    obtain ⟨t, ht⟩ : ∃ t, t = ok k x := ⟨_, rfl⟩
    rw [← ht] at hh hstep
    have hj' := Lib.hid (show S = frS M (l.take k) ∧ szS S = n - k from ⟨hJ1, hJ3⟩)
    clear hJ1 hJ3 hJ4' hJ5 hdr hAq hA hAb ht hj
    cases t with
    | false =>
      have hfin := Lib.hid (show rkM ok n n M l = none by rw [hstep.out]; rfl)
      go_wp2_with fail
      refine (hh.out _).mono ?_
      rintro e w1 ⟨rfl, rfl⟩
      go_wp2_with fail
      show LeavesInM _ _ _ _ _ _ _ _ _
      rw [hds'.out]
      refine leaves_marks (b + 3) (fun W => Below w.heap.size w W) ?_ ?_ Ds _ hat.out.be hat.out.ms
      · exact fun W D kb hD hK => below_put kb (by have := hat.out.hb; omega) hK
      · exact fun W kb => ⟨_, results_tmp2 rfl _ _ _, by rw [hfin.out]; rfl, kb⟩
    | true =>
      have cS := hat.out.cS
      have and1 := and_tab hS8 hA8
      have hD8 : S &&& A < 256 := Nat.lt_of_le_of_lt Nat.and_le_left hS8
      have hP8 : 2 ^ x - 1 < 256 := by have := pow_le x (by omega); omega
      have and2 := and_tab hD8 hP8
      have hfx := Lib.hid (fun (W : World) => qs (first67 (w := W) (n := x) (by omega)))
      have hC8 : S &&& A &&& (2 ^ x - 1) < 256 := Nat.lt_of_le_of_lt Nat.and_le_left hD8
      have hCb := Lib.hid (show ∀ y, (S &&& A &&& (2 ^ x - 1)).testBit y = (S.testBit y && (decide (y < n) && ok k y) && decide (y < x)) from fun y => by
        rw [Nat.testBit_and, Nat.testBit_and, hAb'.out, full_bit])
      obtain ⟨C, hC⟩ : ∃ C, C = S &&& A &&& (2 ^ x - 1) := ⟨_, rfl⟩
      rw [← hC] at and2 hC8 hCb
      obtain ⟨P, hP⟩ : ∃ P, P = 2 ^ x - 1 := ⟨_, rfl⟩
      rw [← hP] at and2 hfx
      obtain ⟨D1, hD1⟩ : ∃ D1, D1 = S &&& A := ⟨_, rfl⟩
      rw [← hD1] at and1 and2
      clear hC hP hD1 hD8 hP8
      go_wp2_with fail
      refine (hh.out _).mono ?_
      rintro e w1 ⟨rfl, rfl⟩
      go_wp2_with fail
      go_quiet ((go_at_call 67; exact Calls.quiet_of_same (hfx.out _)))
      go_wp2_with fail
      have hat2 := Lib.hid (hat.out.drewN nq)
      obtain ⟨wj, hwj⟩ : ∃ wj, wj = World.drewN wr nq := ⟨_, rfl⟩
      rw [← hwj] at hat2 ⊢
      clear hwj hat c0 cA cS cv
      have hpl := Lib.hid (pre_low (ok := ok) (n := n) (k := q) (S := S) (C := C) (j := x) hn8 (by rw [hj'.out.2, hq]) hxn (by rw [hqk]; exact hCb.out))
      refine wpIn_wide.1 (wpIn_each (n := 9) (by omega) hC8 (by rfl) rfl
        (fun i W => Hid (RankAt w W b BA BC gA gC n N al xs (r + preS ok n S (bl C) i) S Ds) ∧ wj.heap.size ≤ W.heap.size) ?hI ?h0
        (fun y => { tmps := #[.agg #[.slice (some ⟨gA, 0, none⟩) n n, .slice (some ⟨gC, 0, none⟩) N N], .slice (some ⟨g, o, none⟩) n vc, .pointer (some ⟨b, 0, none⟩), undef, .int .i64 0, .bool false, .pointer (some ⟨b + 1, 0, none⟩), .pointer (some ⟨b + 1 + 1, 0, none⟩), .int .i64 k, .int .i64 x, .int .u64 C, .int .i64 y, .slice (some ⟨g, o, none⟩) n vc, .int .i64 n, .int .u64 M, .slice (some ⟨g, o, none⟩) n vc, .int .i64 n, .int .i64 k, .bool true, .int .i64 k, .pointer (some ⟨g, o + k, none⟩), .int .i64 x, .pointer (some ⟨b, 0, none⟩), .slice (some ⟨gA, 0, none⟩) n n, .int .i64 k, .pointer (some ⟨gA, k, none⟩), .int .u64 A, .int .i64 x, .bool true, .bool false, .int .u64 S, .pointer (some ⟨b, 0, none⟩), .slice (some ⟨gA, 0, none⟩) n n, .int .i64 k, .pointer (some ⟨gA, k, none⟩), .int .u64 A, .int .u64 D1, .int .i64 x, .int .u64 P, .int .u64 C, .int .u64 C, .func (.func 78) #[.int .u64 C] #[], .int .i64 y, X.x43, X.x44, X.x45, X.x46, X.x47, X.x48, X.x49, X.x50, X.x51, X.x52, X.x53, X.x54, X.x55, undef], defers := [] }) ?assign ?body ?done)
      case hI =>
        intro i W W' row hs hg hr
        exact ⟨Lib.hid (hs.1.out.kept (L := wj.heap.size) hat2.out.sz (fun D hD => hat2.out.ms.lt hD) hg (fun r e => hr r e)), Nat.le_trans hs.2 hg.size⟩
      case h0 => exact ⟨hat2, Nat.le_refl _⟩
      case assign =>
        intro l x W K hK
        gi_wp2
        exact hK
      case body =>
        rintro l1 i y W ⟨hIW, hszW⟩ hy
        have h1 : 1 ≤ 9 - 1 - 1 := by omega
        obtain ⟨hy8, hyb⟩ := bl_mem hy
        have hyS : S.testBit y = true := by
          have := hCb.out y
          rw [hyb] at this
          simp only [Bool.true_eq, Bool.and_eq_true] at this
          exact this.1.1
        obtain ⟨hq3, hq4⟩ := szS_clr S hS8 y hy8 hyS
        have hpre := preS_succ ok n S (bl C) i y hy
        have hpb := preS_bd ok hn8 S C i
        have hpb2 := preS_bd ok hn8 S C (i + 1)
        have hSN : S < N := by rw [hN'.out]; exact hJ2
        have hTN : clr S y < N := by omega
        have c1 := hIW.out.c1
        have cr := hIW.out.cr
        have fr := hIW.out.fr
        have cS := hIW.out.cS
        have cT := hIW.out.hC.cell (j := clr S y) hTN
        rw [hcw.out _ hTN, show szS (clr S y) = szS S - 1 by omega] at cT
        obtain ⟨Y, hY⟩ : ∃ Y, Y = cw ok n (szS S - 1) (clr S y) := ⟨_, rfl⟩
        obtain ⟨R, hR⟩ : ∃ R, R = preS ok n S (bl C) i := ⟨_, rfl⟩
        rw [← hY] at cT hpre
        rw [← hR] at cr hpre hpb hIW
        rw [hpre] at hpb2
        obtain ⟨T, hT⟩ : ∃ T, T = clr S y := ⟨_, rfl⟩
        have hwo := Lib.hid (fun (W : World) => qs (without79 (w := W) hS8 hy8))
        rw [← hT] at cT hTN hwo
        have hpre' := Lib.hid hpre
        have s1 : IntKind.i64.wrap (((r + R : Nat) : Int) + (Y : Int)) = ((r + (R + Y) : Nat) : Int) := by
          rw [IntWalk.i64_in _ (by omega)]; omega
        have hset := Lib.hid ((hIW.out.setR (r + (R + Y))).drew)
        obtain ⟨V, hV⟩ : ∃ V, V = r + R := ⟨_, rfl⟩
        rw [← hV] at cr s1
        obtain ⟨U, hU⟩ : ∃ U, U = r + (R + Y) := ⟨_, rfl⟩
        rw [← hU] at s1 hset
        have hU' := Lib.hid hU
        clear hY hR hpre hT hyS hyb hq3 hq4 hpb hpb2 hV hU hIW
        gi_wp2_with fail
        refine inRound_still_tail 9 (by kernel_rfl) (by kernel_rfl) (by kernel_rfl) ?_
        simp only [List.take_succ_cons, List.take_zero, List.drop_succ_cons, List.drop_zero]
        change wpStill _ _ W.drew _ _ _
        iterate 5 still_step
        still_call (hwo.out _)
        iterate 3 still_step
        refine wpStill_nil ?_
        go_wp2_with fail
        refine ⟨((KeepsOthers.setCell W _ _).trans (KeepsOthers.drew _)).from _, Lib.hid ?_, ?_⟩
        · rw [hpre'.out, ← hU'.out]; exact hset.out
        · show wj.heap.size ≤ (W.setCell _ _).heap.size
          simpa using hszW
      case done =>
        rintro D W hD ⟨hIW, hszW⟩ hK
        rw [hpl.out] at hIW
        have hcons := Lib.hid (hIW.out.cons (D := D) (L := wj.heap.size) hat2.out.sz (fun E hE => hat2.out.ms.lt hE) hD hK)
        have hwo := Lib.hid (fun (W : World) => without79 (w := W) hS8 hx8)
        have cS := hcons.out.cS
        have fS := hcons.out.fS
        have hfin := Lib.hid (hcons.out.setS (clr S x))
        have hlow : lowR ok n q S x ≤ 134217728 := by rw [← hpl.out]; exact preS_bd ok hn8 S C _
        have hjn := Lib.hid (show RankJ ok n M (k + 1) (r + lowR ok n q S x) (clr S x) l from ⟨by rw [htk.out, frS_snoc, ← hj'.out.1], clr_lt hJ2, by
          have := (szS_clr S hS8 x hx8 hbit).1; have := hj'.out.2; omega, by omega, by
          rw [hstep.out, hq2]
          simp only [if_true, Option.map_map]
          congr 1
          funext z
          show r + (lowR ok n q S x + z) = r + lowR ok n q S x + z
          omega⟩)
        obtain ⟨T, hT⟩ : ∃ T, T = clr S x := ⟨_, rfl⟩
        rw [← hT] at hwo hfin hjn
        clear hT hK hIW
        go_wp2_with fail
        refine (hwo.out _).mono ?_
        rintro e w1 ⟨rfl, rfl⟩
        go_wp2_with fail
        refine ⟨⟨k + 1, r + lowR ok n q S x, T, D :: Ds, ⟨_, _, _, _, _, _, _, _, _, _, _, _, _, _, _, _, _, _, _, _, _, _, _, _, _, _, _, _, _, _, _, _, _, _, _, _, _, _, _, _, _, _⟩, by omega, hfin, hjn, by rw [hds'.out]; rfl⟩, ?_⟩
        simp [intOf]; omega
  · obtain rfl : n = k := by omega
    have hfin := Lib.hid (show rkM ok n n M l = some r by
      rw [hj.out.2.2.2.2, Nat.sub_self, List.drop_of_length_le (by rw [hl'.out]; omega)]; rfl)
    have cr := hat.out.cr
    go_wp2_with fail
    show LeavesInM _ _ _ _ _ _ _ _ _
    rw [hds'.out]
    refine leaves_marks (b + 3) (fun W => Below w.heap.size w W) ?_ ?_ Ds _ hat.out.be hat.out.ms
    · exact fun W D kb hD hK => below_put kb (by have := hat.out.hb; omega) hK
    · exact fun W kb => ⟨_, results_tmp2 rfl _ _ _, by rw [hfin.out]; rfl, kb⟩
end Go.Proofs.Ytfobdlllghpelaa
