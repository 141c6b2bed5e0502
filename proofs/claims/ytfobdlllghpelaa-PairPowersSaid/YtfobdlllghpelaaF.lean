import Derived.Test.YtfobdlllghpelaaE
import Derived.Deep.RegionLaw
namespace Go.Proofs.Ytfobdlllghpelaa
open Go.RowKit Pair

theorem info91 : (Try.prog.info? 91).map (fun i => (i.zero, i.size, i.bytes)) = some (some (.int .u64 0), 1, 8) := by kernel_rfl
def setV (x : Nat) : Value := .int .u64 (x : Int)
/-- A row of sets of one's own that is written to. -/
def SRow (w : World) (B g n : Nat) (xs : List Nat) : Prop := w.ownsRow B 91 1 (.slice (some ⟨g, 0, none⟩) n n) n (xs.map setV) ∧ xs.length = n
theorem SRow.below {w w' : World} {B g n : Nat} {xs : List Nat} (h : SRow w B g n xs) (hb : Below w.heap.size w w') : SRow w' B g n xs := ⟨own_below h.1 hb, h.2⟩
theorem SRow.base {w : World} {B B' g n : Nat} {xs : List Nat} (h : SRow w B g n xs) (hb : B' ≤ B) : SRow w B' g n xs := ⟨own_base h.1 hb, h.2⟩
theorem SRow.cell {w : World} {B g n : Nat} {xs : List Nat} (h : SRow w B g n xs) {j : Nat} (hj : j < n) : w.cell? ⟨g, j, none⟩ = some (.int .u64 ((xs.getD j 0 : Nat) : Int)) := by
  rw [h.1.cellAt j (by omega)]
  have := h.2
  simp [List.getD_eq_getElem?_getD, show j < xs.length by omega, setV]
theorem SRow.frozen {w : World} {B g n : Nat} {xs : List Nat} (h : SRow w B g n xs) (j : Nat) : w.frozen? ⟨g, j, none⟩ = false := h.1.frozenAt j
theorem SRow.set {w : World} {B g n : Nat} {xs : List Nat} (h : SRow w B g n xs) (j y : Nat) : SRow (w.setCell ⟨g, j, none⟩ (.int .u64 (y : Int))) B g n (xs.set j y) := by
  refine ⟨?_, by rw [List.length_set]; exact h.2⟩
  rw [List.map_set]; exact (h.1.stored j _).1
theorem SRow.lt {w : World} {B g n : Nat} {xs : List Nat} (h : SRow w B g n xs) : B ≤ g ∧ g < w.heap.size := by
  rcases h.1.2 with ⟨h', _⟩ | ⟨g', cap', cur, h', hB, hg, _⟩
  · simp at h'
  · simp only [Value.slice.injEq, Option.some.injEq, Addr.mk.injEq, and_true, true_and] at h'
    obtain ⟨rfl, rfl⟩ := h'
    exact ⟨hB, (Array.getElem?_eq_some_iff.1 hg).1⟩
/-- make([]set, n) at the model's operation. -/
theorem make_sets {ops : Array Oper} {rest : List Oper} {o : Oper} {a : Act} {Q : Exit → Act → World → Prop} {w : World} {B : Nat}
    (n : Nat) (hC : n ≤ 1000000) (hB : B ≤ w.heap.size) (hg : o.guard = none) (l c : Operand) (hop : o.op = Op.makeSlice 88 l c)
    (hl : a.eval l = .int .i64 (n : Int)) (hc : a.eval c = .int .i64 (n : Int))
    (hK : ∀ w', SRow w' B w.heap.size n (List.replicate n 0) → Below B w w' → wpList Try.prog ops Q rest (a.put o.dst (.slice (some ⟨w.heap.size, 0, none⟩) n n)) w') :
    wpList Try.prog ops Q (o :: rest) a w := by
  obtain ⟨i0, hi, hz0, hz1, hz2⟩ := info_parts info91
  refine wpList_plain hg fun K hK' => ?_
  have hr := run_make (P := Try.prog) w 88 91 i0 (.int .u64 0) Try.underlying88 hi hz0 .i64 .i64 (n : Int) (n : Int) (by omega) (by omega) (by rw [hz2]; omega) (by omega)
  simp only [Int.toNat_natCast, hz1, Nat.mul_one] at hr
  unfold Oper.wp
  simp [execOp, hop, hl, hc, hr, Result.andThen]
  refine hK' _ _ (hK _ ⟨⟨by simp, .inr ⟨w.heap.size, n, _, rfl, hB, heap_alloc_new w _, Nat.le_refl _, by unfold maxLen; omega, by simp [size_madeCells], ?_⟩⟩, by simp⟩ ((Below.refl _ _).alloc hB _))
  show (madeCells #[Value.int .u64 0] n).toList.take (n * 1) = _
  rw [toList_madeCells_one, Nat.mul_one, List.take_replicate, Nat.min_self, List.map_replicate]; rfl

/-! ## The allowed columns -/
def costAt (cs : List (List Int)) (i j : Nat) : Int := (cs.getD i []).getD j 0
/-- A pair is within limits. -/
def okM (cs : List (List Int)) (lo hi : Int) (i j : Nat) : Bool := decide (lo ≤ costAt cs i j) && decide (costAt cs i j ≤ hi)
/-- The set of the first columns that are allowed. -/
def maskTo (ok : Nat → Bool) : Nat → Nat
  | 0 => 0
  | j + 1 => if ok j then maskTo ok j ||| 2 ^ j else maskTo ok j
theorem maskTo_bit (ok : Nat → Bool) (x : Nat) : ∀ k, (maskTo ok k).testBit x = (decide (x < k) && ok x)
  | 0 => by simp [maskTo]
  | k + 1 => by
    unfold maskTo
    by_cases h : ok k = true
    · rw [if_pos h, Nat.testBit_or, maskTo_bit ok x k, Nat.testBit_two_pow]
      by_cases e : x = k
      · subst e; simp [h]
      · have : decide (x < k) = decide (x < k + 1) := by rw [Bool.eq_iff_iff]; simp; omega
        simp [Ne.symm e, this]
    · rw [if_neg h, maskTo_bit ok x k]
      by_cases e : x = k
      · subst e; simp_all
      · have : decide (x < k) = decide (x < k + 1) := by rw [Bool.eq_iff_iff]; simp; omega
        rw [this]
theorem maskTo_lt (ok : Nat → Bool) {k n : Nat} (h : k ≤ n) : maskTo ok k < 2 ^ n :=
  Nat.lt_pow_two_of_testBit _ fun i hi => by rw [maskTo_bit]; simp; omega
theorem or_tab : ∀ S : Nat, S < 256 → ∀ j : Nat, j < 8 → bits BinOp.or IntKind.u64 (S : Int) (IntKind.u64.wrap (2 ^ j)) = ((S ||| 2 ^ j : Nat) : Int) := by decide +kernel
def alwL (cs : List (List Int)) (lo hi : Int) (n : Nat) : List Nat := (List.range n).map fun i => maskTo (okM cs lo hi i) n
/-- While they are found: the first rows are done. -/
def alwTo (cs : List (List Int)) (lo hi : Int) (n i q : Nat) : List Nat := (List.range n).map fun x => if x < i then maskTo (okM cs lo hi x) n else if x = i then maskTo (okM cs lo hi x) q else 0
theorem alwTo_zero (cs : List (List Int)) (lo hi : Int) (n : Nat) : alwTo cs lo hi n 0 0 = List.replicate n 0 := by
  refine List.ext_getElem (by simp [alwTo]) fun i h1 h2 => ?_
  simp only [alwTo, List.getElem_map, List.getElem_range, List.getElem_replicate]
  split <;> first | omega | (split <;> rfl)
theorem alwTo_next (cs : List (List Int)) (lo hi : Int) (n i : Nat) : alwTo cs lo hi n i n = alwTo cs lo hi n (i + 1) 0 := by
  unfold alwTo
  refine List.map_congr_left fun x _ => ?_
  by_cases h : x < i
  · simp [h, show x < i + 1 by omega]
  · by_cases e : x = i
    · subst e; simp
    · simp [h, e, show ¬ x < i + 1 by omega]; intro _; rfl
theorem alwTo_all (cs : List (List Int)) (lo hi : Int) (n : Nat) : alwTo cs lo hi n n 0 = alwL cs lo hi n := by
  unfold alwTo alwL
  refine List.map_congr_left fun x hx => ?_
  rw [if_pos (List.mem_range.1 hx)]
theorem alwTo_at (cs : List (List Int)) (lo hi : Int) (n i q : Nat) (h : i < n) : (alwTo cs lo hi n i q).getD i 0 = maskTo (okM cs lo hi i) q := by
  unfold alwTo; simp [List.getD_eq_getElem?_getD, h]
theorem alwTo_no (cs : List (List Int)) (lo hi : Int) (n i q : Nat) (h : okM cs lo hi i q = false) : alwTo cs lo hi n i (q + 1) = alwTo cs lo hi n i q := by
  unfold alwTo
  refine List.map_congr_left fun x _ => ?_
  by_cases e : x = i
  · subst e; simp [maskTo, h]
  · simp [e]
theorem alwTo_yes (cs : List (List Int)) (lo hi : Int) (n i q : Nat) (h : okM cs lo hi i q = true) : alwTo cs lo hi n i (q + 1) = (alwTo cs lo hi n i q).set i (maskTo (okM cs lo hi i) q ||| 2 ^ q) := by
  refine List.ext_getElem (by simp [alwTo]) fun x h1 h2 => ?_
  rw [List.getElem_set]
  simp only [alwTo, List.getElem_map, List.getElem_range]
  by_cases e : i = x
  · subst e; simp [maskTo, h]
  · simp [e, Ne.symm e]
theorem alwTo_len (cs : List (List Int)) (lo hi : Int) (n i q : Nat) : (alwTo cs lo hi n i q).length = n := by simp [alwTo]

/-- Square costs. -/
structure Sq (w : World) (v : Value) (cs : List (List Int)) (n : Nat) : Prop where
  reads : ReadsG w v cs
  len : cs.length = n
  row : ∀ i, i < n → (cs.getD i []).length = n
theorem Sq.below {w w' : World} {v : Value} {cs : List (List Int)} {n : Nat} (h : Sq w v cs n) (hb : Below w.heap.size w w') : Sq w' v cs n := ⟨h.reads.below hb, h.len, h.row⟩
theorem Sq.val {w : World} {v : Value} {cs : List (List Int)} {n : Nat} (h : Sq w v cs n) : ∃ ao c, v = .slice ao n c := by
  obtain ⟨ao, c, e, _⟩ := h.reads; exact ⟨ao, c, by rw [e, h.len]⟩
theorem Sq.at {w : World} {ao : Option Addr} {c n : Nat} {cs : List (List Int)} (h : Sq w (.slice ao n c) cs n) {k : Nat} (hk : k < n) :
    ∃ g o, ao = some ⟨g, o, none⟩ ∧ g < w.heap.size ∧ ∃ g2 o2 rc, w.cell? ⟨g, o + k, none⟩ = some (.slice (some ⟨g2, o2, none⟩) n rc) ∧ g2 < w.heap.size ∧ ∀ j, j < n → w.cell? ⟨g2, o2 + j, none⟩ = some (.int .i64 (costAt cs k j)) := by
  obtain ⟨g, o, rfl, hg, ro, rc, h1, h2⟩ := h.reads.at h.len hk
  rw [h.row k hk] at h1 h2
  obtain ⟨g2, o2, rfl, hg2, hc⟩ := h2.at (h.row k hk) (k := k) hk
  exact ⟨g, o, rfl, hg, g2, o2, rc, h1, hg2, hc⟩

set_option maxHeartbeats 2000000 in
set_option maxRecDepth 100000 in
theorem allowed62 {w : World} {v : Value} {cs : List (List Int)} {n : Nat} (hv : Sq w v cs n) (hn8 : n ≤ 8) (lo hi : Int) :
    Calls Try.prog 62 #[v, .int .i64 lo, .int .i64 hi] w fun e w' => ∃ g, e = .returned (.slice (some ⟨g, 0, none⟩) n n) ∧ SRow w' w.heap.size g n (alwL cs lo hi n) ∧ Below w.heap.size w w' := by
  obtain ⟨ao, c, rfl⟩ := hv.val
  have hv' := Lib.hid hv
  clear hv
  go_enter Try.func62, Try.ntmps62
  go_wp2_with (first | (at_make; refine make_sets n (by omega) (Nat.le_refl w.heap.size) rfl _ _ rfl rfl rfl ?_; intro w1 hr1 hb1))
  obtain ⟨g, hgq⟩ : ∃ g, g = w.heap.size := ⟨_, rfl⟩
  rw [← hgq] at hr1 hb1 ⊢
  have hgq' := Lib.hid hgq
  have hb1' := Lib.hid hb1
  have hsz := hb1.size
  have hlt1 := hr1.lt.2
  clear hgq
  go_loopw [16] (fun i wr => ∃ k : Nat, k ≤ n ∧ i = .int .i64 k ∧ SRow wr g g n (alwTo cs lo hi n k 0) ∧ Below g w wr) (fun i _ => n - (intOf i).toNat)
  case atStart => exact ⟨0, Nat.zero_le _, rfl, by rw [alwTo_zero]; exact hr1, hb1⟩
  case round =>
    obtain ⟨k, hk, rfl, hrow, hb⟩ := hrel
    obtain ⟨wo, rfl⟩ : ∃ wo : World, wo = wr := ⟨_, rfl⟩
    by_cases hlt : k < n
    · obtain ⟨g1, o1, rfl, hg1, g2, o2, rc, c1, hg2, hc2⟩ := hv'.out.at hlt
      have cc1 := (hb.cell (p := ⟨g1, o1 + k, none⟩) (by rw [hgq'.out]; exact hg1)).trans c1
      have hc2' := Lib.hid hc2
      clear c1 hc2
      go_wp2
      go_loopw [24] (fun i wr => ∃ q : Nat, q ≤ n ∧ i = .int .i64 q ∧ SRow wr g g n (alwTo cs lo hi n k q) ∧ Below g w wr) (fun i _ => n - (intOf i).toNat)
      case atStart => exact ⟨0, Nat.zero_le _, rfl, hrow, hb⟩
      case round =>
        clear hrow hb cc1
        obtain ⟨q, hq, rfl, hrow, hb⟩ := hrel
        by_cases hqt : q < n
        · have c2 := (hb.cell (p := ⟨g2, o2 + q, none⟩) (by rw [hgq'.out]; exact hg2)).trans (hc2'.out q hqt)
          obtain ⟨x, hx⟩ : ∃ x, x = costAt cs k q := ⟨_, rfl⟩
          rw [← hx] at c2
          have hx' := Lib.hid hx
          clear hx
          by_cases hlo : lo ≤ x
          · by_cases hhi : x ≤ hi
            · have hyes := Lib.hid (alwTo_yes cs lo hi n k q (by unfold okM; rw [← hx'.out]; simp [hlo, hhi]))
              have c3 := hrow.cell hlt
              rw [alwTo_at _ _ _ _ _ _ hlt] at c3
              have f3 := hrow.frozen k
              obtain ⟨M, hM⟩ : ∃ M, M = maskTo (okM cs lo hi k) q := ⟨_, rfl⟩
              have hM2 : M < 256 := by rw [hM]; exact maskTo_lt (n := 8) _ (by omega)
              rw [← hM] at c3 hyes
              have hor := or_tab M hM2 q (by omega)
              have hset := hrow.set k (M ||| 2 ^ q)
              have hb2 := Lib.hid (below_set (k := k) (u := .int .u64 ((M ||| 2 ^ q : Nat) : Int)) hb (Nat.le_refl g))
              have hset' := Lib.hid hset
              clear hM hset
              go_wp2
              go_region
              go_wp2
              go_roundw
              case rel => exact ⟨q + 1, by omega, by go_num, by rw [hyes.out]; exact hset'.out.below (Below.refl _ _).drew, hb2.out.drew⟩
              case measure => simp [intOf]; omega
            · have hno := Lib.hid (alwTo_no cs lo hi n k q (by unfold okM; rw [← hx'.out]; simp [hhi]))
              have hd : decide (x ≤ hi) = false := by simpa using hhi
              go_wp2
              go_roundw
              case rel => exact ⟨q + 1, by omega, by go_num, by rw [hno.out]; exact hrow, hb⟩
              case measure => simp [intOf]; omega
          · have hno := Lib.hid (alwTo_no cs lo hi n k q (by unfold okM; rw [← hx'.out]; simp [hlo]))
            have hd : decide (lo ≤ x) = false := by simpa using hlo
            go_wp2
            go_roundw
            case rel => exact ⟨q + 1, by omega, by go_num, by rw [hno.out]; exact hrow, hb⟩
            case measure => simp [intOf]; omega
        · obtain rfl : q = n := by omega
          have hnx := Lib.hid (alwTo_next cs lo hi q k)
          go_wp2
          go_roundw
          case rel => exact ⟨k + 1, by omega, by go_num, by rw [← hnx.out]; exact hrow, hb⟩
          case measure => simp [intOf]; omega
    · obtain rfl : k = n := by omega
      have hall := Lib.hid (alwTo_all cs lo hi k)
      have hb2 := Lib.hid hb
      have hrow' := Lib.hid hrow
      clear hrow hb
      go_wp2
      go_ret
      exact ⟨g, rfl, by rw [← hall.out]; rw [← hgq'.out]; exact hrow'.out, by rw [← hgq'.out]; exact hb2.out⟩
end Go.Proofs.Ytfobdlllghpelaa
