import Derived.Test.YtpcjigdmfchbdaaDoorF
namespace Go.Proofs.YtpcjigdmfchbdaaDoor
open Go.RowKit Go.Shelf Cl

/-- The cells of a dispute. -/
def csD (n : Nat) (L : Atts) : Array Value := #[.int .i64 (n : Int), .int .u64 (tg L 0 : Int), .int .u64 (tg L 1 : Int), .int .u64 (tg L 2 : Int), .int .u64 (tg L 3 : Int), .int .u64 (tg L 4 : Int), .int .u64 (tg L 5 : Int), .int .u64 (tg L 6 : Int), .int .u64 (tg L 7 : Int), .int .u64 (tg L 8 : Int), .int .u64 (tg L 9 : Int), .int .u64 (tg L 10 : Int), .int .u64 (tg L 11 : Int), .int .u64 (ag L 0 : Int), .int .u64 (ag L 1 : Int), .int .u64 (ag L 2 : Int), .int .u64 (ag L 3 : Int), .int .u64 (ag L 4 : Int), .int .u64 (ag L 5 : Int), .int .u64 (ag L 6 : Int), .int .u64 (ag L 7 : Int), .int .u64 (ag L 8 : Int), .int .u64 (ag L 9 : Int), .int .u64 (ag L 10 : Int), .int .u64 (ag L 11 : Int)]
def tsD (L : Atts) : Array Value := #[.int .u64 (tg L 0 : Int), .int .u64 (tg L 1 : Int), .int .u64 (tg L 2 : Int), .int .u64 (tg L 3 : Int), .int .u64 (tg L 4 : Int), .int .u64 (tg L 5 : Int), .int .u64 (tg L 6 : Int), .int .u64 (tg L 7 : Int), .int .u64 (tg L 8 : Int), .int .u64 (tg L 9 : Int), .int .u64 (tg L 10 : Int), .int .u64 (tg L 11 : Int)]
/-- A dispute that may be. -/
structure OkD (n : Nat) (L : Atts) : Prop where
  nn : n ≤ 12
  within : Within n L
theorem OkD.tlt {n : Nat} {L : Atts} (h : OkD n L) (i : Nat) : tg L i < 4096 := lt12 h.nn (tg_lt h.within i)
theorem OkD.alt {n : Nat} {L : Atts} (h : OkD n L) (i : Nat) : ag L i < 4096 := lt12 h.nn (ag_lt h.within i)
theorem OkD.hlt {n : Nat} {L : Atts} (h : OkD n L) (S : Nat) : hit L S < 4096 := lt12 h.nn (hit_lt h.within S)
theorem OkD.dlt {n : Nat} {L : Atts} (h : OkD n L) (S : Nat) : dfd n L S < 4096 := lt12 h.nn (dfd_lt n L S)
theorem tsD_at (L : Atts) (i : Nat) (hi : i < 12) : (tsD L)[i]? = some (.int .u64 (tg L i : Int)) := by
  match i, hi with
  | 0, _ => rfl
  | 1, _ => rfl
  | 2, _ => rfl
  | 3, _ => rfl
  | 4, _ => rfl
  | 5, _ => rfl
  | 6, _ => rfl
  | 7, _ => rfl
  | 8, _ => rfl
  | 9, _ => rfl
  | 10, _ => rfl
  | 11, _ => rfl
theorem csD_a (n : Nat) (L : Atts) (i : Nat) (hi : i < 12) : (csD n L)[13 + i]? = some (.int .u64 (ag L i : Int)) := by
  match i, hi with
  | 0, _ => rfl
  | 1, _ => rfl
  | 2, _ => rfl
  | 3, _ => rfl
  | 4, _ => rfl
  | 5, _ => rfl
  | 6, _ => rfl
  | 7, _ => rfl
  | 8, _ => rfl
  | 9, _ => rfl
  | 10, _ => rfl
  | 11, _ => rfl
theorem csD_t (n : Nat) (L : Atts) (i : Nat) (hi : i < 12) : (csD n L)[1 + i]? = some (.int .u64 (tg L i : Int)) := by
  match i, hi with
  | 0, _ => rfl
  | 1, _ => rfl
  | 2, _ => rfl
  | 3, _ => rfl
  | 4, _ => rfl
  | 5, _ => rfl
  | 6, _ => rfl
  | 7, _ => rfl
  | 8, _ => rfl
  | 9, _ => rfl
  | 10, _ => rfl
  | 11, _ => rfl
set_option maxRecDepth 100000 in
theorem attacked59 {w : World} (hT : Tab w) {n : Nat} {L : Atts} (hD : OkD n L) {S : Nat} (hS : S < 4096) :
    Calls Tryd.prog 59 #[.agg (csD n L), .int .u64 (S : Int)] w (NumEnd w (hit L S)) := by
  have hb1 := below_alloc1 w (.cells (csD n L) 74)
  have hu := Lib.hid (union80 (hT.call hb1) (cs := tsD L) (f := tg L) rfl (tsD_at L) hD.tlt hS)
  have hb1' := Lib.hid hb1
  clear hT hD hb1
  unfold csD tsD at *
  go_enter Tryd.func59, Tryd.ntmps59
  go_wp2_with (first | (go_at_call 80; refine (hu.out).mono ?_; rintro e w1 ⟨rfl, hb⟩; have hb' := Lib.hid hb; clear hb))
  go_ret
  exact ⟨rfl, below_call hb1'.out hb'.out⟩
theorem cast_zero (a : Nat) : ((a : Int) == 0) = (a == 0) := by
  rw [Bool.eq_iff_iff, beq_iff_eq, beq_iff_eq]
  exact Int.natCast_eq_zero
theorem cast_beq (a b : Nat) : ((a : Int) == (b : Int)) = (a == b) := by
  rw [Bool.eq_iff_iff, beq_iff_eq, beq_iff_eq]
  exact Int.ofNat_inj
theorem fst_tab : ∀ n, n ≤ 12 → IntKind.u64.wrap (IntKind.u64.wrap (2 ^ n) - 1) = ((2 ^ n - 1 : Nat) : Int) := by decide +kernel
set_option maxRecDepth 100000 in
theorem all64 {w : World} {n : Nat} {L : Atts} (hD : OkD n L) :
    Calls Tryd.prog 64 #[.agg (csD n L)] w (NumEnd w (2 ^ n - 1)) := by
  have key := Lib.hid (fst_tab n hD.nn)
  have hn := hD.nn
  have hb1' := Lib.hid (below_alloc1 w (.cells (csD n L) 74))
  clear hD
  unfold csD at *
  go_enter Tryd.func64, Tryd.ntmps64
  go_wp2
  go_ret
  exact ⟨ret_i key.out, hb1'.out⟩

/-- A dispute lies in block `b`. -/
def DAt (W : World) (b n : Nat) (L : Atts) : Prop := b < W.heap.size ∧ ∀ j v, (csD n L)[j]? = some v → W.cell? ⟨b, j, none⟩ = some v
theorem DAt.new (w : World) (n : Nat) (L : Atts) (t : TypeId) : DAt (w.alloc (.cells (csD n L) t)) w.heap.size n L := ⟨by simp, fun j v h => by rw [cells_new]; exact h⟩
theorem DAt.below {w W : World} {b n : Nat} {L : Atts} (h : DAt w b n L) (hb : Below w.heap.size w W) : DAt W b n L := ⟨Nat.lt_of_lt_of_le h.1 hb.size, fun j v hj => (hb.cell (p := ⟨b, j, none⟩) h.1).trans (h.2 j v hj)⟩
theorem DAt.c0 {W : World} {b n : Nat} {L : Atts} (h : DAt W b n L) : W.cell? ⟨b, 0, none⟩ = some (.int .i64 (n : Int)) := h.2 0 _ rfl
theorem DAt.ca {W : World} {b n : Nat} {L : Atts} (h : DAt W b n L) {i : Nat} (hi : i < 12) : W.cell? ⟨b, 13 + i, none⟩ = some (.int .u64 (ag L i : Int)) := h.2 _ _ (csD_a n L i hi)
theorem size74 : (Tryd.prog.info? 74).map (·.size) = some 25 := by kernel_rfl
theorem wl74 {ops : Array Oper} {rest : List Oper} {o : Oper} {a : Act} {Q : Exit → Act → World → Prop} {W : World} {b n : Nat} {L : Atts} (hw : Region.wanted o (yielded ops a.tmps) = true) (x : Operand) (ho : o.op = .load 74 x)
    (hx : a.eval x = .pointer (some ⟨b, 0, none⟩)) (h : DAt W b n L) (hK : wpList Tryd.prog ops Q rest (a.put o.dst (.agg (csD n L))) W) : wpList Tryd.prog ops Q (o :: rest) a W := by
  unfold wpList
  rw [if_pos hw]
  exact .inl (wp_load_mid (P := Tryd.prog) 74 x ho b 0 hx (csD n L).toList _ (fun j v hj => by rw [Nat.zero_add]; exact h.2 j v (by simpa using hj)) Tryd.underlying74 rfl size74 hK)
set_option maxRecDepth 100000 in
theorem free79 {w : World} (hT : Tab w) {n : Nat} {L : Atts} (hD : OkD n L) {S : Nat} (hS : S < 4096) :
    Calls Tryd.prog 79 #[.agg (csD n L), .int .u64 (S : Int)] w fun e w' => e = .returned (.bool (freeB L S)) ∧ Below w.heap.size w w' := by
  have hb1 := below_alloc1 w (.cells (csD n L) 74)
  have hu := Lib.hid (attacked59 (hT.call hb1) hD hS)
  have hand := and_any (hD.hlt S) hS
  have hb1' := Lib.hid hb1
  have hfin := Lib.hid (show ((((hit L S &&& S : Nat) : Int) == 0) = freeB L S) from cast_zero _)
  have hd0 := Lib.hid (DAt.new w n L 74)
  clear hT hD hb1
  generalize hit L S = H at hu hand hfin
  go_enter Tryd.func79, Tryd.ntmps79
  go_wp2_with (first | (refine wl74 rfl _ rfl rfl hd0.out ?_) | (go_at_call 59; refine (hu.out).mono ?_; rintro e w1 ⟨rfl, hb⟩; have hb' := Lib.hid hb; clear hb))
  go_ret
  exact ⟨ret_b hfin.out, below_call hb1'.out hb'.out⟩
end Go.Proofs.YtpcjigdmfchbdaaDoor
