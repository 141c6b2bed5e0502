import Derived.Test.YtbcoaiaocfommaaBc
import Derived.Test.YtbcoaiaocfommaaShC
import Derived.RangeFuncFrom
namespace Go.Proofs.Ytbcoaiaocfommaa
open Go.RowKit Go.Shelf
attribute [local go_sem] Oper.semAt_some

def lowP (m : Nat) (pre : List Ltr) : Nat := pre.foldl (fun a x => min a (bN x.1.data.toList)) m
def highP (pre : List Ltr) : Nat := pre.foldl (fun a x => max a (bN x.1.data.toList)) 0
theorem lowP_snoc (m : Nat) (pre : List Ltr) (x : Ltr) : lowP m (pre ++ [x]) = min (lowP m pre) (bN x.1.data.toList) := by simp [lowP]
theorem highP_snoc (pre : List Ltr) (x : Ltr) : highP (pre ++ [x]) = max (highP pre) (bN x.1.data.toList) := by simp [highP]
theorem bN_part (s : ByteArray) (hs : s.size ≤ 1000) (m i : Nat) : bN (partAt s hs m i).1.data.toList = cnt s.data.toList m i := by
  unfold partAt cnt
  rw [Lib.extract_data]; simp
theorem lowP_up (s : ByteArray) (hs : s.size ≤ 1000) (m k : Nat) : lowP m (partsUp s hs m k) = lowF s.data.toList m k := by
  induction k with
  | zero => rfl
  | succ k ih => rw [partsUp_snoc, lowP_snoc, ih, bN_part]; rfl
theorem highP_up (s : ByteArray) (hs : s.size ≤ 1000) (m k : Nat) : highP (partsUp s hs m k) = highF s.data.toList m k := by
  induction k with
  | zero => rfl
  | succ k ih => rw [partsUp_snoc, highP_snoc, ih, bN_part]; rfl
theorem foldl_min_le (pre : List Ltr) : ∀ m, pre.foldl (fun a x => min a (bN x.1.data.toList)) m ≤ m := by
  induction pre with
  | nil => exact fun m => Nat.le_refl _
  | cons x pre ih => intro m; rw [List.foldl_cons]; have := ih (min m (bN x.1.data.toList)); omega
theorem le_foldl_max (pre : List Ltr) : ∀ m, m ≤ pre.foldl (fun a x => max a (bN x.1.data.toList)) m := by
  induction pre with
  | nil => exact fun m => Nat.le_refl _
  | cons x pre ih => intro m; rw [List.foldl_cons]; have := ih (max m (bN x.1.data.toList)); omega
theorem foldl_max_le (pre : List Ltr) : ∀ m, m ≤ 1000 → pre.foldl (fun a x => max a (bN x.1.data.toList)) m ≤ 1000 := by
  induction pre with
  | nil => exact fun m h => h
  | cons x pre ih =>
    intro m h; rw [List.foldl_cons]
    refine ih _ ?_
    have h1 := bN_le x.1.data.toList
    have h2 := x.2
    have h3 : x.1.data.toList.length = x.1.size := by simp
    omega
theorem lowP_le (m : Nat) (pre : List Ltr) : lowP m pre ≤ m := foldl_min_le pre m
theorem highP_le (pre : List Ltr) : highP pre ≤ 1000 := foldl_max_le pre 0 (by omega)
theorem lowP_pre {m : Nat} {p q : List Ltr} (h : p <+: q) : lowP m q ≤ lowP m p := by
  obtain ⟨t, rfl⟩ := h
  unfold lowP; rw [List.foldl_append]; exact foldl_min_le _ _
theorem highP_pre {p q : List Ltr} (h : p <+: q) : highP p ≤ highP q := by
  obtain ⟨t, rfl⟩ := h
  unfold highP; rw [List.foldl_append]; exact le_foldl_max _ _
theorem count_bN (l : List UInt8) : Go.Lib.countByte l 98 = bN l := rfl
theorem bN_ltr (x : Ltr) : bN x.1.data.toList ≤ 1000 := by
  have h1 := bN_le x.1.data.toList
  have h2 := x.2
  have h3 : x.1.data.toList.length = x.1.size := by simp
  omega

theorem cell_of_box_e {W : World} {B : Nat} {v : Value} {t : TypeId} (h : W.heap[B]? = some (.cells #[v] t (0, 0))) : W.cell? ⟨B, 0, none⟩ = some v ∧ W.frozen? ⟨B, 0, none⟩ = false := by
  constructor <;> simp [World.cell?, World.frozen?, h]
theorem cell_new_e (W : World) (v : Value) (t : TypeId) : (W.alloc (.cells #[v] t)).cell? ⟨W.heap.size, 0, none⟩ = some v ∧ (W.alloc (.cells #[v] t)).frozen? ⟨W.heap.size, 0, none⟩ = false :=
  cell_of_box_e (World.alloc_heap_new W _)
theorem cell_alloc_e {W : World} {a : Addr} {v : Value} (o : Obj) (h : W.cell? a = some v) : (W.alloc o).cell? a = some v := cell_kept h (World.grownBy_alloc W o none) (fun r e => by cases e)
theorem frozen_alloc_e {W : World} {a : Addr} {v : Value} (o : Obj) (h : W.cell? a = some v) (hf : W.frozen? a = false) : (W.alloc o).frozen? a = false := (frozen_kept h (World.grownBy_alloc W o none) (fun r e => by cases e)).trans hf

set_option maxHeartbeats 1000000 in
theorem parts67_in (F : Fence) (n : Nat) (h67 : F.fn 67) (hro : F.round = none) (s : ByteArray) (m : Int) (w : World) :
    CallsIn F n Try.prog 67 #[.string s, .int .i64 m] w fun e w' => e = .returned (.func (.func 78) #[] #[.pointer (some ⟨w.heap.size + 1, 0, none⟩), .pointer (some ⟨w.heap.size, 0, none⟩)]) ∧ w' = (w.alloc (.cells #[.string s] 9)).alloc (.cells #[.int .i64 m] 3) := by
  refine callsIn_of_wp Try.func67 rfl h67 ?_ hro
  simp only [Try.ntmps67, List.size_toArray, List.length_cons, List.length_nil, Nat.reduceAdd, Nat.reduceSub, Array.replicate_succ, Array.replicate_zero, List.push_toArray, List.append_toArray, List.nil_append, List.cons_append]
  gi_wp2
  go_ret
  exact ⟨rfl, rfl⟩

theorem keep2_b {Bl Bs : Nat} {w : World} (h1 : Bl < w.heap.size) (h2 : Bs < w.heap.size) (W : World) (l : Nat) (o o' : Obj) (hl : w.heap.size ≤ l) (h : W.heap[l]? = some o) (hc : o.isCells = false) (hw : o.isWalk = false) : Keep2 Bl Bs W (W.putObj l o') :=
  Keep2.of_below (belowK_b (Nat.le_refl _) W l o o' hl h hc hw) h1 h2
theorem parts78_stops (F : Fence) (n : Nat) (h78 : F.fn 78) (hro : F.round = none) (hn : 1 ≤ n) (Bl Bs : Nat) (s : ByteArray) (hs : s.size ≤ 1000) (m : Nat) (hm : 1 ≤ m) (hms : m ≤ s.size) (w : World) (h1 : Bl < w.heap.size) (h2 : Bs < w.heap.size)
    (hBl : w.cell? ⟨Bl, 0, none⟩ = some (.int .i64 (m : Int))) (hBs : w.cell? ⟨Bs, 0, none⟩ = some (.string s)) :
    SeqStopsK F n Try.prog 78 #[.pointer (some ⟨Bl, 0, none⟩), .pointer (some ⟨Bs, 0, none⟩)] (fun x : Ltr => #[Value.string x.1]) (Keep2 Bl Bs) (fun ys => ys = partsUp s hs m (s.size + 1 - m)) (fun pre => pre <+: partsUp s hs m (s.size + 1 - m)) (s.size + 1 - m) w := fun l J Jx W hW _ _ hY h0 =>
  parts78_in F n h78 hro hn l Bl Bs s hs m hm hms J Jx hY W ((hW.cell (p := ⟨Bl, 0, none⟩) h1).trans hBl) ((hW.cell (p := ⟨Bs, 0, none⟩) h2).trans hBs) h0
end Go.Proofs.Ytbcoaiaocfommaa
