import Derived.Test.YtjkbhdlbomcbeaaZe
import Derived.RangeFuncNested
import Derived.RangeFuncBound
import Derived.RangeFuncCalls
import Derived.RangeFuncLeaves
import Derived.RangeFuncFrom
import Derived.Shelf.Abstract
import Derived.Shelf.RegionOpen
import Derived.OwnWalkIn
import Derived.TacticsInMore
import Derived.LoopNIn
import Derived.LoopIn
import Derived.Test.YtjkbhdlbomcbeaaWd
import Derived.Test.YtjkbhdlbomcbeaaYa
import Derived.Test.YtjkbhdlbomcbeaaNa
import Derived.Test.YtjkbhdlbomcbeaaUs
import Derived.Deep.RegionHeld3
import Derived.Deep.AppendLies
import Derived.Test.YtjkbhdlbomcbeaaYc
import Derived.Deep.CutRange
namespace Go.Proofs.Ytjkbhdlbomcbeaa
open Go.RowKit Go.Shelf Shf

attribute [local go_sem] Oper.semAt_some

/-! ## the intervals, as they are yielded -/
abbrev Ivl := { p : Nat × Nat // p.1 < p.2 ∧ p.2 ≤ 24 }
def Cov (pre : List Ivl) (a b : Nat) : Prop := ∀ x y : Nat, x < y → y ≤ 24 → (x < a ∨ (x = a ∧ y < b)) → ∃ p ∈ pre, p.1 = (x, y)
theorem Cov.nil : Cov [] 0 1 := fun x y h1 h2 h3 => by omega
theorem Cov.next {pre : List Ivl} {a b : Nat} (h : Cov pre a b) (x : Ivl) (hx : x.1 = (a, b)) : Cov (pre ++ [x]) a (b + 1) := fun u v h1 h2 h3 => by
  by_cases e : u = a ∧ v = b
  · exact ⟨x, by simp, by rw [hx, e.1, e.2]⟩
  · obtain ⟨p, hp, hq⟩ := h u v h1 h2 (by omega)
    exact ⟨p, by simp [hp], hq⟩
theorem Cov.row {pre : List Ivl} {a : Nat} (h : Cov pre a 25) : Cov pre (a + 1) (a + 2) := fun u v h1 h2 h3 => by
  refine h u v h1 h2 ?_; omega

set_option maxRecDepth 100000 in
set_option maxHeartbeats 1000000 in
theorem intervals64_in (F : Fence) (n : Nat) (h64 : F.fn 64) (hro : F.round = none) (hn : 1 ≤ n) (l : Nat) (J Jx : List Ivl → World → Prop)
    (hY : ∀ pre x W, J pre W → pre.length < 1000 → YieldAt F (n - 1) Try.prog l #[.int .i64 ((x : Ivl).1.1 : Int), .int .i64 (x.1.2 : Int)] W fun e W' =>
      (e = .returned (.bool true) ∧ J (pre ++ [x]) W') ∨ (e = .returned (.bool false) ∧ Jx (pre ++ [x]) W'))
    (W : World) (h0 : J [] W) :
    CallsIn F n Try.prog 64 #[.func (.yield l) #[] #[]] W fun e W' => (∃ v, e = .returned v) ∧
      ((∃ ys, Cov ys 24 25 ∧ J ys W') ∨ (∃ pre, (∃ p0 x, pre = p0 ++ [x] ∧ Cov p0 x.1.1 x.1.2) ∧ Jx pre W')) := by
  refine callsIn_of_wp Try.func64 rfl h64 ?_ hro
  simp only [Try.ntmps64, List.size_toArray, List.length_cons, List.length_nil, Nat.reduceAdd, Nat.reduceSub, Array.replicate_succ, Array.replicate_zero, List.push_toArray, List.append_toArray, List.nil_append, List.cons_append]
  gi_wp2
  gi_loopw [4] (fun p wr => ∃ a : Nat, ∃ pre : List Ivl, a ≤ 24 ∧ p = .int .i64 (a : Int) ∧ pre.length ≤ 25 * a + a ∧ Cov pre a (a + 1) ∧ J pre wr)
    (fun p wr => 24 - (intOf p).toNat)
  case atStart =>
    exact ⟨0, [], by omega, rfl, by simp, Cov.nil, h0⟩
  case round =>
    obtain ⟨a, pre0, ha, rfl, hl0, hc0, hJ0⟩ := hrel
    by_cases ha24 : a < 24
    · have htB : decide ((a : Int) < 24) = true := by simp; omega
      gi_wp2
      clear htB
      gi_loopw [3] (fun p wr => ∃ b : Nat, ∃ pre : List Ivl, a < b ∧ b ≤ 25 ∧ p = .int .i64 (b : Int) ∧ pre.length ≤ 25 * a + b ∧ Cov pre a b ∧ J pre wr)
        (fun p wr => 25 - (intOf p).toNat)
      case atStart => exact ⟨a + 1, pre0, by omega, by omega, by go_num, by omega, hc0, hJ0⟩
      case round =>
        clear hl0 hc0 hJ0
        obtain ⟨b, pre, hab, hb, rfl, hl, hc, hJ⟩ := hrel
        by_cases hb24 : b ≤ 24
        · obtain ⟨fn, tmps, assign, body, hy, hR⟩ := hY pre ⟨(a, b), hab, hb24⟩ wr hJ (by omega)
          have hc' := Lib.hid (hc.next ⟨(a, b), hab, hb24⟩ rfl)
          have hc0' := Lib.hid hc
          clear hc
          gi_wp2
          refine hR.mono ?_
          rintro e W3 (⟨rfl, hJ3⟩ | ⟨rfl, hJx3⟩)
          · gi_wp2
            go_roundw
            case rel => exact ⟨b + 1, _, by omega, by omega, by go_num, by simp; omega, hc'.out, hJ3⟩
            case measure => simp [intOf]; omega
          · gi_wp2
            refine bodyPost_ret (results_none rfl _ _ _) rfl ?_
            exact ⟨⟨_, rfl⟩, .inr ⟨_, ⟨_, _, rfl, hc0'.out⟩, hJx3⟩⟩
        · obtain rfl : b = 25 := by omega
          rw [show ((25 : Nat) : Int) = 25 from rfl]
          have hc2 := Lib.hid hc.row
          clear hc
          gi_wp2
          go_roundw
          case rel => exact ⟨a + 1, pre, by omega, by go_num, by omega, hc2.out, hJ⟩
          case measure => simp [intOf]; omega
    · obtain rfl : a = 24 := by omega
      rw [show ((24 : Nat) : Int) = 24 from rfl]
      gi_wp2
      go_end0
      exact ⟨⟨_, rfl⟩, .inl ⟨_, hc0, hJ0⟩⟩
theorem intervals64_stops (F : Fence) (n : Nat) (h64 : F.fn 64) (hro : F.round = none) (hn : 1 ≤ n) (w : World) :
    SeqStopsK F n Try.prog 64 #[] (fun x : Ivl => #[Value.int .i64 (x.1.1 : Int), Value.int .i64 (x.1.2 : Int)]) (fun _ _ => True) (fun ys => Cov ys 24 25) (fun pre => ∃ p0 x, pre = p0 ++ [x] ∧ Cov p0 x.1.1 x.1.2) 1000 w := fun l J Jx W _ _ _ hY h0 =>
  intervals64_in F n h64 hro hn l J Jx (fun pre x W1 hJ hlt => by
    obtain ⟨fn, tmps, assign, body, hy, hR⟩ := hY pre x W1 hJ hlt
    refine ⟨fn, tmps, assign, body, hy, hR.mono ?_⟩
    rintro e W' (⟨rfl, h1, -⟩ | h1)
    · exact .inl ⟨rfl, h1⟩
    · exact .inr h1) W h0

attribute [local go_sem] Oper.semAt_some

theorem cell_of_box_e {W : World} {B : Nat} {v : Value} {t : TypeId} (h : W.heap[B]? = some (.cells #[v] t (0, 0))) : W.cell? ⟨B, 0, none⟩ = some v ∧ W.frozen? ⟨B, 0, none⟩ = false := by
  constructor <;> simp [World.cell?, World.frozen?, h]
theorem cell_new_e (W : World) (v : Value) (t : TypeId) : (W.alloc (.cells #[v] t)).cell? ⟨W.heap.size, 0, none⟩ = some v ∧ (W.alloc (.cells #[v] t)).frozen? ⟨W.heap.size, 0, none⟩ = false :=
  cell_of_box_e (World.alloc_heap_new W _)
theorem keepsO_below {A B : World} (h : Below A.heap.size A B) : KeepsOthers A B := ⟨h.size, fun k _ hk _ => (h.block k (Array.getElem?_eq_some_iff.1 hk).1).trans hk⟩
theorem cell_same_e {w : World} {p : Addr} {u v : Value} (h : w.cell? p = some u) : (w.setCell p v).cell? p = some v := World.cell?_setCell_same' _ _ _ (by rw [h]; rfl)
theorem cell_other_e {w : World} (p q : Nat) (v : Value) (h : p ≠ q) : (w.setCell ⟨p, 0, none⟩ v).cell? ⟨q, 0, none⟩ = w.cell? ⟨q, 0, none⟩ := World.cell?_setCell_other _ _ _ _ (fun e => h (congrArg Addr.block e))

def Bx (W : World) (p : Nat) (v : Value) : Prop := W.cell? ⟨p, 0, none⟩ = some v ∧ W.frozen? ⟨p, 0, none⟩ = false
theorem Bx.kept {A C : World} {row : Option Nat} {p : Nat} {v : Value} (h : Bx A p v) (hg : A.grownBy C row) (hr : ∀ r, row = some r → ∃ o : Obj, A.heap[r]? = some o ∧ o.isCells = false) : Bx C p v :=
  ⟨cell_kept h.1 hg hr, (frozen_kept h.1 hg hr).trans h.2⟩
theorem Bx.alloc {A : World} {p : Nat} {v : Value} (h : Bx A p v) (o : Obj) : Bx (A.alloc o) p v := h.kept (World.grownBy_alloc A o none) (fun r e => by cases e)
theorem Bx.below {A C : World} {n p : Nat} {v : Value} (h : Bx A p v) (hb : Below n A C) (hp : p < n) : Bx C p v := ⟨(hb.cell (p := ⟨p, 0, none⟩) hp).trans h.1, (hb.frozen (p := ⟨p, 0, none⟩) hp).trans h.2⟩
theorem Bx.other {A : World} {p q : Nat} {v u : Value} (h : Bx A p v) (e : q ≠ p) : Bx (A.setCell ⟨q, 0, none⟩ u) p v := ⟨(cell_other_e q p u e).trans h.1, by rw [World.frozen?_setCell]; exact h.2⟩
theorem Bx.same {A : World} {p : Nat} {v u : Value} (h : Bx A p v) : Bx (A.setCell ⟨p, 0, none⟩ u) p u := ⟨cell_same_e h.1, by rw [World.frozen?_setCell]; exact h.2⟩
theorem Bx.drew {A : World} {p : Nat} {v : Value} (h : Bx A p v) : Bx A.drew p v := h
def Sh3 (W : World) (B : Nat) (P jv ov : Value) : Prop := W.cell? ⟨B, 0, none⟩ = some P ∧ W.cell? ⟨B, 1, none⟩ = some jv ∧ W.cell? ⟨B, 2, none⟩ = some ov
theorem Sh3.kept {A C : World} {row : Option Nat} {B : Nat} {P jv ov : Value} (h : Sh3 A B P jv ov) (hg : A.grownBy C row) (hr : ∀ r, row = some r → ∃ o : Obj, A.heap[r]? = some o ∧ o.isCells = false) : Sh3 C B P jv ov :=
  ⟨cell_kept h.1 hg hr, cell_kept h.2.1 hg hr, cell_kept h.2.2 hg hr⟩
theorem Sh3.alloc {A : World} {B : Nat} {P jv ov : Value} (h : Sh3 A B P jv ov) (o : Obj) : Sh3 (A.alloc o) B P jv ov := h.kept (World.grownBy_alloc A o none) (fun r e => by cases e)
theorem Sh3.below {A C : World} {n B : Nat} {P jv ov : Value} (h : Sh3 A B P jv ov) (hb : Below n A C) (hp : B < n) : Sh3 C B P jv ov := ⟨(hb.cell (p := ⟨B, 0, none⟩) hp).trans h.1, (hb.cell (p := ⟨B, 1, none⟩) hp).trans h.2.1, (hb.cell (p := ⟨B, 2, none⟩) hp).trans h.2.2⟩
/-- The boxes of the function: the shaft, and the three results. -/
def Box4 (W : World) (B : Nat) (P jv ov f t ok : Value) : Prop := Sh3 W B P jv ov ∧ Bx W (B + 1) f ∧ Bx W (B + 1 + 1) t ∧ Bx W (B + 1 + 1 + 1) ok
theorem Box4.kept {A C : World} {row : Option Nat} {B : Nat} {P jv ov f t ok : Value} (h : Box4 A B P jv ov f t ok) (hg : A.grownBy C row) (hr : ∀ r, row = some r → ∃ o : Obj, A.heap[r]? = some o ∧ o.isCells = false) : Box4 C B P jv ov f t ok :=
  ⟨h.1.kept hg hr, h.2.1.kept hg hr, h.2.2.1.kept hg hr, h.2.2.2.kept hg hr⟩
theorem Box4.below {A C : World} {n B : Nat} {P jv ov f t ok : Value} (h : Box4 A B P jv ov f t ok) (hb : Below n A C) (hp : B + 1 + 1 + 1 < n) : Box4 C B P jv ov f t ok :=
  ⟨h.1.below hb (by omega), h.2.1.below hb (by omega), h.2.2.1.below hb (by omega), h.2.2.2.below hb (by omega)⟩
theorem Sh3.other {A : World} {B q : Nat} {P jv ov u : Value} (h : Sh3 A B P jv ov) (e : q ≠ B) : Sh3 (A.setCell ⟨q, 0, none⟩ u) B P jv ov :=
  ⟨(World.cell?_setCell_other _ _ _ _ (fun c => e (congrArg Addr.block c))).trans h.1, (World.cell?_setCell_other _ _ _ _ (fun c => e (congrArg Addr.block c))).trans h.2.1, (World.cell?_setCell_other _ _ _ _ (fun c => e (congrArg Addr.block c))).trans h.2.2⟩
theorem Box4.stored {A : World} {B : Nat} {P jv ov f t ok f' t' ok' : Value} (h : Box4 A B P jv ov f t ok) : Box4 (((A.setCell ⟨B + 1, 0, none⟩ f').setCell ⟨B + 1 + 1, 0, none⟩ t').setCell ⟨B + 1 + 1 + 1, 0, none⟩ ok') B P jv ov f' t' ok' :=
  ⟨((h.1.other (by omega)).other (by omega)).other (by omega), ((h.2.1.same).other (by omega)).other (by omega), ((h.2.2.1.other (by omega)).same).other (by omega), ((h.2.2.2.other (by omega)).other (by omega)).same⟩
/-- No interval of a list is overfull. -/
def NoneIn (P : Int) (js : List J) (pre : List Ivl) : Prop := ∀ p ∈ pre, ovB P js (p.1.1 : Int) (p.1.2 : Int) = false
theorem noneIn_snoc {P : Int} {js : List J} {pre : List Ivl} {x : Ivl} (h : NoneIn P js pre) (hx : ovB P js (x.1.1 : Int) (x.1.2 : Int) = false) : NoneIn P js (pre ++ [x]) := fun p hp => by
  rcases List.mem_append.1 hp with h1 | h1
  · exact h p h1
  · rw [List.mem_singleton.1 h1]; exact hx
theorem none_of_cov {P : Int} {js : List J} {pre : List Ivl} {a b : Nat} (h : NoneIn P js pre) (hc : Cov pre a b) : NoneB P js a b := fun x y h1 h2 h3 => by
  obtain ⟨p, hp, e⟩ := hc x y h1 h2 h3
  have h4 := h p hp
  rw [e] at h4; exact h4
theorem none_all {P : Int} {js : List J} {pre : List Ivl} (h : NoneIn P js pre) (hc : Cov pre 24 25) : NoneB P js 24 0 := fun x y h1 h2 h3 => none_of_cov h hc x y h1 h2 (by omega)

set_option maxRecDepth 100000 in
set_option maxHeartbeats 2000000 in
theorem overfull46 {w : World} {v : Value} {P : Int} {js : List J} {os : List (Int × Int)} (h : ShV w v P js os) (h7 : js.length ≤ 7) (hP : 1 ≤ P ∧ P ≤ 20) (hj : ∀ i, i < js.length → JobIn (js.getD i J0)) :
    Calls Try.prog 46 #[v] w (OverEnd w P js) := by
  obtain ⟨jv, ov, rfl, rj, ro⟩ := h
  obtain ⟨ja, jn, jc, rfl⟩ : ∃ a n c, jv = .slice a n c := by obtain ⟨a, c, e, _⟩ := rj; exact ⟨_, _, _, e⟩
  obtain ⟨oa, m, oc, rfl⟩ : ∃ a n c, ov = .slice a n c := by obtain ⟨a, c, e, _⟩ := ro; exact ⟨_, _, _, e⟩
  have hov := Lib.hid (fun (W : World) (hb' : Below w.heap.size w W) (x : Ivl) => isOverfull65 (w := W) (v := .agg #[.int .i64 P, .slice ja jn jc, .slice oa m oc]) (a := (x.1.1 : Int)) (b := (x.1.2 : Int)) ⟨_, _, rfl, rj.below hb', ro.below hb'⟩ h7 hP hj (by have := x.2; omega) (by have := x.2; omega) (by have := x.2; omega) rfl)
  clear rj ro h7 hP hj
  refine (callsIn_wide (n := 6)).1 ?_
  have hmx : Try.prog.follows .mixedOrders = true := by kernel_rfl
  refine callsIn_of_wp_marks Try.func46 rfl trivial ?_ rfl
  simp only [Try.ntmps46, List.size_toArray, List.length_cons, List.length_nil, Nat.reduceAdd, Nat.reduceSub, Array.replicate_succ, Array.replicate_zero, List.push_toArray, List.append_toArray, List.nil_append, List.cons_append]
  have c0 : Sh3 (w.alloc (.cells #[.int .i64 P, .slice ja jn jc, .slice oa m oc] 81)) w.heap.size (.int .i64 P) (.slice ja jn jc) (.slice oa m oc) := (Three.new w _ _ _ 81).1
  have c1 : Bx _ _ _ := cell_new_e (w.alloc (.cells #[.int .i64 P, .slice ja jn jc, .slice oa m oc] 81)) (.int .i64 0) 3
  have c2 : Bx _ _ _ := cell_new_e ((w.alloc (.cells #[.int .i64 P, .slice ja jn jc, .slice oa m oc] 81)).alloc (.cells #[.int .i64 0] 3)) (.int .i64 0) 3
  have c3 : Bx _ _ _ := cell_new_e (((w.alloc (.cells #[.int .i64 P, .slice ja jn jc, .slice oa m oc] 81)).alloc (.cells #[.int .i64 0] 3)).alloc (.cells #[.int .i64 0] 3)) (.bool false) 4
  simp only [World.size_alloc] at c1 c2 c3
  have hb4 : Box4 ((((w.alloc (.cells #[.int .i64 P, .slice ja jn jc, .slice oa m oc] 81)).alloc (.cells #[.int .i64 0] 3)).alloc (.cells #[.int .i64 0] 3)).alloc (.cells #[.bool false] 4)) w.heap.size (.int .i64 P) (.slice ja jn jc) (.slice oa m oc) (.int .i64 0) (.int .i64 0) (.bool false) :=
    ⟨((c0.alloc _).alloc _).alloc _, (c1.alloc _).alloc _, c2.alloc _, c3⟩
  have hB0 : Below w.heap.size w ((((w.alloc (.cells #[.int .i64 P, .slice ja jn jc, .slice oa m oc] 81)).alloc (.cells #[.int .i64 0] 3)).alloc (.cells #[.int .i64 0] 3)).alloc (.cells #[.bool false] 4)) :=
    ((((Below.refl _ w).alloc (Nat.le_refl _) _).alloc (by simp) _).alloc (by simp; omega) _).alloc (by simp; omega) _
  have hb4' := Lib.hid hb4
  have hB0' := Lib.hid hB0
  have hsz : ((((w.alloc (.cells #[.int .i64 P, .slice ja jn jc, .slice oa m oc] 81)).alloc (.cells #[.int .i64 0] 3)).alloc (.cells #[.int .i64 0] 3)).alloc (.cells #[.bool false] 4)).heap.size = w.heap.size + 4 := by simp
  have hsz' := Lib.hid hsz
  clear c0 c1 c2 c3 hb4 hB0 hsz
  gi_wp2
  obtain ⟨W0, hW0⟩ : ∃ W0, ((((w.alloc (.cells #[.int .i64 P, .slice ja jn jc, .slice oa m oc] 81)).alloc (.cells #[.int .i64 0] 3)).alloc (.cells #[.int .i64 0] 3)).alloc (.cells #[.bool false] 4)) = W0 := ⟨_, rfl⟩
  rw [hW0] at hb4' hB0' hsz' ⊢
  clear hW0
  have hsz := hsz'.out
  refine wpIn_rangeFunc_ownF rfl (by omega) (gf := 64) (lb := #[]) rfl trivial (enters_of Try.func64 (by kernel_rfl) rfl)
    (intervals64_stops Fence.wide _ trivial rfl (by omega) W0) (fun _ _ => trivial) (fun _ _ _ _ _ _ _ _ => trivial) (Below.refl _ _) (fun _ => rfl)
    (fun pre W => (Box4 W w.heap.size (.int .i64 P) (.slice ja jn jc) (.slice oa m oc) (.int .i64 0) (.int .i64 0) (.bool false) ∧ Below w.heap.size w W) ∧ NoneIn P js pre)
    (fun c pre W => (c = .ret ∧ ∃ p0, ∃ x : Ivl, pre = p0 ++ [x] ∧ NoneIn P js p0 ∧ ovB P js (x.1.1 : Int) (x.1.2 : Int) = true ∧ Box4 W w.heap.size (.int .i64 P) (.slice ja jn jc) (.slice oa m oc) (.int .i64 (x.1.1 : Int)) (.int .i64 (x.1.2 : Int)) (.bool true)) ∧ Below w.heap.size w W)
    ?hI ?hIx ⟨⟨hb4'.out, hB0'.out⟩, fun p hp => by simp at hp⟩
    (fun x => { tmps := #[.agg #[.int .i64 P, .slice ja jn jc, .slice oa m oc], .pointer (some ⟨w.heap.size, 0, none⟩), .pointer (some ⟨w.heap.size + 1, 0, none⟩), .pointer (some ⟨w.heap.size + 1 + 1, 0, none⟩), .pointer (some ⟨w.heap.size + 1 + 1 + 1, 0, none⟩), .int .i64 (x.1.1 : Int), .int .i64 (x.1.2 : Int), .int .i64 (x.1.1 : Int), .int .i64 (x.1.2 : Int),
      undef, undef, undef, undef, undef, undef], defers := [] }) ?assign ?body ?done ?stop
  case hI =>
    exact OwnFrom.and (OwnFrom.and (fun s A B row hs hg hr => hs.kept hg (fun r e => (hr r e).2)) (ownFrom_below (Nat.le_refl _) (by omega))) (ownFrom_pure _ _)
  case hIx =>
    refine fun c => OwnFrom.and (fun s A B row hs hg hr => ?_) (ownFrom_below (Nat.le_refl _) (by omega))
    obtain ⟨e0, p0, x, e, h1, h2, h3⟩ := hs
    exact ⟨e0, p0, x, e, h1, h2, h3.kept hg (fun r e => (hr r e).2)⟩
  case assign =>
    intro l x W K hK
    gi_wp2
    exact hK
  case body =>
    rintro l pre x W ⟨⟨hbx, hB⟩, hno⟩ hlt
    have hbx' := Lib.hid hbx
    have hws := Lib.hid (show w.heap.size + 1 + 1 + 1 < W.heap.size by
      obtain ⟨o, ho, _⟩ := cells_of_cell hbx.2.2.2.1
      exact (Array.getElem?_eq_some_iff.1 ho).1)
    obtain ⟨⟨d0, d1, d2⟩, -, -, -⟩ := hbx
    have hcall := Lib.hid (fun (W : World) (hb' : Below w.heap.size w W) => hov.out W hb' x)
    obtain ⟨d, hd⟩ : ∃ d, ovB P js (x.1.1 : Int) (x.1.2 : Int) = d := ⟨_, rfl⟩
    rw [hd] at hcall
    have hd' := Lib.hid hd
    have hno' := Lib.hid hno
    have hB' := Lib.hid hB
    clear hd hno hB hov
    cases d with
    | false =>
      gi_wp2_with (refine ⟨trivial, ?_⟩; gi_at_call 65; refine (CallsIn.inRound l (callsIn_wide.2 (hcall.out _ (by first | exact hB'.out | exact hB'.out.drew)))).mono ?_; rintro e w2 ⟨rfl, hb2⟩)
      exact ⟨keepsO_below hb2, trivial, ⟨hbx'.out.below hb2 hws.out, below_call hB'.out hb2⟩, noneIn_snoc hno'.out hd'.out⟩
    | true =>
      gi_wp2_with (refine ⟨trivial, ?_⟩; gi_at_call 65; refine (CallsIn.inRound l (callsIn_wide.2 (hcall.out _ (by first | exact hB'.out | exact hB'.out.drew)))).mono ?_; rintro e w2 ⟨rfl, hb2⟩; have hx4 := Lib.hid (hbx'.out.below hb2 hws.out); obtain ⟨-, ⟨e1, f1⟩, ⟨e2, f2⟩, ⟨e3, f3⟩⟩ := hx4.out)
      exact ⟨(keepsO_below hb2).trans (((KeepsOthers.setCell _ _ _).trans (KeepsOthers.setCell _ _ _)).trans (KeepsOthers.setCell _ _ _)), ⟨rfl, pre, x, rfl, hno'.out, hd'.out, hx4.out.stored⟩, (((below_call hB'.out hb2).setCell (p := ⟨w.heap.size + 1, 0, none⟩) (Nat.le_succ _) _).setCell (p := ⟨w.heap.size + 1 + 1, 0, none⟩) (by simp; omega) _).setCell (p := ⟨w.heap.size + 1 + 1 + 1, 0, none⟩) (by simp; omega) _⟩
  case done =>
    rintro D ys W hD hcov ⟨⟨hbx, hB⟩, hno⟩ hK
    have hnb := Lib.hid (none_all hno hcov)
    have hbx' := Lib.hid hbx
    have hB' := Lib.hid hB
    obtain ⟨-, ⟨e1, f1⟩, ⟨e2, f2⟩, ⟨e3, f3⟩⟩ := hbx
    clear hno hcov hB hov
    gi_wp2
    have hK' := (((KeepsOthers.setCell W ⟨w.heap.size + 1, 0, none⟩ (.int .i64 0)).trans (KeepsOthers.setCell _ ⟨w.heap.size + 1 + 1, 0, none⟩ (.int .i64 0))).trans (KeepsOthers.setCell _ ⟨w.heap.size + 1 + 1 + 1, 0, none⟩ (.bool false))).same D _ hK rfl
    refine ⟨by simp, .inl ⟨_, _, rfl, run_takeDeferred hK', ?_⟩⟩
    obtain ⟨-, ⟨g1, -⟩, ⟨g2, -⟩, ⟨g3, -⟩⟩ := (hbx'.out.stored (f' := .int .i64 0) (t' := .int .i64 0) (ok' := .bool false)).kept (grownBy_putObj' _ D (.deferred none)) (fun r e => by cases e; exact ⟨_, hK', rfl⟩)
    refine ⟨.tuple #[.int .i64 0, .int .i64 0, .bool false], ?_, _, _, _, rfl, .inr ⟨rfl, rfl, rfl, hnb.out⟩, ((((hB'.out.setCell (p := ⟨w.heap.size + 1, 0, none⟩) (Nat.le_succ _) _).setCell (p := ⟨w.heap.size + 1 + 1, 0, none⟩) (by simp; omega) _).setCell (p := ⟨w.heap.size + 1 + 1 + 1, 0, none⟩) (by simp; omega) _).trans (belowK_b (w := w) (Nat.le_refl _) _ D _ _ (by omega) hK' rfl rfl))⟩
    simp [results, Try.f46, go_sem, g1, g2, g3]
  case stop =>
    rintro D c pre W hD ⟨p0', x', hpe, hcov⟩ ⟨⟨rfl, p0, x, rfl, hno, hov', hbx⟩, hB⟩ hK
    obtain ⟨rfl, hxx⟩ := List.append_inj' hpe rfl
    obtain rfl : x = x' := List.head_eq_of_cons_eq hxx
    have hnb := Lib.hid (none_of_cov hno hcov)
    have hov2 := Lib.hid hov'
    have hbx' := Lib.hid hbx
    have hB' := Lib.hid hB
    clear hno hcov hov' hbx hB hov hpe hxx
    gi_wp2
    refine ⟨by simp, .inl ⟨_, _, rfl, run_takeDeferred hK, ?_⟩⟩
    obtain ⟨-, ⟨g1, -⟩, ⟨g2, -⟩, ⟨g3, -⟩⟩ := hbx'.out.kept (grownBy_putObj' _ D (.deferred none)) (fun r e => by cases e; exact ⟨_, hK, rfl⟩)
    refine ⟨.tuple #[.int .i64 (x.1.1 : Int), .int .i64 (x.1.2 : Int), .bool true], ?_, _, _, _, rfl, .inl ⟨rfl, _, _, rfl, rfl, x.2.1, x.2.2, hov2.out, hnb.out⟩, hB'.out.trans (belowK_b (w := w) (Nat.le_refl _) W D _ _ (by omega) hK rfl rfl)⟩
    simp [results, Try.f46, go_sem, g1, g2, g3]

/-- What Overfull answers. -/
def OverAns (P : Int) (js : List J) (os : List (Int × Int)) (f t err : Int) : Prop :=
  (validB P js os = false ∧ f = 0 ∧ t = 0 ∧ err = 1) ∨ (validB P js os = true ∧ ((OverIs P js 0 0 false ∧ f = 0 ∧ t = 0 ∧ err = 5) ∨ (OverIs P js f t true ∧ err = 0)))
def Over26 (w : World) (P : Int) (js : List J) (os : List (Int × Int)) (e : Ending) (w' : World) : Prop := ∃ f t err, e = .returned (.tuple #[.int .i64 f, .int .i64 t, .int .i64 err]) ∧ OverAns P js os f t err ∧ Below w.heap.size w w'
set_option maxHeartbeats 4000000 in
set_option maxRecDepth 100000 in
theorem overfull26 {w : World} {v : Value} {P : Int} {js : List J} {os : List (Int × Int)} (h : ShV w v P js os) (h7 : js.length ≤ 7) (h21 : os.length ≤ 21) : Calls Try.prog 26 #[v] w (Over26 w P js os) := by
  obtain ⟨jv, ov, rfl, rj, ro⟩ := h
  obtain ⟨ja, n, jc, rfl⟩ : ∃ a n c, jv = .slice a n c := by obtain ⟨a, c, e, _⟩ := rj; exact ⟨_, _, _, e⟩
  obtain ⟨oa, m, oc, rfl⟩ : ∃ a n c, ov = .slice a n c := by obtain ⟨a, c, e, _⟩ := ro; exact ⟨_, _, _, e⟩
  have hb0 := Lib.hid (below_alloc1 w (.cells #[.int .i64 P, .slice ja n jc, .slice oa m oc] 25))
  have hsh := Lib.hid (fun (W : World) (hb : Below w.heap.size w W) => (show ShV W (.agg #[.int .i64 P, .slice ja n jc, .slice oa m oc]) P js os from ⟨_, _, rfl, rj.below hb, ro.below hb⟩))
  have hnw := fun (d : Bool) (hd : validB P js os = d) => new37' (rj.below hb0.out) (ro.below hb0.out) h7 h21 hd
  cases hv : validB P js os with
  | false =>
    have hn := Lib.hid (hnw false hv)
    have hans := Lib.hid (show OverAns P js os 0 0 1 from .inl ⟨hv, rfl, rfl, rfl⟩)
    clear hnw hv rj ro h7 h21
    go_enter Try.func26, Try.ntmps26
    go_wp2_with (go_at_call 37; refine (hn.out).mono ?_; rintro e w1 ⟨rfl, hb1⟩; have hb1' := Lib.hid (below_call hb0.out hb1); clear hb1)
    go_ret3
    exact ⟨0, 0, 1, rfl, hans.out, below_call hb1'.out (below_alloc1 _ _)⟩
  | true =>
    have hn := Lib.hid (hnw true hv)
    have hv' := Lib.hid hv
    have hpp := (valid_sh hv).1.loose.power
    have hc := Lib.hid (fun (W : World) (hb : Below w.heap.size w W) => overfull46 (w := W) (hsh.out W hb) h7 hpp (valid_jobs hv))
    clear hnw hv rj ro h7 h21 hpp
    go_enter Try.func26, Try.ntmps26
    go_wp2_with (
      first
      | (go_at_call 37; refine (hn.out).mono ?_; rintro e w1 ⟨rfl, hb1⟩
         have hb1' := Lib.hid (below_call (below_call hb0.out hb1) (below_alloc1 _ (.cells #[.int .i64 P, .slice ja n jc, .slice oa m oc] 81)))
         have hc1 := Lib.hid (hc.out _ hb1'.out)
         clear hb1)
      | (go_at_call 46; refine (hc1.out).mono ?_; rintro e w2 ⟨f, t, ok, rfl, hO, hb2⟩; have hb2' := Lib.hid (below_call hb1'.out hb2); have hO' := Lib.hid hO; clear hb2 hO))
    · rename_i hk
      have hk' : ok = false := by revert hk; cases ok <;> simp
      subst hk'
      go_ret3
      refine ⟨0, 0, 5, rfl, .inr ⟨hv'.out, .inl ⟨?_, rfl, rfl, rfl⟩⟩, hb2'.out⟩
      have h1 := hO'.out
      rcases h1 with ⟨h1, _⟩ | ⟨_, rfl, rfl, h2⟩
      · cases h1
      · exact .inr ⟨rfl, rfl, rfl, h2⟩
    · rename_i hk
      have hk' : ok = true := by revert hk; cases ok <;> simp
      subst hk'
      go_ret3
      exact ⟨f, t, 0, rfl, .inr ⟨hv'.out, .inr ⟨hO'.out, rfl⟩⟩, hb2'.out⟩

theorem over26' {w : World} {v : Value} {P : Int} {js : List J} {os : List (Int × Int)} (h : ShV w v P js os) (h7 : js.length ≤ 7) (h21 : os.length ≤ 21) {f t err : Int} (ha : OverAns P js os f t err) :
    Calls Try.prog 26 #[v] w fun e w' => e = .returned (.tuple #[.int .i64 f, .int .i64 t, .int .i64 err]) ∧ Below w.heap.size w w' := by
  refine (overfull26 h h7 h21).mono ?_
  rintro e w' ⟨f', t', err', rfl, hb, hB⟩
  refine ⟨?_, hB⟩
  have key : f' = f ∧ t' = t ∧ err' = err := by
    rcases ha with ⟨g0, rfl, rfl, rfl⟩ | ⟨g0, ⟨g1, rfl, rfl, rfl⟩ | ⟨g1, rfl⟩⟩ <;> rcases hb with ⟨k0, rfl, rfl, rfl⟩ | ⟨k0, ⟨k1, rfl, rfl, rfl⟩ | ⟨k1, rfl⟩⟩
    · exact ⟨rfl, rfl, rfl⟩
    · rw [g0] at k0; cases k0
    · rw [g0] at k0; cases k0
    · rw [g0] at k0; cases k0
    · exact ⟨rfl, rfl, rfl⟩
    · have := (over_only g1 k1).2.2; cases this
    · rw [g0] at k0; cases k0
    · have := (over_only g1 k1).2.2; cases this
    · have := over_only g1 k1; exact ⟨this.1.symm, this.2.1.symm, rfl⟩
  rw [key.1, key.2.1, key.2.2]
theorem refOver28' {w : World} {v : Value} {P : Int} {js : List J} {os : List (Int × Int)} (h : ShV w v P js os) (h7 : js.length ≤ 7) (hP : 1 ≤ P ∧ P ≤ 20) (hj : ∀ i, i < js.length → JobIn (js.getD i J0)) {f t : Int} {ok : Bool} (ho : OverIs P js f t ok) :
    Calls Try.prog 28 #[v] w fun e w' => e = .returned (.tuple #[.int .i64 f, .int .i64 t, .bool ok]) ∧ Below w.heap.size w w' := by
  refine (refOverfull28 h h7 hP hj).mono ?_
  rintro e w' ⟨f', t', ok', rfl, hb, hB⟩
  have := over_only ho hb
  exact ⟨by rw [this.1, this.2.1, this.2.2], hB⟩
theorem over_some (P : Int) (js : List J) : (∃ f t, OverIs P js f t true) ∨ OverIs P js 0 0 false := by
  by_cases h : ∃ a b : Nat, a < b ∧ b ≤ 24 ∧ ovB P js a b = true
  · have hd : ∀ n : Nat, (∃ a b : Nat, a * 25 + b ≤ n ∧ a < b ∧ b ≤ 24 ∧ ovB P js a b = true) → ∃ f t, OverIs P js f t true := by
      intro n
      induction n with
      | zero => rintro ⟨a, b, h0, h1, _⟩; omega
      | succ n ih =>
        intro hn
        by_cases hs : ∃ a b : Nat, a * 25 + b ≤ n ∧ a < b ∧ b ≤ 24 ∧ ovB P js a b = true
        · exact ih hs
        · obtain ⟨a, b, h0, h1, h2, h3⟩ := hn
          refine ⟨a, b, .inl ⟨rfl, a, b, rfl, rfl, h1, h2, h3, fun x y g1 g2 g3 => ?_⟩⟩
          cases hc : ovB P js x y with
          | false => rfl
          | true => exact absurd ⟨x, y, by omega, g1, g2, hc⟩ hs
    obtain ⟨a, b, h1, h2, h3⟩ := h
    exact .inl (hd (a * 25 + b) ⟨a, b, Nat.le_refl _, h1, h2, h3⟩)
  · refine .inr (.inr ⟨rfl, rfl, rfl, fun x y g1 g2 _ => ?_⟩)
    cases hc : ovB P js x y with
    | false => rfl
    | true => exact absurd ⟨x, y, g1, g2, hc⟩ h

theorem ReadsJ.at' {w : World} {a : Option Addr} {n c : Nat} {js : List J} (h : ReadsJ w (.slice a n c) js) {i : Nat} (hi : i < n) : ∃ g, a = some ⟨g, 0, none⟩ ∧ g < w.heap.size ∧
    w.cell? ⟨g, i * 4, none⟩ = some (.int .i64 (js.getD i J0).f) ∧ w.cell? ⟨g, i * 4 + 1, none⟩ = some (.int .i64 (js.getD i J0).t) ∧ w.cell? ⟨g, i * 4 + 2, none⟩ = some (.int .i64 (js.getD i J0).l) ∧ w.cell? ⟨g, i * 4 + 3, none⟩ = some (.int .i64 (js.getD i J0).p) := by
  obtain ⟨ao, c', e, _, hh⟩ := h.at
  cases e
  exact hh i hi
theorem any_range {s : Sh} (hs : Loose s) {xs : List Int} (hl : xs.length = s.n) (h : Sched s fun i => xs.getD i 0) : xs.any outB = false := by
  rw [List.any_eq_false]
  intro x hx
  obtain ⟨i, hi, rfl⟩ := List.mem_iff_getElem.1 hx
  have h1 := h.range i (by omega)
  have h2 := hs.jobs i (by omega)
  unfold lat at h1
  rw [List.getD_eq_getElem?_getD, List.getElem?_eq_getElem hi] at h1
  simp only [Option.getD_some] at h1
  simp [outB]
  omega
theorem loadOk24 {w : World} {v u : Value} {P : Int} {js : List J} {os : List (Int × Int)} {xs : List Int} (h : ShV w v P js os) (h7 : js.length ≤ 7) (h21 : os.length ≤ 21) (hx : Reads w u xs) (h1 : validB P js os = true) (h2 : xs.length = js.length) (h3 : Sched (shOf P js os) fun i => xs.getD i 0) :
    Calls Try.prog 33 #[v, u] w fun e w' => ∃ a c, e = .returned (.tuple #[.slice a 24 c, .int .i64 0]) ∧ Reads w' (.slice a 24 c) (loadL (shOf P js os) fun i => xs.getD i 0) ∧ Below w.heap.size w w' := by
  refine (loadOk h h7 h21 hx (by omega) h1 h2 (any_range (valid_sh h1).1.loose h2 h3)).mono ?_
  rintro e w' ⟨a, c, rfl, hr, hb⟩
  have hl : (loadL (shOf P js os) fun i => xs.getD i 0).length = 24 := tab_len _ _
  rw [hl] at hr ⊢
  exact ⟨a, c, rfl, hr, hb⟩
/-- What is asked of a list of starts. -/
structure LoadGood (s : Sh) (T : Int) (ys : List Int) : Prop where
  len : ys.length = 24
  sum : sm 24 (fun t => ys.getD t 0) = T
  rng : ∀ t, 0 ≤ ys.getD t 0 ∧ ys.getD t 0 ≤ s.P
  pw : s.P ≤ 20
theorem load_good {s : Sh} (hs : Loose s) {S : Nat → Int} (h : Sched s S) : LoadGood s (sm s.n fun i => (s.job i).l * (s.job i).p) (loadL s S) := by
  refine ⟨tab_len _ _, ?_, fun t => ?_, hs.power.2⟩
  · rw [← load_sum hs h]
    exact sm_congr _ fun t ht => tab_get _ ht
  · by_cases ht : t < 24
    · unfold loadL
      rw [tab_get _ ht]
      exact ⟨sm_nonneg _ fun i hi => act_nonneg (by have := hs.jobs i hi; omega) _ _, h.load _ (by omega) (by omega)⟩
    · rw [List.getD_eq_getElem?_getD, List.getElem?_eq_none (by unfold loadL; rw [tab_len]; omega)]
      have := hs.power
      exact ⟨Int.le_refl _, by simp; omega⟩
theorem prod_in {j : J} (h : 0 ≤ j.f ∧ j.f ≤ 24 ∧ 1 ≤ j.l ∧ j.l ≤ 24 ∧ j.t ≤ 24 ∧ 0 ≤ j.t ∧ 1 ≤ j.p ∧ j.p ≤ 20) : 0 ≤ j.l * j.p ∧ j.l * j.p ≤ 480 := by
  have h1 : j.l * j.p ≤ j.l * 20 := Int.mul_le_mul_of_nonneg_left (by omega) (by omega)
  have h2 : 0 ≤ j.l * j.p := Int.mul_nonneg (by omega) (by omega)
  omega
theorem sm_prod {s : Sh} (hs : Loose s) : ∀ i, i ≤ s.n → 0 ≤ sm i (fun k => (s.job k).l * (s.job k).p) ∧ sm i (fun k => (s.job k).l * (s.job k).p) ≤ i * 480
  | 0, _ => by simp [sm]
  | i + 1, hi => by
    have := sm_prod hs i (by omega)
    have hj := hs.jobs i (by omega)
    have h1 := prod_in hj
    simp only [sm]
    omega

/-! What any schedule has in an interval, and what is needed there. -/
theorem need_le {j : J} (hj : JobIn j) {x : Int} (h1 : j.f ≤ x) (h2 : x ≤ lat j) {a b : Nat} (hab : a < b) : needJ j a b ≤ sm b (fun t => act j x (t : Int)) - sm a (fun t => act j x (t : Int)) := by
  unfold JobIn at hj
  unfold lat at h2
  rw [sm_act (by omega) (by omega), sm_act (by omega) (by omega), ← Int.sub_mul, Int.mul_comm]
  unfold needJ lat
  refine Int.mul_le_mul_of_nonneg_left ?_ (by omega)
  omega
theorem sm_sub (f g : Nat → Int) : ∀ n, sm n (fun i => f i - g i) = sm n f - sm n g
  | 0 => rfl
  | n + 1 => by simp only [sm]; rw [sm_sub f g n]; omega
theorem needs_le {s : Sh} (hs : Loose s) {S : Nat → Int} (h : Sched s S) {a b : Nat} (hab : a < b) : needS s.js a b s.n ≤ sm b (fun t => loadAt s S (t : Int)) - sm a (fun t => loadAt s S (t : Int)) := by
  unfold loadAt
  rw [sm_swap (fun i t => act (s.job i) (S i) (t : Int)), sm_swap (fun i t => act (s.job i) (S i) (t : Int)), ← sm_sub]
  exact sm_le _ fun i hi => need_le (hs.jobs i hi) (h.range i hi).1 (h.range i hi).2 hab
theorem sm_more {f : Nat → Int} {c : Int} (a : Nat) : ∀ d, (∀ i, a ≤ i → i < a + d → f i ≤ c) → sm (a + d) f - sm a f ≤ c * d
  | 0, _ => by simp
  | d + 1, h => by
    have h1 := sm_more a d (fun i h1 h2 => h i h1 (by omega))
    have h2 := h (a + d) (by omega) (by omega)
    rw [← Nat.add_assoc]
    simp only [sm]
    rw [show ((d + 1 : Nat) : Int) = (d : Int) + 1 from by omega, Int.mul_add, Int.mul_one]
    omega
/-- A shaft with a schedule has no overfull interval. -/
theorem never_over {s : Sh} (hs : Loose s) {S : Nat → Int} (h : Sched s S) {a b : Nat} (hab : a < b) (hb : b ≤ 24) : ovB s.P s.js a b = false := by
  have h1 := needs_le hs h hab
  have h2 := sm_more (f := fun t => loadAt s S (t : Int)) (c := s.P) a (b - a) (fun i h1 h2 => h.load i (by omega) (by omega))
  rw [show a + (b - a) = b from by omega] at h2
  unfold ovB
  rw [decide_eq_false_iff_not]
  have e : ((b - a : Nat) : Int) = (b : Int) - a := by omega
  rw [e] at h2
  show ¬ s.P * ((b : Int) - a) < needS s.js a b s.n
  omega
theorem not_over {P : Int} {js : List J} {os : List (Int × Int)} (hs : Loose (shOf P js os)) (h : ∃ S, Sched (shOf P js os) S) : OverIs P js 0 0 false := by
  obtain ⟨S, hS⟩ := h
  exact .inr ⟨rfl, rfl, rfl, fun x y h1 h2 _ => never_over hs hS h1 h2⟩

/-! A shaft read backwards. -/
def mirJ (j : J) : J := ⟨24 - j.t, 24 - j.f, j.l, j.p⟩
def mirO (o : Int × Int) : Int × Int := (o.2, o.1)
theorem mir_getD (js : List J) {i : Nat} (hi : i < js.length) : (js.map mirJ).getD i J0 = mirJ (js.getD i J0) := by
  rw [List.getD_eq_getElem?_getD, List.getD_eq_getElem?_getD, List.getElem?_map, List.getElem?_eq_getElem hi]; rfl
def mirS (s : Sh) (S : Nat → Int) (i : Nat) : Int := 24 - S i - (s.job i).l
def mirSh (P : Int) (js : List J) (os : List (Int × Int)) : Sh := shOf P (js.map mirJ) (os.map mirO)
theorem mir_n (P : Int) (js : List J) (os : List (Int × Int)) : (mirSh P js os).n = (shOf P js os).n := List.length_map ..
theorem mir_job {P : Int} {js : List J} {os : List (Int × Int)} {i : Nat} (hi : i < (shOf P js os).n) : (mirSh P js os).job i = mirJ ((shOf P js os).job i) := mir_getD js hi
theorem mir_load {P : Int} {js : List J} {os : List (Int × Int)} (S : Nat → Int) (x : Int) : loadAt (mirSh P js os) (mirS (shOf P js os) S) x = loadAt (shOf P js os) S (23 - x) := by
  unfold loadAt
  rw [mir_n]
  refine sm_congr _ fun i hi => ?_
  rw [mir_job hi]
  unfold act mirS mirJ
  simp only
  by_cases h : S i ≤ 23 - x ∧ 23 - x < S i + ((shOf P js os).job i).l
  · rw [if_pos h, if_pos (by omega)]
  · rw [if_neg h, if_neg (by omega)]
theorem mir_sched {P : Int} {js : List J} {os : List (Int × Int)} (hs : Loose (shOf P js os)) (S : Nat → Int) : Sched (mirSh P js os) (mirS (shOf P js os) S) ↔ Sched (shOf P js os) S := by
  have hord : ∀ o : Nat × Nat, o ∈ (mirSh P js os).os ↔ (o.2, o.1) ∈ (shOf P js os).os := fun o => by
    show o ∈ (os.map mirO).map _ ↔ _ ∈ os.map _
    rw [List.map_map, List.mem_map, List.mem_map]
    constructor
    · rintro ⟨x, hx, rfl⟩; exact ⟨x, hx, rfl⟩
    · rintro ⟨x, hx, h⟩
      refine ⟨x, hx, ?_⟩
      have h1 : x.1.toNat = o.2 := congrArg Prod.fst h
      have h2 : x.2.toNat = o.1 := congrArg Prod.snd h
      exact Prod.ext h2 h1
  constructor
  · intro h
    refine ⟨fun i hi => ?_, fun x h0 h1 => ?_, fun o ho => ?_⟩
    · have h1 := h.range i (by rw [mir_n]; exact hi)
      rw [mir_job hi] at h1
      unfold lat mirS mirJ at h1
      unfold lat
      simp only at h1
      omega
    · have h2 := h.load (23 - x) (by omega) (by omega)
      rw [mir_load] at h2
      rw [show 23 - (23 - x) = x from by omega] at h2
      exact h2
    · obtain ⟨o1, o2, _⟩ := hs.orders o ho
      have h1 := h.order (o.2, o.1) ((hord _).2 ho)
      rw [mir_job o2] at h1
      unfold mirS mirJ at h1
      simp only at h1
      omega
  · intro h
    refine ⟨fun i hi => ?_, fun x h0 h1 => ?_, fun o ho => ?_⟩
    · rw [mir_n] at hi
      have h1 := h.range i hi
      rw [mir_job hi]
      unfold lat at h1
      unfold lat mirS mirJ
      simp only
      omega
    · rw [mir_load]
      exact h.load (23 - x) (by omega) (by omega)
    · have ho' := (hord o).1 ho
      obtain ⟨o1, o2, _⟩ := hs.orders _ ho'
      have h1 := h.order _ ho'
      rw [mir_job o2]
      unfold mirS mirJ
      simp only at h1 ⊢
      omega
theorem mirS_mirS (s : Sh) (S : Nat → Int) (i : Nat) : 24 - mirS s S i - (s.job i).l = S i := by unfold mirS; omega
theorem mir_some {P : Int} {js : List J} {os : List (Int × Int)} (hs : Loose (shOf P js os)) : (∃ S, Sched (mirSh P js os) S) ↔ ∃ S, Sched (shOf P js os) S := by
  constructor
  · rintro ⟨S, hS⟩
    refine ⟨fun i => 24 - S i - ((shOf P js os).job i).l, (mir_sched hs _).1 ?_⟩
    have e : mirS (shOf P js os) (fun i => 24 - S i - ((shOf P js os).job i).l) = S := by funext i; show 24 - (24 - S i - ((shOf P js os).job i).l) - ((shOf P js os).job i).l = S i; omega
    rw [e]; exact hS
  · rintro ⟨S, hS⟩
    exact ⟨_, (mir_sched hs S).2 hS⟩
theorem mir_need (j : J) (a b : Int) : needJ (mirJ j) (24 - b) (24 - a) = needJ j a b := by
  unfold needJ mirJ lat
  simp only
  have e : min (min (min j.l (24 - a - (24 - b))) (max 0 (24 - j.t + j.l - (24 - b)))) (max 0 (24 - a - (24 - j.f - j.l))) = min (min (min j.l (b - a)) (max 0 (j.f + j.l - a))) (max 0 (b - (j.t - j.l))) := by omega
  rw [e]
theorem mir_needs (js : List J) (a b : Int) : needS (js.map mirJ) (24 - b) (24 - a) js.length = needS js a b js.length := by
  unfold needS
  exact sm_congr _ fun i hi => by rw [mir_getD js hi, mir_need]
theorem mir_ov (P : Int) (js : List J) (a b : Int) : ovB P (js.map mirJ) (24 - b) (24 - a) = ovB P js a b := by
  unfold ovB
  rw [List.length_map, mir_needs, show 24 - a - (24 - b) = b - a from by omega]
theorem mir_over {P : Int} {js : List J} : (∃ f t, OverIs P (js.map mirJ) f t true) ↔ ∃ f t, OverIs P js f t true := by
  have key : ∀ js : List J, (∃ f t, OverIs P js f t true) ↔ ∃ a b : Nat, a < b ∧ b ≤ 24 ∧ ovB P js a b = true := fun js => by
    constructor
    · rintro ⟨f, t, ⟨_, a, b, _, _, h1, h2, h3, _⟩ | ⟨h, _⟩⟩
      · exact ⟨a, b, h1, h2, h3⟩
      · cases h
    · rintro ⟨a, b, h1, h2, h3⟩
      rcases over_some P js with h | h
      · exact h
      · rcases h with ⟨h, _⟩ | ⟨_, _, _, h⟩
        · cases h
        · rw [h a b h1 h2 (by omega)] at h3; cases h3
  rw [key, key]
  constructor
  · rintro ⟨a, b, h1, h2, h3⟩
    refine ⟨24 - b, 24 - a, by omega, by omega, ?_⟩
    rw [← mir_ov, show (24 : Int) - ((24 - a : Nat) : Int) = a from by omega, show (24 : Int) - ((24 - b : Nat) : Int) = b from by omega]
    exact h3
  · rintro ⟨a, b, h1, h2, h3⟩
    refine ⟨24 - b, 24 - a, by omega, by omega, ?_⟩
    rw [show ((24 - b : Nat) : Int) = 24 - (b : Int) from by omega, show ((24 - a : Nat) : Int) = 24 - (a : Int) from by omega, mir_ov]
    exact h3
theorem mir_valid {P : Int} {js : List J} {os : List (Int × Int)} (h : validB P js os = true) : validB P (js.map mirJ) (os.map mirO) = true := by
  unfold validB at h ⊢
  simp only [Bool.and_eq_true, List.all_eq_true, inB, decide_eq_true_eq, List.length_map] at h ⊢
  obtain ⟨h1, h2, h3⟩ := h
  refine ⟨fun x hx => ?_, fun o ho => ?_, h3⟩
  · obtain ⟨⟨f, t, l, p⟩, hj, rfl⟩ := List.mem_map.1 hx
    have := jobB_iff.1 (h1 _ hj)
    show jobB ⟨24 - t, 24 - f, l, p⟩ = true
    exact jobB_iff.2 (by omega)
  · obtain ⟨y, hy, rfl⟩ := List.mem_map.1 ho
    have := ordB_iff.1 (h2 _ hy)
    exact ordB_iff.2 ⟨this.2.1, this.1, fun e => this.2.2 e.symm⟩

def Dis (u v : Value) : Prop := ∀ k, u.ownBlock = some k → v.ownBlock ≠ some k
theorem Dis.symm {u v : Value} (h : Dis u v) : Dis v u := fun k hv hu => h k hu hv

/-! ## Several rows that grow in one statement -/
/-- Rows of ints `L` of one's own, apart from each other, and new cells `P` that wait to be appended; what was before `B` is as in `w0`. -/
def St (w0 w : World) (B : Nat) (L : List (Value × List Int)) (P : List (Nat × Int)) : Prop :=
  (∀ (i : Nat) v xs, L[i]? = some (v, xs) → Ints w B v xs) ∧ (∀ (i j : Nat) v xs u ys, i ≠ j → L[i]? = some (v, xs) → L[j]? = some (u, ys) → Dis v u) ∧
  (∀ b y, (b, y) ∈ P → b < w.heap.size ∧ w.cell? ⟨b, 0, none⟩ = some (.int .i64 y) ∧ ∀ (i : Nat) v xs, L[i]? = some (v, xs) → v.ownBlock ≠ some b) ∧ B ≤ w.heap.size ∧ Below B w0 w
theorem St.below {w0 w : World} {B : Nat} {L : List (Value × List Int)} {P : List (Nat × Int)} (h : St w0 w B L P) : Below B w0 w := h.2.2.2.2
theorem St.size {w0 w : World} {B : Nat} {L : List (Value × List Int)} {P : List (Nat × Int)} (h : St w0 w B L P) : B ≤ w.heap.size := h.2.2.2.1
theorem St.ints {w0 w : World} {B : Nat} {L : List (Value × List Int)} {P : List (Nat × Int)} (h : St w0 w B L P) (i : Nat) {v : Value} {xs : List Int} (hi : L[i]? = some (v, xs)) : Ints w B v xs := h.1 i v xs hi
theorem St.dis {w0 w : World} {B : Nat} {L : List (Value × List Int)} {P : List (Nat × Int)} (h : St w0 w B L P) (i j : Nat) {v u : Value} {xs ys : List Int} (hij : i ≠ j) (hi : L[i]? = some (v, xs)) (hj : L[j]? = some (u, ys)) : Dis v u := h.2.1 i j v xs u ys hij hi hj
theorem St.drew {w0 w : World} {B : Nat} {L : List (Value × List Int)} {P : List (Nat × Int)} (h : St w0 w B L P) : St w0 w.drew B L P :=
  ⟨fun i v xs hi => (h.1 i v xs hi).below (Below.refl _ _).drew, h.2.1, h.2.2.1, h.2.2.2.1, h.2.2.2.2.drew⟩
theorem St.cell {w0 w : World} {B : Nat} {L : List (Value × List Int)} {P : List (Nat × Int)} (h : St w0 w B L P) {a : Addr} {z : Value} (ha : a.block < B) (hc : w0.cell? a = some z) : w.cell? a = some z := (h.below.cell ha).trans hc
theorem St.alloc {w0 w : World} {B : Nat} {L : List (Value × List Int)} {P : List (Nat × Int)} (h : St w0 w B L P) (y : Int) : St w0 (w.alloc (.cells #[.int .i64 y] 3)) B L ((w.heap.size, y) :: P) := by
  have hb := below_alloc1 w (.cells #[.int .i64 y] 3)
  refine ⟨fun i v xs hi => (h.1 i v xs hi).below hb, h.2.1, fun b z hm => ?_, by simp; have := h.size; omega, h.below.alloc h.size _⟩
  rcases List.mem_cons.1 hm with e | hm
  · cases e
    refine ⟨by simp, by rw [World.cell?_alloc_at (hn := rfl)]; rfl, fun i v xs hi e => ?_⟩
    have := (h.1 i v xs hi).ownBlock_lt _ e
    omega
  · obtain ⟨h1, h2, h3⟩ := h.2.2.1 b z hm
    exact ⟨by simp; omega, (hb.cell (p := ⟨b, 0, none⟩) h1).trans h2, h3⟩
theorem St.start {w : World} {B : Nat} {L : List (Value × List Int)} (h1 : ∀ (i : Nat) v xs, L[i]? = some (v, xs) → Ints w B v xs) (h2 : ∀ (i j : Nat) v xs u ys, i ≠ j → L[i]? = some (v, xs) → L[j]? = some (u, ys) → Dis v u) (hB : B ≤ w.heap.size) : St w w B L [] :=
  ⟨h1, h2, fun b y h => by simp at h, hB, Below.refl _ _⟩
/-- One of the rows grows. -/
theorem St.app {w0 w w' : World} {B : Nat} {L : List (Value × List Int)} {P : List (Nat × Int)} (h : St w0 w B L P) {i : Nat} {v v' : Value} {xs : List Int} {y : Int} (hi : L[i]? = some (v, xs))
    (h2 : Ints w' B v' (xs ++ [y])) (h3 : w.grownBy w' v.ownBlock) (h4 : v'.ownBlock = v.ownBlock ∨ v'.ownBlock = some w.heap.size) : St w0 w' B (L.set i (v', xs ++ [y])) P := by
  have hil : i < L.length := (List.getElem?_eq_some_iff.1 hi).1
  have hget : ∀ (j : Nat) u ys, (L.set i (v', xs ++ [y]))[j]? = some (u, ys) → (j = i ∧ u = v' ∧ ys = xs ++ [y]) ∨ (j ≠ i ∧ L[j]? = some (u, ys)) := by
    intro j u ys hj
    rw [List.getElem?_set] at hj
    by_cases e : i = j
    · subst e
      rw [if_pos rfl, if_pos hil] at hj
      simp only [Option.some.injEq, Prod.mk.injEq] at hj
      exact .inl ⟨rfl, hj.1.symm, hj.2.symm⟩
    · rw [if_neg e] at hj
      exact .inr ⟨fun h => e h.symm, hj⟩
  have hsz := h3.size
  have hnew : ∀ (j : Nat) u ys, j ≠ i → L[j]? = some (u, ys) → Dis u v' := by
    intro j u ys hj hu k hk e
    rcases h4 with h4 | h4
    · exact h.2.1 j i u ys v xs hj hu hi k hk (by rw [← h4]; exact e)
    · rw [h4] at e
      have := (h.1 j u ys hu).ownBlock_lt k hk
      simp at e; omega
  refine ⟨fun j u ys hj => ?_, fun j1 j2 u1 y1 u2 y2 hne hj1 hj2 => ?_, fun b z hm => ?_, by have := h.size; omega, ?_⟩
  · rcases hget j u ys hj with ⟨_, rfl, rfl⟩ | ⟨hji, hj⟩
    · exact h2
    · refine World.ownsRow.kept (h.1 j u ys hj) h3 ?_
      cases hu : u.ownBlock with
      | none => exact .inl rfl
      | some k => exact .inr (fun e => h.2.1 j i u ys v xs hji hj hi k hu e.symm)
  · rcases hget j1 u1 y1 hj1 with ⟨rfl, rfl, rfl⟩ | ⟨hji1, hk1⟩
    · rcases hget j2 u2 y2 hj2 with ⟨rfl, rfl, rfl⟩ | ⟨hji2, hk2⟩
      · exact absurd rfl hne
      · exact (hnew j2 u2 y2 hji2 hk2).symm
    · rcases hget j2 u2 y2 hj2 with ⟨rfl, rfl, rfl⟩ | ⟨hji2, hk2⟩
      · exact hnew j1 u1 y1 hji1 hk1
      · exact h.2.1 j1 j2 u1 y1 u2 y2 hne hk1 hk2
  · obtain ⟨p1, p2, p3⟩ := h.2.2.1 b z hm
    refine ⟨by omega, h3.cell p2 (fun e => p3 i v xs hi e.symm), fun j u ys hj e => ?_⟩
    rcases hget j u ys hj with ⟨_, rfl, rfl⟩ | ⟨_, hj⟩
    · rcases h4 with h4 | h4
      · exact p3 i v xs hi (by rw [← h4]; exact e)
      · rw [h4] at e; simp at e; omega
    · exact p3 j u ys hj e
  · exact h.below.grown h3 h.size (fun k hk => (World.ownsRow.lt (h.1 i v xs hi) k hk).1)

theorem step_app_st {ops : Array Oper} {o : Oper} {a : Act} {K : Act → World → Prop} {Q : Exit → Act → World → Prop} {E : Prop} {w0 w : World} {B : Nat} {L : List (Value × List Int)} {P : List (Nat × Int)}
    (i : Nat) {v : Value} {xs : List Int} {y : Int} {b : Nat} (hgd : o.guard = none) (s x : Operand)
    (ho : o.op = .call { callee := .builtin .append, args := #[s, x], argTypes := #[26, 26] }) (hty : o.type = 26) (hst : St w0 w B L P) (hi : L[i]? = some (v, xs)) (hs : a.eval s = v) (hx : a.eval x = .slice (some ⟨b, 0, none⟩) 1 1) (hm : (b, y) ∈ P)
    (hlen : xs.length ≤ 1000000) (h : ∀ v' w', St w0 w' B (L.set i (v', xs ++ [y])) P → K (a.put o.dst v') w') : if Region.wanted o (yielded ops a.tmps) = true then Oper.wp Try.prog o a w K Q else E := by
  have hw : Region.wanted o (yielded ops a.tmps) = true := by simp [Region.wanted, hgd]
  rw [if_pos hw]
  obtain ⟨v', w', hr, h2, h3, h4⟩ := app_run w (hst.ints i hi) hlen hst.size ⟨b, 0, none⟩ (hst.2.2.1 b y hm).2.1
  unfold Oper.wp execOp
  simp only [ho, resolve, invoke, builtin, Sem.run_bind, Sem.run_pure, Result.andThen_ok, List.map_toArray, List.map_cons, List.map_nil, hs, hx, hty, hr]
  exact h v' w' (hst.app hi h2 h3 h4)

theorem tab_snoc (n : Nat) (F : Nat → Int) : tab (n + 1) F = tab n F ++ [F n] := by simp [tab, List.range_succ]
/-- Where the shaft lies that is made of numbers. -/
def CutM (w : World) (p : Value) (wx : World) : Prop := ∃ g P ja jl jc oa ol oc js os, p = .pointer (some ⟨g, 0, none⟩) ∧ Three wx g (.int .i64 P) (.slice ja jl jc) (.slice oa ol oc) ∧ g < wx.heap.size ∧ w.heap.size ≤ g ∧ jl = js.length ∧ ol = os.length ∧
  OwnJ wx w.heap.size (.slice ja jl jc) js ∧ OwnO wx w.heap.size (.slice oa ol oc) os ∧ validB P js os = true ∧ Below w.heap.size w wx
theorem cutm_end {w W wk : World} {B0 gt jn jc on oc : Nat} {ja oa : Option Addr} {z0 z1 z2 : Value} {P : Int} {js : List J} {os : List (Int × Int)} (hW : Below w.heap.size w W) (hb : w.heap.size ≤ B0) (hH : Below B0 W wk) (hgt : B0 ≤ gt) (hv : validB P js os = true)
    (fJ : OwnJ wk B0 (.slice ja jn jc) js) (fO : OwnO wk B0 (.slice oa on oc) os) (fT : wk.ownsRow B0 25 3 (.slice (some ⟨gt, 0, none⟩) 1 1) 1 [z0, z1, z2]) :
    CutM w (.pointer (some ⟨gt, 0, none⟩)) (wk.setCells gt 0 [.int .i64 P, .slice ja jn jc, .slice oa on oc]) ∧ Below B0 W (wk.setCells gt 0 [.int .i64 P, .slice ja jn jc, .slice oa on oc]) := by
  obtain rfl : jn = js.length := by obtain ⟨_, _, e, _⟩ := own_cells fJ; injection e
  obtain rfl : on = os.length := by obtain ⟨_, _, e, _⟩ := own_cells fO; injection e
  have hB : Below B0 W (wk.setCells gt 0 [.int .i64 P, .slice ja js.length jc, .slice oa os.length oc]) := below_setC hgt _ _ _ hH
  have t1 := (fT.stored 0 (.int .i64 P)).1
  have t2 := (t1.stored 1 (.slice ja js.length jc)).1
  have t3 := (t2.stored 2 (.slice oa os.length oc)).1
  have lift : ∀ {B2 e2 z2' n2 : Nat} {u : Value} {ys : List Value}, wk.ownsRow B2 e2 z2' u n2 ys → e2 ≠ 25 → (wk.setCells gt 0 [.int .i64 P, .slice ja js.length jc, .slice oa os.length oc]).ownsRow B2 e2 z2' u n2 ys := fun h hne =>
    own_set_other t2 (own_set_other t1 (own_set_other fT h hne 0 _) hne 1 _) hne 2 _
  have t3' : (wk.setCells gt 0 [.int .i64 P, .slice ja js.length jc, .slice oa os.length oc]).ownsRow B0 25 3 (.slice (some ⟨gt, 0, none⟩) 1 1) 1 [.int .i64 P, .slice ja js.length jc, .slice oa os.length oc] := t3
  refine ⟨⟨gt, P, ja, _, jc, oa, _, oc, js, os, rfl, ⟨⟨?_, ?_, ?_⟩, fun j => t3'.frozenAt j⟩, (World.ownsRow.lt t3' gt rfl).2, Nat.le_trans hb hgt, rfl, rfl, own_base (lift fJ (by decide)) hb, own_base (lift fO (by decide)) hb, hv, hW.trans (hB.mono hb)⟩, hB⟩
  · rw [t3'.cellAt 0 (by decide)]; rfl
  · rw [t3'.cellAt 1 (by decide)]; rfl
  · rw [t3'.cellAt 2 (by decide)]; rfl
/-- The mirrored shaft while it is made. -/
structure MkT (W4 : World) (G : Nat) (W : World) (P : Int) (jv : Value) (js : List J) (ov : Value) (os : List (Int × Int)) : Prop where
  three : Three W G (.int .i64 P) jv ov
  j : OwnJ W (G + 1) jv js
  o : OwnO W (G + 1) ov os
  below : Below W4.heap.size W4 W
  size : G + 1 ≤ W.heap.size
theorem MkT.keep {W4 W W' : World} {G : Nat} {P : Int} {jv ov : Value} {js : List J} {os : List (Int × Int)} (h : MkT W4 G W P jv js ov os) (hb : Below W.heap.size W W') : MkT W4 G W' P jv js ov os :=
  ⟨h.three.keep hb h.size, own_below h.j hb, own_below h.o hb, below_call h.below hb, Nat.le_trans h.size hb.size⟩
theorem MkT.stepJ {W4 W wk : World} {G : Nat} {P : Int} {jv ov v' : Value} {js : List J} {os : List (Int × Int)} {x : J} {o : Obj} (h : MkT W4 G W P jv js ov os) (hG : W4.heap.size ≤ G) (hbk : Below (G + 1) (W.alloc o) wk)
    (hkp : ∀ B2 e2 z2 u k zs, e2 ≠ 56 → (W.alloc o).ownsRow B2 e2 z2 u k zs → wk.ownsRow B2 e2 z2 u k zs)
    (hown : wk.ownsRow (G + 1) 56 4 v' (js.length + 1) (flat encJ js ++ flat encJ [x])) : MkT W4 G (wk.setCell ⟨G, 1, none⟩ v') P v' (js ++ [x]) ov os := by
  have hB : Below (G + 1) W wk := ((Below.refl _ _).alloc h.size _).trans hbk
  have h3 := h.three.keep hB (Nat.lt_succ_self _)
  refine ⟨⟨⟨?_, ?_, ?_⟩, fun i => by rw [World.frozen?_setCell]; exact h3.2 i⟩, ?_, ownsRow_setCell_below (hkp _ _ _ _ _ _ (by decide) (own_alloc h.o _)) (by show G < _; omega) _, below_set (h.below.trans (hB.mono (by omega))) hG, by rw [World.size_setCell]; exact Nat.le_trans h.size hB.size⟩
  · rw [World.cell?_setCell_other _ _ _ _ (by simp)]; exact h3.1.1
  · exact World.cell?_setCell_same' _ _ _ (by rw [h3.1.2.1]; rfl)
  · rw [World.cell?_setCell_other _ _ _ _ (by simp)]; exact h3.1.2.2
  · have h6 : OwnJ wk (G + 1) v' (js ++ [x]) := by
      unfold OwnJ
      rw [flat_app, List.length_append]
      exact hown
    exact ownsRow_setCell_below h6 (by show G < _; omega) _
theorem MkT.stepO {W4 W wk : World} {G : Nat} {P : Int} {jv ov v' : Value} {js : List J} {os : List (Int × Int)} {x : Int × Int} {o : Obj} (h : MkT W4 G W P jv js ov os) (hG : W4.heap.size ≤ G) (hbk : Below (G + 1) (W.alloc o) wk)
    (hkp : ∀ B2 e2 z2 u k zs, e2 ≠ 78 → (W.alloc o).ownsRow B2 e2 z2 u k zs → wk.ownsRow B2 e2 z2 u k zs)
    (hown : wk.ownsRow (G + 1) 78 2 v' (os.length + 1) (flat encO os ++ flat encO [x])) : MkT W4 G (wk.setCell ⟨G, 2, none⟩ v') P jv js v' (os ++ [x]) := by
  have hB : Below (G + 1) W wk := ((Below.refl _ _).alloc h.size _).trans hbk
  have h3 := h.three.keep hB (Nat.lt_succ_self _)
  refine ⟨⟨⟨?_, ?_, ?_⟩, fun i => by rw [World.frozen?_setCell]; exact h3.2 i⟩, ownsRow_setCell_below (hkp _ _ _ _ _ _ (by decide) (own_alloc h.j _)) (by show G < _; omega) _, ?_, below_set (h.below.trans (hB.mono (by omega))) hG, by rw [World.size_setCell]; exact Nat.le_trans h.size hB.size⟩
  · rw [World.cell?_setCell_other _ _ _ _ (by simp)]; exact h3.1.1
  · rw [World.cell?_setCell_other _ _ _ _ (by simp)]; exact h3.1.2.1
  · exact World.cell?_setCell_same' _ _ _ (by rw [h3.1.2.2]; rfl)
  · have h6 : OwnO wk (G + 1) v' (os ++ [x]) := by
      unfold OwnO
      rw [flat_app, List.length_append]
      exact hown
    exact ownsRow_setCell_below h6 (by show G < _; omega) _
theorem ReadsO.at' {w : World} {a : Option Addr} {n c : Nat} {os : List (Int × Int)} (h : ReadsO w (.slice a n c) os) {i : Nat} (hi : i < n) : ∃ g, a = some ⟨g, 0, none⟩ ∧ g < w.heap.size ∧
    w.cell? ⟨g, i * 2, none⟩ = some (.int .i64 (os.getD i (0, 0)).1) ∧ w.cell? ⟨g, i * 2 + 1, none⟩ = some (.int .i64 (os.getD i (0, 0)).2) := by
  obtain ⟨ao, c', e, _, hh⟩ := h.at
  cases e
  exact hh i hi
/-- Starts read backwards. -/
def mirL (js : List J) (zs : List Int) : List Int := tab zs.length fun k => 24 - zs.getD k 0 - (js.getD k J0).l
theorem mirL_len (js : List J) (zs : List Int) : (mirL js zs).length = zs.length := tab_len _ _
theorem mirL_app (js : List J) (zs : List Int) (v : Int) : mirL js (zs ++ [v]) = mirL js zs ++ [24 - v - (js.getD zs.length J0).l] := by
  unfold mirL
  rw [List.length_append]
  show tab (zs.length + 1) _ = _
  rw [tab_snoc]
  congr 1
  · refine tab_congr fun t ht => ?_
    rw [List.getD_eq_getElem?_getD, List.getElem?_append_left ht, ← List.getD_eq_getElem?_getD]
  · rw [List.getD_eq_getElem?_getD, List.getElem?_concat_length]; rfl
theorem sched_congr {s : Sh} (hs : Loose s) {S T : Nat → Int} (h : ∀ i, i < s.n → S i = T i) : Sched s S → Sched s T := fun hS =>
  ⟨fun i hi => by rw [← h i hi]; exact hS.range i hi, fun t h0 h1 => by
    have := hS.load t h0 h1
    have e : loadAt s T t = loadAt s S t := sm_congr _ fun i hi => by rw [h i hi]
    rw [e]; exact this, fun o ho => by
    obtain ⟨o1, o2, _⟩ := hs.orders o ho
    rw [← h _ o1, ← h _ o2]; exact hS.order o ho⟩
theorem mirL_sched {P : Int} {js : List J} {os : List (Int × Int)} (hs : Loose (shOf P js os)) (ht : Loose (mirSh P js os)) {zs : List Int} (hl : zs.length = js.length) : Sched (mirSh P js os) (fun k => (mirL js zs).getD k 0) ↔ Sched (shOf P js os) fun k => zs.getD k 0 := by
  rw [← mir_sched hs]
  have key : ∀ i, i < (mirSh P js os).n → (mirL js zs).getD i 0 = mirS (shOf P js os) (fun k => zs.getD k 0) i := fun i hi => by
    rw [mir_n] at hi
    unfold mirL
    rw [tab_get _ (by rw [hl]; exact hi)]
    rfl
  exact ⟨sched_congr ht key, sched_congr ht fun i hi => (key i hi).symm⟩
theorem ints_slice {w : World} {B : Nat} {v : Value} {xs : List Int} (h : Ints w B v xs) : ∃ a n c, v = .slice a n c ∧ n = xs.length := by
  obtain ⟨a, c, e, _⟩ := h.shape
  exact ⟨a, _, c, e, rfl⟩
theorem st_two {w : World} {B : Nat} {u v : Value} {xs ys : List Int} (h1 : Ints w B u xs) (h2 : Ints w B v ys) : ∀ (i : Nat) z zs, [(u, xs), (v, ys)][i]? = some (z, zs) → Ints w B z zs := fun i z zs h => by
  match i, h with
  | 0, h => simp at h; obtain ⟨rfl, rfl⟩ := h; exact h1
  | 1, h => simp at h; obtain ⟨rfl, rfl⟩ := h; exact h2
  | i + 2, h => simp at h
theorem st_dis {u v : Value} {xs ys : List Int} (h : Dis u v) : ∀ (i j : Nat) a al b bl, i ≠ j → [(u, xs), (v, ys)][i]? = some (a, al) → [(u, xs), (v, ys)][j]? = some (b, bl) → Dis a b := fun i j a al b bl hij h1 h2 => by
  match i, j, h1, h2 with
  | 0, 0, _, _ => exact absurd rfl hij
  | 1, 1, _, _ => exact absurd rfl hij
  | 0, 1, h1, h2 => simp at h1 h2; obtain ⟨rfl, rfl⟩ := h1; obtain ⟨rfl, rfl⟩ := h2; exact h
  | 1, 0, h1, h2 => simp at h1 h2; obtain ⟨rfl, rfl⟩ := h1; obtain ⟨rfl, rfl⟩ := h2; exact h.symm
  | i + 2, _, h1, _ => simp at h1
  | 0, j + 2, _, h2 => simp at h2
  | 1, j + 2, _, h2 => simp at h2
theorem fitsOk' {w : World} {v u : Value} {P : Int} {js : List J} {os : List (Int × Int)} {xs : List Int} (h : ShV w v P js os) (h7 : js.length ≤ 7) (h21 : os.length ≤ 21) (hx : Reads w u xs) (hl : xs.length ≤ 1000000) (h1 : validB P js os = true) (h2 : xs.length = js.length) {d0 : Bool} (hd : d0 = true ↔ Sched (shOf P js os) fun i => xs.getD i 0) :
    Calls Try.prog 16 #[v, u] w fun e w' => e = .returned (.tuple #[.bool d0, .int .i64 0]) ∧ Below w.heap.size w w' := by
  refine (fits16 h h7 h21 hx hl).mono ?_
  rintro e w' ⟨d, err', rfl, hb, ha⟩
  have hy : d = d0 ∧ err' = 0 := by
    rcases ha with ⟨g1, _⟩ | ⟨_, ⟨g2, _⟩ | ⟨_, g3, g4⟩⟩
    · rw [h1] at g1; cases g1
    · exact absurd h2 g2
    · exact ⟨Bool.eq_iff_iff.2 (g3.trans hd.symm), g4⟩
  obtain ⟨rfl, rfl⟩ := hy
  exact ⟨rfl, hb⟩
theorem job_new (W : World) (a b c d : Value) : (W.alloc (.cells #[a, b, c, d] 56)).cell? ⟨W.heap.size, 0, none⟩ = some a ∧ (W.alloc (.cells #[a, b, c, d] 56)).cell? ⟨W.heap.size, 1, none⟩ = some b ∧ (W.alloc (.cells #[a, b, c, d] 56)).cell? ⟨W.heap.size, 2, none⟩ = some c ∧ (W.alloc (.cells #[a, b, c, d] 56)).cell? ⟨W.heap.size, 3, none⟩ = some d := by
  have h := heap_alloc_new W (.cells #[a, b, c, d] 56)
  exact ⟨cell_of_row _ _ 0 _ _ _ h, cell_of_row _ _ 1 _ _ _ h, cell_of_row _ _ 2 _ _ _ h, cell_of_row _ _ 3 _ _ _ h⟩
set_option maxHeartbeats 8000000 in
set_option maxRecDepth 100000 in
theorem walk13 {w : World} {v u : Value} {p a b : Nat} {xs : List (Nat × Nat × Nat × Nat)} {bs : List (Nat × Nat)} {ys : List Nat} (h : InWork w v p xs bs) (hy : InU8 w u ys) (ha255 : a ≤ 255) (hb255 : b ≤ 255) :
    Calls Try.prog 13 #[v, u, .agg #[.int .u8 (a : Int), .int .u8 (b : Int)]] w fun e w' => e = .returned (.bool true) ∧ Below w.heap.size w w' := by
  obtain ⟨⟨ua, uc, rfl, huc, hum, huat⟩, hub⟩ := hy
  obtain ⟨yn, hyn⟩ : ∃ n, n = ys.length := ⟨_, rfl⟩
  rw [← hyn] at huc hum huat ⊢
  have huat' := Lib.hid huat
  have hub' := Lib.hid hub
  have hyn' := Lib.hid hyn
  clear huat hub hyn
  have hm0 := fun (W : World) (hb : Below w.heap.size w W) => made35 (h.below hb)
  obtain ⟨av, bv, rfl, -, ha, hb, -⟩ := h
  obtain ⟨aa, an, ac, rfl⟩ : ∃ a n c, av = .slice a n c := by obtain ⟨_, a, c, e, _⟩ := ha; exact ⟨_, _, _, e⟩
  obtain ⟨ba, bn, bc, rfl⟩ : ∃ a n c, bv = .slice a n c := by obtain ⟨_, a, c, e, _⟩ := hb; exact ⟨_, _, _, e⟩
  clear ha hb
  have hm0' := Lib.hid hm0
  clear hm0
  go_enter Try.func13, Try.ntmps13
  go_wp2_with fail
  obtain ⟨W, hW⟩ : ∃ W, W = (w.alloc (.cells #[.int .u8 (p : Int), .slice aa an ac, .slice ba bn bc] 64)).alloc (.cells #[.int .u8 (a : Int), .int .u8 (b : Int)] 76) := ⟨_, rfl⟩
  rw [← hW]
  have hWb : Below w.heap.size w W := by rw [hW]; exact (below_alloc1 w _).alloc (by simp) _
  have hWs : W.heap.size = w.heap.size + 1 + 1 := by rw [hW]; simp
  have hbx := below_alloc1 (w.alloc (.cells #[.int .u8 (p : Int), .slice aa an ac, .slice ba bn bc] 64)) (.cells #[.int .u8 (a : Int), .int .u8 (b : Int)] 76)
  have hth := Three.new w (.int .u8 (p : Int)) (.slice aa an ac) (.slice ba bn bc) 64
  have hth2 : Three W w.heap.size (.int .u8 (p : Int)) (.slice aa an ac) (.slice ba bn bc) := by rw [hW]; exact hth.keep hbx (by simp)
  obtain ⟨⟨c0, c1, c2⟩, -⟩ := hth2
  have k0 : W.cell? ⟨w.heap.size + 1, 0, none⟩ = some (.int .u8 (a : Int)) := by rw [hW, World.cell?_alloc_at (hn := by simp)]; rfl
  have k1 : W.cell? ⟨w.heap.size + 1, 1, none⟩ = some (.int .u8 (b : Int)) := by rw [hW, World.cell?_alloc_at (hn := by simp)]; rfl
  obtain ⟨b1, hb1⟩ : ∃ b1, b1 = w.heap.size := ⟨_, rfl⟩
  rw [← hb1] at c0 c1 c2 k0 k1 ⊢
  obtain ⟨B0, hB0⟩ : ∃ B0, B0 = W.heap.size := ⟨_, rfl⟩
  have hsW : B0 ≤ W.heap.size := Nat.le_of_eq hB0
  have hb12 : b1 < B0 := by omega
  have hb13 : b1 + 1 < B0 := by omega
  have hbB := Lib.hid (show w.heap.size ≤ B0 by omega)
  have hmk := Lib.hid (fun (V : World) (hb : Below B0 W V) => hm0'.out V (hWb.trans (hb.mono hbB.out)))
  have hWb' := Lib.hid hWb
  have hb1' := Lib.hid hb1
  clear hW hWb hb1 hWs hB0 hbx hth
  go_cut [7, 8, 9] from 38 (fun p q r wx => ∃ w4 : World, w4 = wx ∧ CutM w p w4 ∧ q = .int .u8 (a : Int) ∧ r = .int .u8 (b : Int))
  case rest =>
    obtain ⟨W4, rfl, ⟨G0, P, ja, jl, jc, oa, ol, oc, js, os, rfl, hT, hz, hGw, hjl, hol, oj, oo, hv, hbW⟩, rfl, rfl⟩ := hcut
    have hT' := Lib.hid hT
    have hz' := Lib.hid hz
    have hjl' := Lib.hid hjl
    have hol' := Lib.hid hol
    have hv' := Lib.hid hv
    have hbW' := Lib.hid hbW
    have hV := Lib.hid (valid_sh hv)
    have hrd := Lib.hid (fun (X : World) (hb : Below W4.heap.size W4 X) => (show ReadsJ X (.slice ja jl jc) js ∧ ReadsO X (.slice oa ol oc) os from ⟨oj.reads.below hb, oo.reads.below hb⟩))
    have hsh := Lib.hid (fun (X : World) (hb : Below W4.heap.size W4 X) => (show ShV X (.agg #[.int .i64 P, .slice ja jl jc, .slice oa ol oc]) P js os from ⟨_, _, rfl, oj.reads.below hb, oo.reads.below hb⟩))
    have h6 : 1 ≤ jl ∧ jl ≤ 6 := by have := hV.out.1.loose.num; rw [show (shOf P js os).n = js.length from rfl, ← hjl] at this; exact this
    have h20 : ol ≤ 20 := by have := hV.out.1.loose.few; rw [show (shOf P js os).os.length = os.length from List.length_map .., ← hol] at this; exact this
    obtain ⟨⟨y0, y1, y2⟩, -⟩ := hT
    obtain ⟨iJ, hiJ, hJ0, hJ1, hJ2⟩ := info_parts info56
    obtain ⟨iO, hiO, hO0, hO1, hO2⟩ := info_parts info78
    clear hz hjl hol hv hbW oj oo hGw hmk hm0' c0 c1 c2 k0 k1
    go_wp2_with fail
    obtain ⟨W5, hW5⟩ : ∃ X, X = W4.alloc (.cells #[.int .i64 P, .slice none 0 0, .slice none 0 0] 25) := ⟨_, rfl⟩
    obtain ⟨G1, hG1⟩ : ∃ g, g = W4.heap.size := ⟨_, rfl⟩
    have hM := Lib.hid (show MkT W4 G1 W5 P (.slice none 0 0) [] (.slice none 0 0) [] from by
      refine ⟨?_, own_nilJ _ _, own_nilO _ _, ?_, ?_⟩
      · rw [hW5, hG1]; exact Three.new W4 _ _ _ 25
      · rw [hW5]; exact below_alloc1 W4 _
      · rw [hW5, hG1]; simp)
    have hG1' := Lib.hid hG1
    rw [← hW5, ← hG1]
    clear hW5
    clear hG1 y0 y1 y2
    go_loopw [11] (fun iv wr => ∃ i : Nat, ∃ jv, i ≤ jl ∧ iv = .int .i64 i ∧ Hid (MkT W4 G1 wr P jv ((js.take i).map mirJ) (.slice none 0 0) [])) (fun iv _ => jl - (intOf iv).toNat)
    case atStart => exact ⟨0, _, Nat.zero_le _, rfl, hM⟩
    case round =>
      clear hM
      obtain ⟨i, jv, hi, rfl, hM⟩ := hrel
      obtain ⟨wi, rfl⟩ : ∃ wi : World, wi = wr := ⟨_, rfl⟩
      obtain ⟨⟨y0, y1, y2⟩, -⟩ := hT'.out.keep hM.out.below hz'.out
      obtain ⟨va, vl, vc, rfl, -⟩ := own_len hM.out.j
      by_cases hin : i < jl
      · as_aux_lemma =>
        obtain ⟨g, rfl, hg, d0, d1, d2, d3⟩ := (hrd.out wi hM.out.below).1.at' hin
        have hjx := Lib.hid (hV.out.1.loose.jobs i (by rw [show (shOf P js os).n = js.length from rfl, ← hjl'.out]; exact hin))
        have hjy := hjx.out
        rw [show (shOf P js os).job i = js.getD i J0 from rfl] at hjy
        obtain ⟨⟨f, t, l, q⟩, hjq⟩ : ∃ x, x = js.getD i J0 := ⟨_, rfl⟩
        rw [← hjq] at d0 d1 d2 d3 hjy
        simp only at d0 d1 d2 d3 hjy
        have hnext := Lib.hid (show (js.take (i + 1)).map mirJ = (js.take i).map mirJ ++ [⟨24 - t, 24 - f, l, q⟩] from by
          have hi' : i < js.length := by rw [← hjl'.out]; exact hin
          rw [List.take_succ_eq_append_getElem hi', List.map_append]
          have : js[i] = ⟨f, t, l, q⟩ := by rw [hjq, List.getD_eq_getElem?_getD, List.getElem?_eq_getElem hi']; rfl
          rw [this]; rfl)
        have hlen := Lib.hid (show ((js.take i).map mirJ).length = i by rw [List.length_map, List.length_take, ← hjl'.out]; omega)
        have hin' : (i : Int) < (jl : Int) := by omega
        have s1 : IntKind.i64.wrap (24 - t) = 24 - t := IntWalk.i64_in _ (by omega)
        have s2 : IntKind.i64.wrap (24 - f) = 24 - f := IntWalk.i64_in _ (by omega)
        obtain ⟨wj, hwj⟩ : ∃ x, x = wi.alloc (.cells #[.int .i64 f, .int .i64 t, .int .i64 l, .int .i64 q] 56) := ⟨_, rfl⟩
        have hMj := Lib.hid (show MkT W4 G1 wj P (.slice va vl vc) ((js.take i).map mirJ) (.slice none 0 0) [] by rw [hwj]; exact hM.out.keep (below_alloc1 wi _))
        obtain ⟨e0, e1, e2, e3⟩ := show wj.cell? ⟨wi.heap.size, 0, none⟩ = some (.int .i64 f) ∧ wj.cell? ⟨wi.heap.size, 1, none⟩ = some (.int .i64 t) ∧ wj.cell? ⟨wi.heap.size, 2, none⟩ = some (.int .i64 l) ∧ wj.cell? ⟨wi.heap.size, 3, none⟩ = some (.int .i64 q) from by rw [hwj]; exact job_new wi _ _ _ _
        obtain ⟨gi, hgi⟩ : ∃ g, g = wi.heap.size := ⟨_, rfl⟩
        obtain ⟨⟨x0, x1, x2⟩, xf⟩ := hMj.out.three
        have xf1 := xf 1
        have hlit := Lib.hid (lit_job wj (24 - t) (24 - f) l q)
        have hGj := Lib.hid (show W4.heap.size ≤ G1 by rw [hG1'.out]; exact Nat.le_refl _)
        clear hjq xf
        go_upto_region 7 with fail
        rw [← hwj]
        rw [← hgi] at e0 e1 e2 e3 ⊢
        clear hwj hgi y0 y1 y2 d0 d1 d2 d3
        go_wp2_with (
          at_builtin; refine app_flatK Try.underlying22 hiJ hJ0 hJ1 hJ2 rfl (by decide) (by decide) (own_alloc hMj.out.j _) hlit.out (one_flatJ _) (by rw [hlen.out]; omega) (by rw [World.size_alloc]; exact Nat.le_succ_of_le hMj.out.size) rfl _ _ rfl rfl rfl ?_; intro v' wk hown hbk hkp
          have hstep := Lib.hid (hMj.out.stepJ hGj.out hbk hkp hown)
          obtain ⟨va', vl', vc', rfl, -⟩ := own_len hown
          have hzk := Lib.hid (hMj.out.three.keep (((Below.refl _ _).alloc hMj.out.size _).trans hbk) (Nat.lt_succ_self _))
          obtain ⟨⟨x0, x1, x2⟩, xf⟩ := hzk.out
          have xf1 := xf 1
          clear xf hown hbk hkp)
        exact ⟨⟨i + 1, _, by omega, by go_num, by rw [hnext.out]; exact hstep⟩, by simp [intOf]; omega⟩
      · obtain rfl : i = jl := by omega
        rw [show js.take i = js from List.take_of_length_le (by rw [hjl'.out]; exact Nat.le_refl _)] at hM
        clear hin hi
        go_wp2_with fail
        go_loopw [13] (fun iv wr => ∃ k : Nat, ∃ ov, k ≤ ol ∧ iv = .int .i64 k ∧ Hid (MkT W4 G1 wr P (.slice va vl vc) (js.map mirJ) ov ((os.take k).map mirO))) (fun iv _ => ol - (intOf iv).toNat)
        case atStart => exact ⟨0, _, Nat.zero_le _, rfl, hM⟩
        case round =>
          clear hM
          obtain ⟨k, ov, hk, rfl, hM⟩ := hrel
          obtain ⟨wi, rfl⟩ : ∃ wi : World, wi = wr := ⟨_, rfl⟩
          obtain ⟨⟨y0, y1, y2⟩, -⟩ := hT'.out.keep hM.out.below hz'.out
          obtain ⟨oa2, ol2, oc2, rfl, -⟩ := own_len hM.out.o
          by_cases hkn : k < ol
          · as_aux_lemma =>
            obtain ⟨g, rfl, hg4, d0, d1⟩ := (hrd.out W4 (Below.refl _ _)).2.at' hkn
            have d0 := (hM.out.below.cell (p := ⟨g, k * 2, none⟩) hg4).trans d0
            have d1 := (hM.out.below.cell (p := ⟨g, k * 2 + 1, none⟩) hg4).trans d1
            have hgG : g < G1 := by rw [hG1'.out]; exact hg4
            have hG01 : G0 < G1 := by rw [hG1'.out]; exact hz'.out
            obtain ⟨⟨x, y⟩, hxy⟩ : ∃ o, o = os.getD k (0, 0) := ⟨_, rfl⟩
            rw [← hxy] at d0 d1
            simp only at d0 d1
            have hnext := Lib.hid (show (os.take (k + 1)).map mirO = (os.take k).map mirO ++ [(y, x)] from by
              have hi' : k < os.length := by rw [← hol'.out]; exact hkn
              rw [List.take_succ_eq_append_getElem hi', List.map_append]
              have : os[k] = (x, y) := by rw [hxy, List.getD_eq_getElem?_getD, List.getElem?_eq_getElem hi']; rfl
              rw [this]; rfl)
            have hlen := Lib.hid (show ((os.take k).map mirO).length = k by rw [List.length_map, List.length_take, ← hol'.out]; omega)
            have hkn' : (k : Int) < (ol : Int) := by omega
            have hGj := Lib.hid (show W4.heap.size ≤ G1 by rw [hG1'.out]; exact Nat.le_refl _)
            have hM2 := hM
            have hns := hM.out.size
            clear hxy
            go_upto_region 11 with fail
            refine wp_region_noPanic ?_
            refine wp_region_any (by as_aux_lemma => kernel_rfl) (wpAny_of_held (S := fun w' => Below G1 wi w') _ _ _ _ ?_)
            have hHeld : Below G1 wi wi.drew := (Below.refl _ _).drew
            change wpAnyH _ _ _ _ _ _ _ _ wi.drew
            simp only [List.size_toArray, List.length_cons, List.length_nil, Nat.reduceAdd, Array.replicate_succ, Array.replicate_zero, List.push_toArray, List.nil_append, List.cons_append]
            refine wpAnyH_take (i := 0) (v := .pointer (some ⟨G1, 2, none⟩)) rfl (by as_aux_lemma => kernel_rfl) (by as_aux_lemma => kernel_rfl) (by as_aux_lemma => kernel_rfl) (fun _ _ _ h => h) (Or.inl ⟨by rfl, ?_⟩) hHeld ?_
            · intro w' hSw; go_simp
            simp only [Act.put, List.setIfInBounds_toArray, List.set_cons_zero, List.set_cons_succ, List.getElem_toArray, List.getElem_cons_zero]
            refine wpAnyH_take (i := 2) (v := .pointer (some ⟨G0, 2, none⟩)) rfl (by as_aux_lemma => kernel_rfl) (by as_aux_lemma => kernel_rfl) (by as_aux_lemma => kernel_rfl) (fun _ _ _ h => h) (Or.inl ⟨by rfl, ?_⟩) hHeld ?_
            · intro w' hSw; go_simp
            simp only [Act.put, List.setIfInBounds_toArray, List.set_cons_zero, List.set_cons_succ, List.getElem_toArray, List.getElem_cons_succ, List.getElem_cons_zero]
            refine wpAnyH_take (i := 3) (v := .slice (some ⟨g, 0, none⟩) ol oc) rfl (by as_aux_lemma => kernel_rfl) (by as_aux_lemma => kernel_rfl) (by as_aux_lemma => kernel_rfl) (fun _ _ _ h => h) (Or.inl ⟨by rfl, ?_⟩) hHeld ?_
            · intro w' hSw; have a0 := (hSw.cell (p := ⟨G0, 2, none⟩) hG01).trans y2; go_simp
            simp only [Act.put, List.setIfInBounds_toArray, List.set_cons_zero, List.set_cons_succ, List.getElem_toArray, List.getElem_cons_succ, List.getElem_cons_zero]
            refine wpAnyH_take (i := 4) (v := .int .i64 k) rfl (by as_aux_lemma => kernel_rfl) (by as_aux_lemma => kernel_rfl) (by as_aux_lemma => kernel_rfl) (fun _ _ _ h => h) (Or.inl ⟨by rfl, ?_⟩) hHeld ?_
            · intro w' hSw; go_simp
            simp only [Act.put, List.setIfInBounds_toArray, List.set_cons_zero, List.set_cons_succ, List.getElem_toArray, List.getElem_cons_succ, List.getElem_cons_zero]
            refine wpAnyH_take (i := 5) (v := .pointer (some ⟨g, k * 2, none⟩)) rfl (by as_aux_lemma => kernel_rfl) (by as_aux_lemma => kernel_rfl) (by as_aux_lemma => kernel_rfl) (fun _ _ _ h => h) (Or.inl ⟨by rfl, ?_⟩) hHeld ?_
            · intro w' hSw; go_simp
            simp only [Act.put, List.setIfInBounds_toArray, List.set_cons_zero, List.set_cons_succ, List.getElem_toArray, List.getElem_cons_succ, List.getElem_cons_zero]
            refine wpAnyH_take (i := 6) (v := .pointer (some ⟨g, k * 2 + 1, none⟩)) rfl (by as_aux_lemma => kernel_rfl) (by as_aux_lemma => kernel_rfl) (by as_aux_lemma => kernel_rfl) (fun _ _ _ h => h) (Or.inl ⟨by rfl, ?_⟩) hHeld ?_
            · intro w' hSw; go_simp
            simp only [Act.put, List.setIfInBounds_toArray, List.set_cons_zero, List.set_cons_succ, List.getElem_toArray, List.getElem_cons_succ, List.getElem_cons_zero]
            refine wpAnyH_take (i := 7) (v := .int .i64 y) rfl (by as_aux_lemma => kernel_rfl) (by as_aux_lemma => kernel_rfl) (by as_aux_lemma => kernel_rfl) (fun _ _ _ h => h) (Or.inl ⟨by rfl, ?_⟩) hHeld ?_
            · intro w' hSw; have a1 := (hSw.cell (p := ⟨g, k * 2 + 1, none⟩) hgG).trans d1; go_simp
            simp only [Act.put, List.setIfInBounds_toArray, List.set_cons_zero, List.set_cons_succ, List.getElem_toArray, List.getElem_cons_succ, List.getElem_cons_zero]
            refine wpAnyH_take (i := 8) (v := .pointer (some ⟨G0, 2, none⟩)) rfl (by as_aux_lemma => kernel_rfl) (by as_aux_lemma => kernel_rfl) (by as_aux_lemma => kernel_rfl) (fun _ _ _ h => h) (Or.inl ⟨by rfl, ?_⟩) hHeld ?_
            · intro w' hSw; go_simp
            simp only [Act.put, List.setIfInBounds_toArray, List.set_cons_zero, List.set_cons_succ, List.getElem_toArray, List.getElem_cons_succ, List.getElem_cons_zero]
            refine wpAnyH_take (i := 9) (v := .slice (some ⟨g, 0, none⟩) ol oc) rfl (by as_aux_lemma => kernel_rfl) (by as_aux_lemma => kernel_rfl) (by as_aux_lemma => kernel_rfl) (fun _ _ _ h => h) (Or.inl ⟨by rfl, ?_⟩) hHeld ?_
            · intro w' hSw; have a0 := (hSw.cell (p := ⟨G0, 2, none⟩) hG01).trans y2; go_simp
            simp only [Act.put, List.setIfInBounds_toArray, List.set_cons_zero, List.set_cons_succ, List.getElem_toArray, List.getElem_cons_succ, List.getElem_cons_zero]
            refine wpAnyH_take (i := 10) (v := .int .i64 k) rfl (by as_aux_lemma => kernel_rfl) (by as_aux_lemma => kernel_rfl) (by as_aux_lemma => kernel_rfl) (fun _ _ _ h => h) (Or.inl ⟨by rfl, ?_⟩) hHeld ?_
            · intro w' hSw; go_simp
            simp only [Act.put, List.setIfInBounds_toArray, List.set_cons_zero, List.set_cons_succ, List.getElem_toArray, List.getElem_cons_succ, List.getElem_cons_zero]
            refine wpAnyH_take (i := 11) (v := .pointer (some ⟨g, k * 2, none⟩)) rfl (by as_aux_lemma => kernel_rfl) (by as_aux_lemma => kernel_rfl) (by as_aux_lemma => kernel_rfl) (fun _ _ _ h => h) (Or.inl ⟨by rfl, ?_⟩) hHeld ?_
            · intro w' hSw; go_simp
            simp only [Act.put, List.setIfInBounds_toArray, List.set_cons_zero, List.set_cons_succ, List.getElem_toArray, List.getElem_cons_succ, List.getElem_cons_zero]
            refine wpAnyH_take (i := 12) (v := .pointer (some ⟨g, k * 2, none⟩)) rfl (by as_aux_lemma => kernel_rfl) (by as_aux_lemma => kernel_rfl) (by as_aux_lemma => kernel_rfl) (fun _ _ _ h => h) (Or.inl ⟨by rfl, ?_⟩) hHeld ?_
            · intro w' hSw; go_simp
            simp only [Act.put, List.setIfInBounds_toArray, List.set_cons_zero, List.set_cons_succ, List.getElem_toArray, List.getElem_cons_succ, List.getElem_cons_zero]
            refine wpAnyH_take (i := 13) (v := .int .i64 x) rfl (by as_aux_lemma => kernel_rfl) (by as_aux_lemma => kernel_rfl) (by as_aux_lemma => kernel_rfl) (fun _ _ _ h => h) (Or.inl ⟨by rfl, ?_⟩) hHeld ?_
            · intro w' hSw; have a1 := (hSw.cell (p := ⟨g, k * 2, none⟩) hgG).trans d0; go_simp
            simp only [Act.put, List.setIfInBounds_toArray, List.set_cons_zero, List.set_cons_succ, List.getElem_toArray, List.getElem_cons_succ, List.getElem_cons_zero]
            refine wpAnyH_take (i := 14) (v := .agg #[.int .i64 y, .int .i64 x]) rfl (by as_aux_lemma => kernel_rfl) (by as_aux_lemma => kernel_rfl) (by as_aux_lemma => kernel_rfl) (fun _ _ _ h => h) (Or.inl ⟨by rfl, ?_⟩) hHeld ?_
            · intro w' hSw; go_simp
            simp only [Act.put, List.setIfInBounds_toArray, List.set_cons_zero, List.set_cons_succ, List.getElem_toArray, List.getElem_cons_succ, List.getElem_cons_zero]
            refine wpAnyH_ready (rs := [1, 15]) (by as_aux_lemma => kernel_rfl) (by simp) ?_
            refine AllReadyH.cons rfl (fun K hK => ?_) (AllReadyH.cons rfl (fun K hK => ?_) AllReadyH.nil)
            · have x2 : (wi.drew).cell? ⟨G1, 2, none⟩ = some (.slice oa2 ol2 oc2) := hM2.out.three.1.2.2
              go_simp
              refine hK.out _ _ hHeld (fun hHeld => ?_)
              clear hK K x2
              simp only [List.setIfInBounds_toArray, List.set_cons_zero, List.set_cons_succ]
              refine wpAnyH_ready (rs := [15]) (by as_aux_lemma => kernel_rfl) (by simp) ?_
              refine AllReadyH.cons rfl (fun K hK => ?_) AllReadyH.nil
              have hal : Below G1 wi (wi.alloc (.cells #[.int .i64 y, .int .i64 x] 78)).drew := ((Below.refl _ _).alloc (Nat.le_of_succ_le hns) _).drew
              go_simp
              refine hK.out _ _ hal (fun hHeld => ?_)
              clear hK K hal
              simp only [List.setIfInBounds_toArray, List.set_cons_zero, List.set_cons_succ]
              change Below G1 wi (wi.alloc (.cells #[.int .i64 y, .int .i64 x] 78)).drew at hHeld
              change wpAnyH _ _ _ _ _ _ _ _ (wi.alloc (.cells #[.int .i64 y, .int .i64 x] 78)).drew
              have hMb := Lib.hid (show MkT W4 G1 (wi.alloc (.cells #[.int .i64 y, .int .i64 x] 78)).drew P (.slice va vl vc) (js.map mirJ) (.slice oa2 ol2 oc2) ((os.take k).map mirO) from hM2.out.keep (below_alloc1 wi _).drew)
              have hlit := Lib.hid ((lit_ord wi y x).below (Below.refl _ _).drew)
              refine wpAnyH_ready (rs := [16]) (by as_aux_lemma => kernel_rfl) (by simp) ?_
              refine AllReadyH.cons rfl (fun K hK => ?_) AllReadyH.nil
              refine step_flat Try.underlying23 hiO hO0 hO1 hO2 rfl (by decide) (by decide) rfl (.tmp 83) (.tmp 97) rfl (own_drew (own_alloc hM2.out.o (.cells #[.int .i64 y, .int .i64 x] 78))) (by simp [Act.eval]) (by simp [Act.eval]) hlit.out (one_flatO _) (by rw [hlen.out]; omega) (by show _ ≤ (wi.alloc _).heap.size; rw [World.size_alloc]; exact Nat.le_succ_of_le hM2.out.size) ?_
              intro v' wk hown hbk hkp
              have hbk2 := (((Below.refl (G1 + 1) (wi.alloc (.cells #[.int .i64 y, .int .i64 x] 78))).drew).trans hbk)
              have hstep := Lib.hid (hM2.out.stepO hGj.out hbk2 (fun B2 e2 z2 u k zs h1 h2 => hkp B2 e2 z2 u k zs h1 (own_drew h2)) hown)
              obtain ⟨va', vl', vc', rfl, -⟩ := own_len hown
              have hzk := Lib.hid (hM2.out.three.keep (((Below.refl _ _).alloc hM2.out.size _).trans hbk2) (Nat.lt_succ_self _))
              refine hK.out _ _ (hHeld.trans (hbk.mono (Nat.le_succ _))) (fun hHeld => ?_)
              clear hK K hown hbk hbk2 hkp
              simp only [Act.put, List.setIfInBounds_toArray, List.set_cons_zero, List.set_cons_succ, List.getElem_toArray, List.getElem_cons_succ, List.getElem_cons_zero]
              refine wpAnyH_take (i := 17) (v := .pointer (some ⟨G1, 2, none⟩)) rfl (by as_aux_lemma => kernel_rfl) (by as_aux_lemma => kernel_rfl) (by as_aux_lemma => kernel_rfl) (fun _ _ _ h => h) (Or.inl ⟨by rfl, ?_⟩) hHeld ?_
              · intro w' hSw; go_simp
              simp only [Act.put, List.setIfInBounds_toArray, List.set_cons_zero, List.set_cons_succ, List.getElem_toArray, List.getElem_cons_succ, List.getElem_cons_zero]
              refine wpAnyH_ready (rs := [18]) (by as_aux_lemma => kernel_rfl) (by simp) ?_
              refine AllReadyH.cons rfl (fun K hK => ?_) AllReadyH.nil
              obtain ⟨⟨x0, x1, x2⟩, xf⟩ := hzk.out
              have xf2 := xf 2
              clear xf
              have hend : Below G1 wi (wk.setCell ⟨G1, 2, none⟩ (.slice va' vl' vc')) := below_set hHeld (Nat.le_refl _)
              go_simp
              refine hK.out _ _ hend (fun hHeld => ?_)
              clear hK K
              simp only [List.setIfInBounds_toArray, List.set_cons_zero, List.set_cons_succ]
              refine wpAnyH_done (by as_aux_lemma => kernel_rfl) ?_ _
              refine NoPanic.normal ?_
              go_wp2_with fail
              exact ⟨⟨k + 1, _, by omega, by go_num, by rw [hnext.out]; exact hstep⟩, by simp [intOf]; omega⟩
            · have hal : Below G1 wi (wi.alloc (.cells #[.int .i64 y, .int .i64 x] 78)).drew := ((Below.refl _ _).alloc (Nat.le_of_succ_le hns) _).drew
              go_simp
              refine hK.out _ _ hal (fun hHeld => ?_)
              clear hK K hal
              simp only [List.setIfInBounds_toArray, List.set_cons_zero, List.set_cons_succ]
              change Below G1 wi (wi.alloc (.cells #[.int .i64 y, .int .i64 x] 78)).drew at hHeld
              change wpAnyH _ _ _ _ _ _ _ _ (wi.alloc (.cells #[.int .i64 y, .int .i64 x] 78)).drew
              have hMb := Lib.hid (show MkT W4 G1 (wi.alloc (.cells #[.int .i64 y, .int .i64 x] 78)).drew P (.slice va vl vc) (js.map mirJ) (.slice oa2 ol2 oc2) ((os.take k).map mirO) from hM2.out.keep (below_alloc1 wi _).drew)
              have hlit := Lib.hid ((lit_ord wi y x).below (Below.refl _ _).drew)
              refine wpAnyH_ready (rs := [1]) (by as_aux_lemma => kernel_rfl) (by simp) ?_
              refine AllReadyH.cons rfl (fun K hK => ?_) AllReadyH.nil
              have x2 : ((wi.alloc (.cells #[.int .i64 y, .int .i64 x] 78)).drew).cell? ⟨G1, 2, none⟩ = some (.slice oa2 ol2 oc2) := hMb.out.three.1.2.2
              go_simp
              refine hK.out _ _ hHeld (fun hHeld => ?_)
              clear hK K x2
              simp only [List.setIfInBounds_toArray, List.set_cons_zero, List.set_cons_succ]
              refine wpAnyH_ready (rs := [16]) (by as_aux_lemma => kernel_rfl) (by simp) ?_
              refine AllReadyH.cons rfl (fun K hK => ?_) AllReadyH.nil
              refine step_flat Try.underlying23 hiO hO0 hO1 hO2 rfl (by decide) (by decide) rfl (.tmp 83) (.tmp 97) rfl (own_drew (own_alloc hM2.out.o (.cells #[.int .i64 y, .int .i64 x] 78))) (by simp [Act.eval]) (by simp [Act.eval]) hlit.out (one_flatO _) (by rw [hlen.out]; omega) (by show _ ≤ (wi.alloc _).heap.size; rw [World.size_alloc]; exact Nat.le_succ_of_le hM2.out.size) ?_
              intro v' wk hown hbk hkp
              have hbk2 := (((Below.refl (G1 + 1) (wi.alloc (.cells #[.int .i64 y, .int .i64 x] 78))).drew).trans hbk)
              have hstep := Lib.hid (hM2.out.stepO hGj.out hbk2 (fun B2 e2 z2 u k zs h1 h2 => hkp B2 e2 z2 u k zs h1 (own_drew h2)) hown)
              obtain ⟨va', vl', vc', rfl, -⟩ := own_len hown
              have hzk := Lib.hid (hM2.out.three.keep (((Below.refl _ _).alloc hM2.out.size _).trans hbk2) (Nat.lt_succ_self _))
              refine hK.out _ _ (hHeld.trans (hbk.mono (Nat.le_succ _))) (fun hHeld => ?_)
              clear hK K hown hbk hbk2 hkp
              simp only [Act.put, List.setIfInBounds_toArray, List.set_cons_zero, List.set_cons_succ, List.getElem_toArray, List.getElem_cons_succ, List.getElem_cons_zero]
              refine wpAnyH_take (i := 17) (v := .pointer (some ⟨G1, 2, none⟩)) rfl (by as_aux_lemma => kernel_rfl) (by as_aux_lemma => kernel_rfl) (by as_aux_lemma => kernel_rfl) (fun _ _ _ h => h) (Or.inl ⟨by rfl, ?_⟩) hHeld ?_
              · intro w' hSw; go_simp
              simp only [Act.put, List.setIfInBounds_toArray, List.set_cons_zero, List.set_cons_succ, List.getElem_toArray, List.getElem_cons_succ, List.getElem_cons_zero]
              refine wpAnyH_ready (rs := [18]) (by as_aux_lemma => kernel_rfl) (by simp) ?_
              refine AllReadyH.cons rfl (fun K hK => ?_) AllReadyH.nil
              obtain ⟨⟨x0, x1, x2⟩, xf⟩ := hzk.out
              have xf2 := xf 2
              clear xf
              have hend : Below G1 wi (wk.setCell ⟨G1, 2, none⟩ (.slice va' vl' vc')) := below_set hHeld (Nat.le_refl _)
              go_simp
              refine hK.out _ _ hend (fun hHeld => ?_)
              clear hK K
              simp only [List.setIfInBounds_toArray, List.set_cons_zero, List.set_cons_succ]
              refine wpAnyH_done (by as_aux_lemma => kernel_rfl) ?_ _
              refine NoPanic.normal ?_
              go_wp2_with fail
              exact ⟨⟨k + 1, _, by omega, by go_num, by rw [hnext.out]; exact hstep⟩, by simp [intOf]; omega⟩
          · obtain rfl : k = ol := by omega
            rw [show os.take k = os from List.take_of_length_le (by rw [hol'.out]; exact Nat.le_refl _)] at hM
            clear hkn hk
            have hTt := Lib.hid hM.out.three
            have hTz := Lib.hid (show G1 < wi.heap.size from hM.out.size)
            have hbwi := Lib.hid hM.out.below
            have hv2 := Lib.hid (mir_valid hv'.out)
            have hV2 := Lib.hid (show Loose (mirSh P js os) from (valid_sh hv2.out).1.loose)
            have hl2 := Lib.hid (show i = (js.map mirJ).length by rw [List.length_map]; exact hjl'.out)
            have h7 := Lib.hid (show js.length ≤ 7 by rw [← hjl'.out]; omega)
            have h21 := Lib.hid (show os.length ≤ 21 by rw [← hol'.out]; omega)
            have h72 := Lib.hid (show (js.map mirJ).length ≤ 7 by rw [List.length_map]; exact h7.out)
            have h212 := Lib.hid (show (os.map mirO).length ≤ 21 by rw [List.length_map]; exact h21.out)
            have hshs := Lib.hid (fun (X : World) (hb : Below wi.heap.size wi X) => hsh.out X (below_call hM.out.below hb))
            have hsht := Lib.hid (fun (X : World) (hb : Below wi.heap.size wi X) => (show ShV X (.agg #[.int .i64 P, .slice va vl vc, .slice oa2 ol2 oc2]) P (js.map mirJ) (os.map mirO) from ⟨_, _, rfl, hM.out.j.reads.below hb, hM.out.o.reads.below hb⟩))
            have hkT := Lib.hid (fun (X : World) (hb : Below wi.heap.size wi X) => hT'.out.keep (below_call hM.out.below hb) hz'.out)
            have hkU := Lib.hid (fun (X : World) (hb : Below wi.heap.size wi X) => hM.out.three.keep hb hTz.out)
            obtain ⟨⟨y0, y1, y2⟩, -⟩ := hkT.out wi (Below.refl _ _)
            obtain ⟨⟨x0, x1, x2⟩, -⟩ := hkU.out wi (Below.refl _ _)
            obtain ⟨f1, t1, f2, t2, err, ho1, ho2⟩ : ∃ f1 t1 f2 t2 err, OverAns P js os f1 t1 err ∧ OverAns P (js.map mirJ) (os.map mirO) f2 t2 err := by
              rcases over_some P js with ⟨f, t, ho⟩ | ho
              · obtain ⟨f', t', ho'⟩ := mir_over.2 ⟨f, t, ho⟩
                exact ⟨f, t, f', t', 0, .inr ⟨hv'.out, .inr ⟨ho, rfl⟩⟩, .inr ⟨hv2.out, .inr ⟨ho', rfl⟩⟩⟩
              · rcases over_some P (js.map mirJ) with ⟨f, t, ho'⟩ | ho'
                · obtain ⟨f2, t2, h2⟩ := mir_over.1 ⟨f, t, ho'⟩
                  have := (over_only h2 ho).2.2; cases this
                · exact ⟨0, 0, 0, 0, 5, .inr ⟨hv'.out, .inl ⟨ho, rfl, rfl, rfl⟩⟩, .inr ⟨hv2.out, .inl ⟨ho', rfl, rfl, rfl⟩⟩⟩
            obtain ⟨F, hF0⟩ : ∃ F : Nat, F = a % 24 := ⟨_, rfl⟩
            obtain ⟨G, hG0⟩ : ∃ G : Nat, G = b % (24 - F) := ⟨_, rfl⟩
            have hF1 : F < 24 := by omega
            have hGl : G < 24 - F := by rw [hG0]; exact Nat.mod_lt _ (by omega)
            have e1 : (a : Int) % 24 = (F : Int) := by omega
            have e2 : (b : Int) % (24 - (F : Int)) = (G : Int) := by rw [hG0, show (24 : Int) - (F : Int) = ((24 - F : Nat) : Int) from by omega]; rfl
            obtain ⟨N, hN0⟩ : ∃ N, N = needS js (F : Int) ((F : Int) + 1 + (G : Int)) js.length := ⟨_, rfl⟩
            have hO1 := Lib.hid (fun (X : World) (hb : Below wi.heap.size wi X) => over26' (hshs.out X hb) h7.out h21.out ho1)
            have hO2 := Lib.hid (fun (X : World) (hb : Below wi.heap.size wi X) => over26' (hsht.out X hb) h72.out h212.out ho2)
            have hN1 := Lib.hid (fun (X : World) (hb : Below wi.heap.size wi X) => needs27 (hshs.out X hb) h7.out h21.out (F : Int) ((F : Int) + 1 + (G : Int)) (n := N) (err := 0) (.inr ⟨hv'.out, .inr ⟨intB_iff.2 (by omega), hN0, rfl⟩⟩))
            have hN2 := Lib.hid (fun (X : World) (hb : Below wi.heap.size wi X) => needs27 (hsht.out X hb) h72.out h212.out (24 - ((F : Int) + 1 + (G : Int))) (24 - (F : Int)) (n := N) (err := 0) (.inr ⟨hv2.out, .inr ⟨intB_iff.2 (by omega), by rw [List.length_map, mir_needs, hN0], rfl⟩⟩))
            clear hF0 hG0 ho1 ho2 hN0 hM
            by_cases hs : ∃ S, Sched (shOf P js os) S
            · as_aux_lemma =>
              have hs2 := (mir_some hV.out.1.loose).2 hs
              have hFi1 := Lib.hid (firstOk (hshs.out wi (Below.refl _ _)) hv'.out h7.out h21.out hs hjl'.out)
              have hFi2 := Lib.hid (fun (X : World) (hb : Below wi.heap.size wi X) => firstOk (hsht.out X hb) hv2.out h72.out h212.out hs2 hl2.out)
              clear hs hs2
              go_wp2_with (
                first
                | (go_at_call 21; refine (hFi1.out).mono ?_; rintro e wA ⟨fa, fc, ls0, rfl, -, -, -, hbwA⟩
                   have hbwA' := Lib.hid (hbwA)
                   obtain ⟨⟨y0, y1, y2⟩, -⟩ := hkT.out _ hbwA'.out
                   obtain ⟨⟨x0, x1, x2⟩, -⟩ := hkU.out _ hbwA'.out
                   have hFj := Lib.hid (hFi2.out _ hbwA'.out)
                   clear hbwA hFi1)
                | (go_at_call 21; refine (hFj.out).mono ?_; rintro e wB ⟨ga, gc, ls, rfl, hll, hrl, hFl, hbwB⟩
                   have hbwB' := Lib.hid (below_call hbwA'.out hbwB)
                   obtain ⟨⟨y0, y1, y2⟩, -⟩ := hkT.out _ hbwB'.out
                   obtain ⟨⟨x0, x1, x2⟩, -⟩ := hkU.out _ hbwB'.out
                   have hll' := Lib.hid hll; have hrl' := Lib.hid hrl; have hFl' := Lib.hid hFl; clear hll hrl hFl; have hcwB' := Lib.hid (Below.refl wB.heap.size wB); have hOj := Lib.hid (hO1.out _ hbwB'.out)
                   clear hbwB hFj)
                | (go_at_call 26; refine (hOj.out).mono ?_; rintro e wC ⟨rfl, hbwC⟩
                   have hbwC' := Lib.hid (below_call hbwB'.out hbwC)
                   obtain ⟨⟨y0, y1, y2⟩, -⟩ := hkT.out _ hbwC'.out
                   obtain ⟨⟨x0, x1, x2⟩, -⟩ := hkU.out _ hbwC'.out
                   have hOk := Lib.hid (hO2.out _ hbwC'.out)
                   have hcwC' := Lib.hid (below_call hcwB'.out hbwC)
                   clear hbwC hOj)
                | (go_at_call 26; refine (hOk.out).mono ?_; rintro e wD ⟨rfl, hbwD⟩
                   have hbwD' := Lib.hid (below_call hbwC'.out hbwD)
                   obtain ⟨⟨y0, y1, y2⟩, -⟩ := hkT.out _ hbwD'.out
                   obtain ⟨⟨x0, x1, x2⟩, -⟩ := hkU.out _ hbwD'.out
                   have hNj := Lib.hid (hN1.out _ hbwD'.out)
                   have hcwD' := Lib.hid (below_call hcwC'.out hbwD)
                   clear hbwD hOk)
                | (go_at_call 27; refine (hNj.out).mono ?_; rintro e wE ⟨rfl, hbwE⟩
                   have hbwE' := Lib.hid (below_call hbwD'.out hbwE)
                   obtain ⟨⟨y0, y1, y2⟩, -⟩ := hkT.out _ hbwE'.out
                   obtain ⟨⟨x0, x1, x2⟩, -⟩ := hkU.out _ hbwE'.out
                   have hNk := Lib.hid (hN2.out _ hbwE'.out)
                   have hcwE' := Lib.hid (below_call hcwD'.out hbwE)
                   clear hbwE hNj)
                | (go_at_call 27; refine (hNk.out).mono ?_; rintro e wF ⟨rfl, hbwF⟩
                   have hbwF' := Lib.hid (below_call hbwE'.out hbwF)
                   obtain ⟨⟨y0, y1, y2⟩, -⟩ := hkT.out _ hbwF'.out
                   obtain ⟨⟨x0, x1, x2⟩, -⟩ := hkU.out _ hbwF'.out
                   have hLv := Lib.hid (lives18 (w := wF))
                   have hcwF' := Lib.hid (below_call hcwE'.out hbwF)
                   clear hbwF hNk)
                | (go_at_call 18; refine (hLv.out).mono ?_; rintro e wG ⟨rfl, hbwG⟩
                   have hbwG' := Lib.hid (below_call hbwF'.out hbwG)
                   obtain ⟨⟨y0, y1, y2⟩, -⟩ := hkT.out _ hbwG'.out
                   obtain ⟨⟨x0, x1, x2⟩, -⟩ := hkU.out _ hbwG'.out
                   skip
                   have hcwG' := Lib.hid (below_call hcwF'.out hbwG)
                   clear hbwG hLv))
              have hlz := Lib.hid (show Ints ((wG.alloc (.cells #[] 3)).alloc (.cells #[] 3)) wG.heap.size (.slice (some ⟨wG.heap.size, 0, none⟩) 0 0) [] from (Ints.lit wG wG.heap.size (Nat.le_refl _)).below (below_alloc1 _ _))
              have hlm := Lib.hid (show Ints ((wG.alloc (.cells #[] 3)).alloc (.cells #[] 3)) wG.heap.size (.slice (some ⟨wG.heap.size + 1, 0, none⟩) 0 0) [] from by
                have h := Ints.lit (wG.alloc (.cells #[] 3)) wG.heap.size (by simp)
                rw [World.size_alloc] at h
                exact h)
              have hlb := Lib.hid (show Below wG.heap.size wG ((wG.alloc (.cells #[] 3)).alloc (.cells #[] 3)) from (below_alloc1 wG _).alloc (by simp) _)
              go_loopw [30, 31, 32] (fun zv mv iv wr => ∃ q : Nat, ∃ zs : List Int, q ≤ i ∧ iv = .int .i64 q ∧ zs.length = q ∧ Hid (Ints wr wG.heap.size zv zs) ∧ Hid (Ints wr wG.heap.size mv (mirL js zs)) ∧ Hid (Dis zv mv) ∧ Hid (Below wG.heap.size wG wr)) (fun _ _ iv _ => i - (intOf iv).toNat)
              case atStart =>
                exact ⟨0, [], Nat.zero_le _, rfl, rfl, hlz, hlm, Lib.hid (fun k h1 h2 => by simp [Value.ownBlock] at h1 h2; omega), hlb⟩
              case round =>
                clear hlz hlm hlb
                obtain ⟨q, zs, hq, rfl, hzl, hIz, hIm, hDs, hB⟩ := hrel
                obtain ⟨wq, rfl⟩ : ∃ X : World, X = wr := ⟨_, rfl⟩
                have hbq := Lib.hid (below_call hbwG'.out hB.out)
                have hbWq := Lib.hid (below_call (below_call hbW'.out hbwi.out) hbq.out)
                have hcq := Lib.hid (below_call hcwG'.out hB.out)
                obtain ⟨⟨y0, y1, y2⟩, -⟩ := hkT.out _ hbq.out
                obtain ⟨⟨x0, x1, x2⟩, -⟩ := hkU.out _ hbq.out
                obtain ⟨za, zn, zc, rfl, hzn⟩ := ints_slice hIz.out
                obtain ⟨ma, mn, mc, rfl, hmn⟩ := ints_slice hIm.out
                rw [hzl] at hzn
                rw [mirL_len, hzl] at hmn
                have hzn := hzn.symm
                have hmn := hmn.symm
                subst hzn
                subst hmn
                have hzl' := Lib.hid hzl
                clear hzl
                by_cases hqn : q < i
                · obtain ⟨g, rfl, hg4, d0, -, d2, -⟩ := (hrd.out W4 (Below.refl _ _)).1.at' hqn
                  have d0 := ((below_call hbwi.out hbq.out).cell (p := ⟨g, q * 4, none⟩) hg4).trans d0
                  have d2 := ((below_call hbwi.out hbq.out).cell (p := ⟨g, q * 4 + 2, none⟩) hg4).trans d2
                  have hjy := hV.out.1.loose.jobs q (by rw [show (shOf P js os).n = js.length from rfl, ← hjl'.out]; exact hqn)
                  have hls := hFl'.out.is.range q (by rw [show (shOf P (js.map mirJ) (os.map mirO)).n = (js.map mirJ).length from rfl, ← hl2.out]; exact hqn)
                  rw [show (shOf P (js.map mirJ) (os.map mirO)).job q = mirJ (js.getD q J0) from mir_getD js (by rw [← hjl'.out]; exact hqn)] at hls
                  rw [show (shOf P js os).job q = js.getD q J0 from rfl] at hjy
                  have hmir := Lib.hid (fun (v : Int) => (show mirL js (zs ++ [v]) = mirL js zs ++ [24 - v - (js.getD q J0).l] from by rw [mirL_app, hzl'.out]))
                  obtain ⟨⟨f, t, l, pp⟩, hjq⟩ : ∃ x, x = js.getD q J0 := ⟨_, rfl⟩
                  rw [← hjq] at d0 d2 hjy hls hmir
                  unfold lat mirJ at hls
                  simp only at d0 d2 hjy hls hmir
                  obtain ⟨gl, ol', rfl, hgl, hcl⟩ := (hrl'.out.below hcq.out).at hll'.out hqn
                  have c0 := hcl q hqn
                  obtain ⟨x, hx⟩ : ∃ x, x = ls.getD q 0 := ⟨_, rfl⟩
                  rw [← hx] at c0 hls
                  have hqn' : (q : Int) < (i : Int) := by omega
                  have s1 : IntKind.i64.wrap (24 - x) = 24 - x := IntWalk.i64_in _ (by omega)
                  have s2 : IntKind.i64.wrap (24 - x - l) = 24 - x - l := IntWalk.i64_in _ (by omega)
                  have hv1 : 0 ≤ 24 - x - l ∧ 24 - x - l ≤ 24 := by omega
                  clear hcl hx hjq
                  go_upto_region 29 with (go_quiet (fail))
                  obtain ⟨v1, hv1e⟩ : ∃ v1, v1 = 24 - x - l := ⟨_, rfl⟩
                  rw [← hv1e] at hv1 ⊢
                  obtain ⟨X1, hX1⟩ : ∃ X, X = wq.drewN nq := ⟨_, rfl⟩
                  have hqX := Lib.hid (show Below wq.heap.size wq X1 by rw [hX1]; exact below_drewN (Below.refl _ _) nq)
                  rw [← hX1]
                  clear hX1 hv1e s1 s2 c0
                  have hbX := Lib.hid (below_call hbq.out hqX.out)
                  have hbWX := Lib.hid (below_call hbWq.out hqX.out)
                  obtain ⟨d, hd⟩ : ∃ d : Bool, d = (decide (q < yn) && (ys.getD q 0 % 4 == 0)) := ⟨_, rfl⟩
                  go_cut [220] from 209 to 220 (fun t w1 => t = .bool d ∧ X1 = w1)
                  case first =>
                    by_cases hqy : q < yn
                    · obtain ⟨gu, ou, rfl, hgu, hcu⟩ := huat'.out (fun e => by have := hyn'.out; rw [e] at this; simp at this; omega)
                      have c1 := (hbWX.out.cell (p := ⟨gu, ou + q, none⟩) hgu).trans (hcu q hqy)
                      have hY255 := hub'.out q
                      obtain ⟨Y, hY⟩ : ∃ Y, Y = ys.getD q 0 := ⟨_, rfl⟩
                      rw [← hY] at c1 hY255 hd
                      have hqy' : (q : Int) < (yn : Int) := by omega
                      clear hcu hY
                      by_cases h4 : Y % 4 = 0
                      · have hd' : d = true := by rw [hd]; simp [hqy, h4]
                        have hb4 : ((Y : Int) % 4 == 0) = true := by simp; omega
                        subst hd'
                        clear hd
                        go_wp2_with fail
                        go_meet
                        exact ⟨rfl, rfl⟩
                      · have hd' : d = false := by rw [hd]; simp [hqy, h4]
                        have hb4 : ((Y : Int) % 4 == 0) = false := by simp; omega
                        subst hd'
                        clear hd
                        go_wp2_with fail
                        go_meet
                        exact ⟨rfl, rfl⟩
                    · have hd' : d = false := by rw [hd]; simp [hqy]
                      subst hd'
                      clear hd
                      have hqy' : (q : Int) < (yn : Int) → False := by omega
                      go_wp2_with fail
                      go_meet
                      exact ⟨rfl, rfl⟩
                  case rest =>
                    obtain ⟨rfl, rfl⟩ := hcut
                    go_upto_if 220 with fail
                    go_cut [33] from 221 to 227 (fun t w1 => ∃ v : Int, t = .int .i64 v ∧ (0 ≤ v ∧ v ≤ 24) ∧ X1 = w1)
                    case first =>
                      cases d with
                      | true =>
                        have hd2 := hd.symm
                        simp only [Bool.and_eq_true, decide_eq_true_eq] at hd2
                        obtain ⟨hqy, -⟩ := hd2
                        obtain ⟨gu, ou, rfl, hgu, hcu⟩ := huat'.out (fun e => by have := hyn'.out; rw [e] at this; simp at this; omega)
                        have c1 := (hbWX.out.cell (p := ⟨gu, ou + q, none⟩) hgu).trans (hcu q hqy)
                        have hY255 := hub'.out q
                        obtain ⟨Y, hY⟩ : ∃ Y, Y = ys.getD q 0 := ⟨_, rfl⟩
                        rw [← hY] at c1 hY255
                        have hqy' : (q : Int) < (yn : Int) := by omega
                        clear hcu hY hd
                        go_wp2_with fail
                        go_meet
                        exact ⟨_, rfl, by omega, rfl⟩
                      | false =>
                        clear hd
                        go_wp2_with fail
                        go_meet
                        exact ⟨_, rfl, hv1, rfl⟩
                    case rest =>
                      obtain ⟨v, rfl, hv, rfl⟩ := hcut
                      obtain ⟨hvA, hvB⟩ := hv
                      have s3 : IntKind.i64.wrap (24 - v) = 24 - v := IntWalk.i64_in _ (by omega)
                      have s4 : IntKind.i64.wrap (24 - v - l) = 24 - v - l := IntWalk.i64_in _ (by omega)
                      have hGq : G0 < wG.heap.size := Nat.lt_of_lt_of_le hz'.out (Nat.le_trans hbwi.out.size hbwG'.out.size)
                      have hgq : g < wG.heap.size := Nat.lt_of_lt_of_le hg4 (Nat.le_trans hbwi.out.size hbwG'.out.size)
                      have hsX : wG.heap.size ≤ X1.heap.size := Nat.le_trans hB.out.size hqX.out.size
                      have y1 := (hqX.out.cell (p := ⟨G0, 1, none⟩) (Nat.lt_of_lt_of_le hGq hB.out.size)).trans y1
                      have d2 := (hqX.out.cell (p := ⟨g, q * 4 + 2, none⟩) (Nat.lt_of_lt_of_le hgq hB.out.size)).trans d2
                      have hst0 : St X1 X1 wG.heap.size [(.slice za q zc, zs), (.slice ma q mc, mirL js zs)] [] := St.start (st_two (hIz.out.below hqX.out) (hIm.out.below hqX.out)) (st_dis hDs.out) hsX
                      have hlz := Lib.hid (show zs.length ≤ 1000000 by rw [hzl'.out]; omega)
                      have hlm := Lib.hid (show (mirL js zs).length ≤ 1000000 by rw [mirL_len, hzl'.out]; omega)
                      have hbXX := Lib.hid (hB.out.trans (hqX.out.mono hB.out.size))
                      obtain ⟨B, hBq⟩ : ∃ B, B = wG.heap.size := ⟨_, rfl⟩
                      rw [← hBq] at hGq hgq hsX hst0
                      have hBq' := Lib.hid hBq
                      clear hBq
                      go_upto_region 31 with fail
                      refine wp_region_noPanic ?_
                      refine wp_region_any (by as_aux_lemma => kernel_rfl) (wpAny_of_held (S := fun w' => Below B X1 w') _ _ _ _ ?_)
                      have hHeld : Below B X1 X1.drew := (Below.refl _ _).drew
                      change wpAnyH _ _ _ _ _ _ _ _ X1.drew
                      simp only [List.size_toArray, List.length_cons, List.length_nil, Nat.reduceAdd, Array.replicate_succ, Array.replicate_zero, List.push_toArray, List.nil_append, List.cons_append]
                      refine wpAnyH_take (i := 0) (v := .slice za q zc) rfl (by as_aux_lemma => kernel_rfl) (by as_aux_lemma => kernel_rfl) (by as_aux_lemma => kernel_rfl) (fun _ _ _ h => h) (Or.inl ⟨by rfl, ?_⟩) hHeld ?_
                      · intro w' hSw; go_simp
                      simp only [Act.put, List.setIfInBounds_toArray, List.set_cons_zero, List.set_cons_succ, List.getElem_toArray, List.getElem_cons_zero]
                      refine wpAnyH_take (i := 1) (v := .int .i64 v) rfl (by as_aux_lemma => kernel_rfl) (by as_aux_lemma => kernel_rfl) (by as_aux_lemma => kernel_rfl) (fun _ _ _ h => h) (Or.inl ⟨by rfl, ?_⟩) hHeld ?_
                      · intro w' hSw; go_simp
                      simp only [Act.put, List.setIfInBounds_toArray, List.set_cons_zero, List.set_cons_succ, List.getElem_toArray, List.getElem_cons_succ, List.getElem_cons_zero]
                      refine wpAnyH_take (i := 4) (v := .slice ma q mc) rfl (by as_aux_lemma => kernel_rfl) (by as_aux_lemma => kernel_rfl) (by as_aux_lemma => kernel_rfl) (fun _ _ _ h => h) (Or.inl ⟨by rfl, ?_⟩) hHeld ?_
                      · intro w' hSw; go_simp
                      simp only [Act.put, List.setIfInBounds_toArray, List.set_cons_zero, List.set_cons_succ, List.getElem_toArray, List.getElem_cons_succ, List.getElem_cons_zero]
                      refine wpAnyH_take (i := 5) (v := .int .i64 v) rfl (by as_aux_lemma => kernel_rfl) (by as_aux_lemma => kernel_rfl) (by as_aux_lemma => kernel_rfl) (fun _ _ _ h => h) (Or.inl ⟨by rfl, ?_⟩) hHeld ?_
                      · intro w' hSw; go_simp
                      simp only [Act.put, List.setIfInBounds_toArray, List.set_cons_zero, List.set_cons_succ, List.getElem_toArray, List.getElem_cons_succ, List.getElem_cons_zero]
                      refine wpAnyH_take (i := 6) (v := .int .i64 (24 - v)) rfl (by as_aux_lemma => kernel_rfl) (by as_aux_lemma => kernel_rfl) (by as_aux_lemma => kernel_rfl) (fun _ _ _ h => h) (Or.inl ⟨by rfl, ?_⟩) hHeld ?_
                      · intro w' hSw; go_simp
                      simp only [Act.put, List.setIfInBounds_toArray, List.set_cons_zero, List.set_cons_succ, List.getElem_toArray, List.getElem_cons_succ, List.getElem_cons_zero]
                      refine wpAnyH_take (i := 7) (v := .pointer (some ⟨G0, 1, none⟩)) rfl (by as_aux_lemma => kernel_rfl) (by as_aux_lemma => kernel_rfl) (by as_aux_lemma => kernel_rfl) (fun _ _ _ h => h) (Or.inl ⟨by rfl, ?_⟩) hHeld ?_
                      · intro w' hSw; go_simp
                      simp only [Act.put, List.setIfInBounds_toArray, List.set_cons_zero, List.set_cons_succ, List.getElem_toArray, List.getElem_cons_succ, List.getElem_cons_zero]
                      refine wpAnyH_take (i := 8) (v := .slice (some ⟨g, 0, none⟩) i jc) rfl (by as_aux_lemma => kernel_rfl) (by as_aux_lemma => kernel_rfl) (by as_aux_lemma => kernel_rfl) (fun _ _ _ h => h) (Or.inl ⟨by rfl, ?_⟩) hHeld ?_
                      · intro w' hSw; have a0 := (hSw.cell (p := ⟨G0, 1, none⟩) hGq).trans y1; go_simp
                      simp only [Act.put, List.setIfInBounds_toArray, List.set_cons_zero, List.set_cons_succ, List.getElem_toArray, List.getElem_cons_succ, List.getElem_cons_zero]
                      refine wpAnyH_take (i := 9) (v := .int .i64 q) rfl (by as_aux_lemma => kernel_rfl) (by as_aux_lemma => kernel_rfl) (by as_aux_lemma => kernel_rfl) (fun _ _ _ h => h) (Or.inl ⟨by rfl, ?_⟩) hHeld ?_
                      · intro w' hSw; go_simp
                      simp only [Act.put, List.setIfInBounds_toArray, List.set_cons_zero, List.set_cons_succ, List.getElem_toArray, List.getElem_cons_succ, List.getElem_cons_zero]
                      refine wpAnyH_take (i := 10) (v := .pointer (some ⟨g, q * 4, none⟩)) rfl (by as_aux_lemma => kernel_rfl) (by as_aux_lemma => kernel_rfl) (by as_aux_lemma => kernel_rfl) (fun _ _ _ h => h) (Or.inl ⟨by rfl, ?_⟩) hHeld ?_
                      · intro w' hSw; go_simp
                      simp only [Act.put, List.setIfInBounds_toArray, List.set_cons_zero, List.set_cons_succ, List.getElem_toArray, List.getElem_cons_succ, List.getElem_cons_zero]
                      refine wpAnyH_take (i := 11) (v := .pointer (some ⟨g, q * 4 + 2, none⟩)) rfl (by as_aux_lemma => kernel_rfl) (by as_aux_lemma => kernel_rfl) (by as_aux_lemma => kernel_rfl) (fun _ _ _ h => h) (Or.inl ⟨by rfl, ?_⟩) hHeld ?_
                      · intro w' hSw; go_simp
                      simp only [Act.put, List.setIfInBounds_toArray, List.set_cons_zero, List.set_cons_succ, List.getElem_toArray, List.getElem_cons_succ, List.getElem_cons_zero]
                      refine wpAnyH_take (i := 12) (v := .int .i64 l) rfl (by as_aux_lemma => kernel_rfl) (by as_aux_lemma => kernel_rfl) (by as_aux_lemma => kernel_rfl) (fun _ _ _ h => h) (Or.inl ⟨by rfl, ?_⟩) hHeld ?_
                      · intro w' hSw; have a1 := (hSw.cell (p := ⟨g, q * 4 + 2, none⟩) hgq).trans d2; go_simp
                      simp only [Act.put, List.setIfInBounds_toArray, List.set_cons_zero, List.set_cons_succ, List.getElem_toArray, List.getElem_cons_succ, List.getElem_cons_zero]
                      refine wpAnyH_take (i := 13) (v := .int .i64 (24 - v - l)) rfl (by as_aux_lemma => kernel_rfl) (by as_aux_lemma => kernel_rfl) (by as_aux_lemma => kernel_rfl) (fun _ _ _ h => h) (Or.inl ⟨by rfl, ?_⟩) hHeld ?_
                      · intro w' hSw; go_simp
                      simp only [Act.put, List.setIfInBounds_toArray, List.set_cons_zero, List.set_cons_succ, List.getElem_toArray, List.getElem_cons_succ, List.getElem_cons_zero]
                      refine wpAnyH_ready (rs := [2, 14]) (by as_aux_lemma => kernel_rfl) (by simp) ?_
                      refine AllReadyH.cons rfl (fun K hK => ?_) (AllReadyH.cons rfl (fun K hK => ?_) AllReadyH.nil)
                      · have hst1 := (hst0.alloc v).drew
                        have hal := hst1.below
                        go_simp
                        refine hK.out _ _ hal (fun hHeld => ?_)
                        clear hK K hal
                        simp only [List.setIfInBounds_toArray, List.set_cons_zero, List.set_cons_succ]
                        change wpAnyH _ _ _ _ _ _ _ _ (X1.alloc (.cells #[.int .i64 v] 3)).drew
                        change Below B X1 (X1.alloc (.cells #[.int .i64 v] 3)).drew at hHeld
                        obtain ⟨wn1, hqn1⟩ : ∃ x, x = (X1.alloc (.cells #[.int .i64 v] 3)).drew := ⟨_, rfl⟩
                        rw [← hqn1] at hst1 hHeld ⊢
                        clear hqn1
                        obtain ⟨gn1, hgn1⟩ : ∃ x, x = X1.heap.size := ⟨_, rfl⟩
                        rw [← hgn1] at hst1 ⊢
                        clear hgn1
                        refine wpAnyH_ready (rs := [3, 14]) (by as_aux_lemma => kernel_rfl) (by simp) ?_
                        refine AllReadyH.cons rfl (fun K hK => ?_) (AllReadyH.cons rfl (fun K hK => ?_) AllReadyH.nil)
                        · refine step_app_st 0 (y := v) rfl (.tmp 228) (.tmp 230) rfl rfl hst1 (by rfl) (by rfl) (by rfl) (by simp) hlz.out ?_
                          intro v2 wn2 hst2
                          refine hK.out _ _ hst2.below (fun hHeld => ?_)
                          clear hK K
                          simp only [Act.put, List.setIfInBounds_toArray, List.set_cons_zero, List.set_cons_succ, List.getElem_toArray, List.getElem_cons_succ, List.getElem_cons_zero]
                          refine wpAnyH_ready (rs := [14]) (by as_aux_lemma => kernel_rfl) (by simp) ?_
                          refine AllReadyH.cons rfl (fun K hK => ?_) AllReadyH.nil
                          have hst3 := (hst2.alloc (24 - v - l))
                          have hal := hst3.below
                          go_simp
                          refine hK.out _ _ hal (fun hHeld => ?_)
                          clear hK K hal
                          simp only [List.setIfInBounds_toArray, List.set_cons_zero, List.set_cons_succ]
                          change wpAnyH _ _ _ _ _ _ _ _ (wn2.alloc (.cells #[.int .i64 (24 - v - l)] 3))
                          change Below B X1 (wn2.alloc (.cells #[.int .i64 (24 - v - l)] 3)) at hHeld
                          obtain ⟨wn3, hqn3⟩ : ∃ x, x = (wn2.alloc (.cells #[.int .i64 (24 - v - l)] 3)) := ⟨_, rfl⟩
                          rw [← hqn3] at hst3 hHeld ⊢
                          clear hqn3
                          obtain ⟨gn3, hgn3⟩ : ∃ x, x = wn2.heap.size := ⟨_, rfl⟩
                          rw [← hgn3] at hst3 ⊢
                          clear hgn3
                          refine wpAnyH_ready (rs := [15]) (by as_aux_lemma => kernel_rfl) (by simp) ?_
                          refine AllReadyH.cons rfl (fun K hK => ?_) AllReadyH.nil
                          refine step_app_st 1 (y := 24 - v - l) rfl (.tmp 232) (.tmp 242) rfl rfl hst3 (by rfl) (by rfl) (by rfl) (by simp) hlm.out ?_
                          intro v4 wn4 hst4
                          refine hK.out _ _ hst4.below (fun hHeld => ?_)
                          clear hK K
                          simp only [Act.put, List.setIfInBounds_toArray, List.set_cons_zero, List.set_cons_succ, List.getElem_toArray, List.getElem_cons_succ, List.getElem_cons_zero]
                          have f1 := Lib.hid (hst4.ints 0 rfl)
                          have f2 := Lib.hid (hst4.ints 1 rfl)
                          have f3 := Lib.hid (hst4.dis 0 1 (by omega) rfl rfl)
                          have hbe := Lib.hid (hst4.below)
                          refine wpAnyH_take (i := 16) (v := v2) rfl (by as_aux_lemma => kernel_rfl) (by as_aux_lemma => kernel_rfl) (by as_aux_lemma => kernel_rfl) (fun _ _ _ h => h) (Or.inl ⟨by rfl, ?_⟩) hHeld ?_
                          · intro w' hSw; go_simp
                          simp only [Act.put, List.setIfInBounds_toArray, List.set_cons_zero, List.set_cons_succ, List.getElem_toArray, List.getElem_cons_succ, List.getElem_cons_zero]
                          refine wpAnyH_take (i := 17) (v := v4) rfl (by as_aux_lemma => kernel_rfl) (by as_aux_lemma => kernel_rfl) (by as_aux_lemma => kernel_rfl) (fun _ _ _ h => h) (Or.inl ⟨by rfl, ?_⟩) hHeld ?_
                          · intro w' hSw; go_simp
                          simp only [Act.put, List.setIfInBounds_toArray, List.set_cons_zero, List.set_cons_succ, List.getElem_toArray, List.getElem_cons_succ, List.getElem_cons_zero]
                          refine wpAnyH_done (by as_aux_lemma => kernel_rfl) ?_ _
                          refine NoPanic.normal ?_
                          go_wp2_with fail
                          rw [hBq'.out] at f1 f2 hbe
                          exact ⟨⟨q + 1, zs ++ [v], by omega, by go_num, by rw [List.length_append, hzl'.out]; rfl, f1, by rw [hmir.out]; exact f2, f3, Lib.hid (hbXX.out.trans hbe.out)⟩, by simp [intOf]; omega⟩
                        · have hst5 := (hst1.alloc (24 - v - l))
                          have hal := hst5.below
                          go_simp
                          refine hK.out _ _ hal (fun hHeld => ?_)
                          clear hK K hal
                          simp only [List.setIfInBounds_toArray, List.set_cons_zero, List.set_cons_succ]
                          change wpAnyH _ _ _ _ _ _ _ _ (wn1.alloc (.cells #[.int .i64 (24 - v - l)] 3))
                          change Below B X1 (wn1.alloc (.cells #[.int .i64 (24 - v - l)] 3)) at hHeld
                          obtain ⟨wn5, hqn5⟩ : ∃ x, x = (wn1.alloc (.cells #[.int .i64 (24 - v - l)] 3)) := ⟨_, rfl⟩
                          rw [← hqn5] at hst5 hHeld ⊢
                          clear hqn5
                          obtain ⟨gn5, hgn5⟩ : ∃ x, x = wn1.heap.size := ⟨_, rfl⟩
                          rw [← hgn5] at hst5 ⊢
                          clear hgn5
                          refine wpAnyH_ready (rs := [3]) (by as_aux_lemma => kernel_rfl) (by simp) ?_
                          refine AllReadyH.cons rfl (fun K hK => ?_) AllReadyH.nil
                          refine step_app_st 0 (y := v) rfl (.tmp 228) (.tmp 230) rfl rfl hst5 (by rfl) (by rfl) (by rfl) (by simp) hlz.out ?_
                          intro v6 wn6 hst6
                          refine hK.out _ _ hst6.below (fun hHeld => ?_)
                          clear hK K
                          simp only [Act.put, List.setIfInBounds_toArray, List.set_cons_zero, List.set_cons_succ, List.getElem_toArray, List.getElem_cons_succ, List.getElem_cons_zero]
                          refine wpAnyH_ready (rs := [15]) (by as_aux_lemma => kernel_rfl) (by simp) ?_
                          refine AllReadyH.cons rfl (fun K hK => ?_) AllReadyH.nil
                          refine step_app_st 1 (y := 24 - v - l) rfl (.tmp 232) (.tmp 242) rfl rfl hst6 (by rfl) (by rfl) (by rfl) (by simp) hlm.out ?_
                          intro v7 wn7 hst7
                          refine hK.out _ _ hst7.below (fun hHeld => ?_)
                          clear hK K
                          simp only [Act.put, List.setIfInBounds_toArray, List.set_cons_zero, List.set_cons_succ, List.getElem_toArray, List.getElem_cons_succ, List.getElem_cons_zero]
                          have f1 := Lib.hid (hst7.ints 0 rfl)
                          have f2 := Lib.hid (hst7.ints 1 rfl)
                          have f3 := Lib.hid (hst7.dis 0 1 (by omega) rfl rfl)
                          have hbe := Lib.hid (hst7.below)
                          refine wpAnyH_take (i := 16) (v := v6) rfl (by as_aux_lemma => kernel_rfl) (by as_aux_lemma => kernel_rfl) (by as_aux_lemma => kernel_rfl) (fun _ _ _ h => h) (Or.inl ⟨by rfl, ?_⟩) hHeld ?_
                          · intro w' hSw; go_simp
                          simp only [Act.put, List.setIfInBounds_toArray, List.set_cons_zero, List.set_cons_succ, List.getElem_toArray, List.getElem_cons_succ, List.getElem_cons_zero]
                          refine wpAnyH_take (i := 17) (v := v7) rfl (by as_aux_lemma => kernel_rfl) (by as_aux_lemma => kernel_rfl) (by as_aux_lemma => kernel_rfl) (fun _ _ _ h => h) (Or.inl ⟨by rfl, ?_⟩) hHeld ?_
                          · intro w' hSw; go_simp
                          simp only [Act.put, List.setIfInBounds_toArray, List.set_cons_zero, List.set_cons_succ, List.getElem_toArray, List.getElem_cons_succ, List.getElem_cons_zero]
                          refine wpAnyH_done (by as_aux_lemma => kernel_rfl) ?_ _
                          refine NoPanic.normal ?_
                          go_wp2_with fail
                          rw [hBq'.out] at f1 f2 hbe
                          exact ⟨⟨q + 1, zs ++ [v], by omega, by go_num, by rw [List.length_append, hzl'.out]; rfl, f1, by rw [hmir.out]; exact f2, f3, Lib.hid (hbXX.out.trans hbe.out)⟩, by simp [intOf]; omega⟩
                      · have hst8 := (hst0.alloc (24 - v - l)).drew
                        have hal := hst8.below
                        go_simp
                        refine hK.out _ _ hal (fun hHeld => ?_)
                        clear hK K hal
                        simp only [List.setIfInBounds_toArray, List.set_cons_zero, List.set_cons_succ]
                        change wpAnyH _ _ _ _ _ _ _ _ (X1.alloc (.cells #[.int .i64 (24 - v - l)] 3)).drew
                        change Below B X1 (X1.alloc (.cells #[.int .i64 (24 - v - l)] 3)).drew at hHeld
                        obtain ⟨wn8, hqn8⟩ : ∃ x, x = (X1.alloc (.cells #[.int .i64 (24 - v - l)] 3)).drew := ⟨_, rfl⟩
                        rw [← hqn8] at hst8 hHeld ⊢
                        clear hqn8
                        obtain ⟨gn8, hgn8⟩ : ∃ x, x = X1.heap.size := ⟨_, rfl⟩
                        rw [← hgn8] at hst8 ⊢
                        clear hgn8
                        refine wpAnyH_ready (rs := [2]) (by as_aux_lemma => kernel_rfl) (by simp) ?_
                        refine AllReadyH.cons rfl (fun K hK => ?_) AllReadyH.nil
                        have hst9 := (hst8.alloc v)
                        have hal := hst9.below
                        go_simp
                        refine hK.out _ _ hal (fun hHeld => ?_)
                        clear hK K hal
                        simp only [List.setIfInBounds_toArray, List.set_cons_zero, List.set_cons_succ]
                        change wpAnyH _ _ _ _ _ _ _ _ (wn8.alloc (.cells #[.int .i64 v] 3))
                        change Below B X1 (wn8.alloc (.cells #[.int .i64 v] 3)) at hHeld
                        obtain ⟨wn9, hqn9⟩ : ∃ x, x = (wn8.alloc (.cells #[.int .i64 v] 3)) := ⟨_, rfl⟩
                        rw [← hqn9] at hst9 hHeld ⊢
                        clear hqn9
                        obtain ⟨gn9, hgn9⟩ : ∃ x, x = wn8.heap.size := ⟨_, rfl⟩
                        rw [← hgn9] at hst9 ⊢
                        clear hgn9
                        refine wpAnyH_ready (rs := [3]) (by as_aux_lemma => kernel_rfl) (by simp) ?_
                        refine AllReadyH.cons rfl (fun K hK => ?_) AllReadyH.nil
                        refine step_app_st 0 (y := v) rfl (.tmp 228) (.tmp 230) rfl rfl hst9 (by rfl) (by rfl) (by rfl) (by simp) hlz.out ?_
                        intro v10 wn10 hst10
                        refine hK.out _ _ hst10.below (fun hHeld => ?_)
                        clear hK K
                        simp only [Act.put, List.setIfInBounds_toArray, List.set_cons_zero, List.set_cons_succ, List.getElem_toArray, List.getElem_cons_succ, List.getElem_cons_zero]
                        refine wpAnyH_ready (rs := [15]) (by as_aux_lemma => kernel_rfl) (by simp) ?_
                        refine AllReadyH.cons rfl (fun K hK => ?_) AllReadyH.nil
                        refine step_app_st 1 (y := 24 - v - l) rfl (.tmp 232) (.tmp 242) rfl rfl hst10 (by rfl) (by rfl) (by rfl) (by simp) hlm.out ?_
                        intro v11 wn11 hst11
                        refine hK.out _ _ hst11.below (fun hHeld => ?_)
                        clear hK K
                        simp only [Act.put, List.setIfInBounds_toArray, List.set_cons_zero, List.set_cons_succ, List.getElem_toArray, List.getElem_cons_succ, List.getElem_cons_zero]
                        have f1 := Lib.hid (hst11.ints 0 rfl)
                        have f2 := Lib.hid (hst11.ints 1 rfl)
                        have f3 := Lib.hid (hst11.dis 0 1 (by omega) rfl rfl)
                        have hbe := Lib.hid (hst11.below)
                        refine wpAnyH_take (i := 16) (v := v10) rfl (by as_aux_lemma => kernel_rfl) (by as_aux_lemma => kernel_rfl) (by as_aux_lemma => kernel_rfl) (fun _ _ _ h => h) (Or.inl ⟨by rfl, ?_⟩) hHeld ?_
                        · intro w' hSw; go_simp
                        simp only [Act.put, List.setIfInBounds_toArray, List.set_cons_zero, List.set_cons_succ, List.getElem_toArray, List.getElem_cons_succ, List.getElem_cons_zero]
                        refine wpAnyH_take (i := 17) (v := v11) rfl (by as_aux_lemma => kernel_rfl) (by as_aux_lemma => kernel_rfl) (by as_aux_lemma => kernel_rfl) (fun _ _ _ h => h) (Or.inl ⟨by rfl, ?_⟩) hHeld ?_
                        · intro w' hSw; go_simp
                        simp only [Act.put, List.setIfInBounds_toArray, List.set_cons_zero, List.set_cons_succ, List.getElem_toArray, List.getElem_cons_succ, List.getElem_cons_zero]
                        refine wpAnyH_done (by as_aux_lemma => kernel_rfl) ?_ _
                        refine NoPanic.normal ?_
                        go_wp2_with fail
                        rw [hBq'.out] at f1 f2 hbe
                        exact ⟨⟨q + 1, zs ++ [v], by omega, by go_num, by rw [List.length_append, hzl'.out]; rfl, f1, by rw [hmir.out]; exact f2, f3, Lib.hid (hbXX.out.trans hbe.out)⟩, by simp [intOf]; omega⟩
                · obtain rfl : q = i := by omega
                  obtain ⟨dd, hdd⟩ : ∃ d : Bool, d = true ↔ Sched (shOf P js os) fun k => zs.getD k 0 := by classical exact ⟨decide (Sched (shOf P js os) fun k => zs.getD k 0), by simp⟩
                  have hzn := Lib.hid (show zs.length = js.length from hzl'.out.trans hjl'.out)
                  have hFa := Lib.hid (fun (X : World) (hb : Below wq.heap.size wq X) => fitsOk' (hshs.out X (below_call hbq.out hb)) h7.out h21.out ((hIz.out.below hb).shape) (by rw [hzl'.out]; omega) hv'.out hzn.out hdd)
                  have hFb := Lib.hid (fun (X : World) (hb : Below wq.heap.size wq X) => fitsOk' (hsht.out X (below_call hbq.out hb)) h72.out h212.out ((hIm.out.below hb).shape) (by rw [mirL_len, hzl'.out]; omega) hv2.out (by rw [mirL_len, List.length_map]; exact hzn.out) (hdd.trans (mirL_sched hV.out.1.loose hV2.out hzn.out).symm))
                  have hFa0 := Lib.hid (hFa.out wq (Below.refl _ _))
                  clear hdd
                  go_wp2_with (
                    first
                    | (go_at_call 16; refine (hFa0.out).mono ?_; rintro e wY ⟨rfl, hbY⟩
                       have hbY' := Lib.hid hbY
                       obtain ⟨⟨x0, x1, x2⟩, -⟩ := hkU.out _ (below_call hbq.out hbY)
                       have hFb0 := Lib.hid (hFb.out wY hbY)
                       clear hbY hFa0)
                    | (go_at_call 16; refine (hFb0.out).mono ?_; rintro e wZ ⟨rfl, hbZ⟩
                       have hbZ' := Lib.hid (below_call hbY'.out hbZ)
                       clear hbZ hFb0))
                  go_ret
                  exact ⟨by simp, below_call (below_call (below_call hbW'.out hbwi.out) hbq.out) hbZ'.out⟩
            · as_aux_lemma =>
              have hs2 := fun h => hs ((mir_some hV.out.1.loose).1 h)
              have hFi1 := Lib.hid (firstNo (hshs.out wi (Below.refl _ _)) hv'.out h7.out h21.out hs)
              have hFi2 := Lib.hid (fun (X : World) (hb : Below wi.heap.size wi X) => firstNo (hsht.out X hb) hv2.out h72.out h212.out hs2)
              clear hs hs2
              go_wp2_with (
                first
                | (go_at_call 21; refine (hFi1.out).mono ?_; rintro e wA ⟨fa, fc, rfl, hbwA⟩
                   have hbwA' := Lib.hid (hbwA)
                   obtain ⟨⟨y0, y1, y2⟩, -⟩ := hkT.out _ hbwA'.out
                   obtain ⟨⟨x0, x1, x2⟩, -⟩ := hkU.out _ hbwA'.out
                   have hFj := Lib.hid (hFi2.out _ hbwA'.out)
                   clear hbwA hFi1)
                | (go_at_call 21; refine (hFj.out).mono ?_; rintro e wB ⟨ga, gc, rfl, hbwB⟩
                   have hbwB' := Lib.hid (below_call hbwA'.out hbwB)
                   obtain ⟨⟨y0, y1, y2⟩, -⟩ := hkT.out _ hbwB'.out
                   obtain ⟨⟨x0, x1, x2⟩, -⟩ := hkU.out _ hbwB'.out
                   have hcwB' := Lib.hid (Below.refl wB.heap.size wB); have hOj := Lib.hid (hO1.out _ hbwB'.out)
                   clear hbwB hFj)
                | (go_at_call 26; refine (hOj.out).mono ?_; rintro e wC ⟨rfl, hbwC⟩
                   have hbwC' := Lib.hid (below_call hbwB'.out hbwC)
                   obtain ⟨⟨y0, y1, y2⟩, -⟩ := hkT.out _ hbwC'.out
                   obtain ⟨⟨x0, x1, x2⟩, -⟩ := hkU.out _ hbwC'.out
                   have hOk := Lib.hid (hO2.out _ hbwC'.out)
                   have hcwC' := Lib.hid (below_call hcwB'.out hbwC)
                   clear hbwC hOj)
                | (go_at_call 26; refine (hOk.out).mono ?_; rintro e wD ⟨rfl, hbwD⟩
                   have hbwD' := Lib.hid (below_call hbwC'.out hbwD)
                   obtain ⟨⟨y0, y1, y2⟩, -⟩ := hkT.out _ hbwD'.out
                   obtain ⟨⟨x0, x1, x2⟩, -⟩ := hkU.out _ hbwD'.out
                   have hNj := Lib.hid (hN1.out _ hbwD'.out)
                   have hcwD' := Lib.hid (below_call hcwC'.out hbwD)
                   clear hbwD hOk)
                | (go_at_call 27; refine (hNj.out).mono ?_; rintro e wE ⟨rfl, hbwE⟩
                   have hbwE' := Lib.hid (below_call hbwD'.out hbwE)
                   obtain ⟨⟨y0, y1, y2⟩, -⟩ := hkT.out _ hbwE'.out
                   obtain ⟨⟨x0, x1, x2⟩, -⟩ := hkU.out _ hbwE'.out
                   have hNk := Lib.hid (hN2.out _ hbwE'.out)
                   have hcwE' := Lib.hid (below_call hcwD'.out hbwE)
                   clear hbwE hNj)
                | (go_at_call 27; refine (hNk.out).mono ?_; rintro e wF ⟨rfl, hbwF⟩
                   have hbwF' := Lib.hid (below_call hbwE'.out hbwF)
                   obtain ⟨⟨y0, y1, y2⟩, -⟩ := hkT.out _ hbwF'.out
                   obtain ⟨⟨x0, x1, x2⟩, -⟩ := hkU.out _ hbwF'.out
                   have hLv := Lib.hid (lives18 (w := wF))
                   have hcwF' := Lib.hid (below_call hcwE'.out hbwF)
                   clear hbwF hNk)
                | (go_at_call 18; refine (hLv.out).mono ?_; rintro e wG ⟨rfl, hbwG⟩
                   have hbwG' := Lib.hid (below_call hbwF'.out hbwG)
                   obtain ⟨⟨y0, y1, y2⟩, -⟩ := hkT.out _ hbwG'.out
                   obtain ⟨⟨x0, x1, x2⟩, -⟩ := hkU.out _ hbwG'.out
                   skip
                   have hcwG' := Lib.hid (below_call hcwF'.out hbwG)
                   clear hbwG hLv))
              have hlz := Lib.hid (show Ints ((wG.alloc (.cells #[] 3)).alloc (.cells #[] 3)) wG.heap.size (.slice (some ⟨wG.heap.size, 0, none⟩) 0 0) [] from (Ints.lit wG wG.heap.size (Nat.le_refl _)).below (below_alloc1 _ _))
              have hlm := Lib.hid (show Ints ((wG.alloc (.cells #[] 3)).alloc (.cells #[] 3)) wG.heap.size (.slice (some ⟨wG.heap.size + 1, 0, none⟩) 0 0) [] from by
                have h := Ints.lit (wG.alloc (.cells #[] 3)) wG.heap.size (by simp)
                rw [World.size_alloc] at h
                exact h)
              have hlb := Lib.hid (show Below wG.heap.size wG ((wG.alloc (.cells #[] 3)).alloc (.cells #[] 3)) from (below_alloc1 wG _).alloc (by simp) _)
              go_loopw [30, 31, 32] (fun zv mv iv wr => ∃ q : Nat, ∃ zs : List Int, q ≤ i ∧ iv = .int .i64 q ∧ zs.length = q ∧ Hid (Ints wr wG.heap.size zv zs) ∧ Hid (Ints wr wG.heap.size mv (mirL js zs)) ∧ Hid (Dis zv mv) ∧ Hid (Below wG.heap.size wG wr)) (fun _ _ iv _ => i - (intOf iv).toNat)
              case atStart =>
                exact ⟨0, [], Nat.zero_le _, rfl, rfl, hlz, hlm, Lib.hid (fun k h1 h2 => by simp [Value.ownBlock] at h1 h2; omega), hlb⟩
              case round =>
                clear hlz hlm hlb
                obtain ⟨q, zs, hq, rfl, hzl, hIz, hIm, hDs, hB⟩ := hrel
                obtain ⟨wq, rfl⟩ : ∃ X : World, X = wr := ⟨_, rfl⟩
                have hbq := Lib.hid (below_call hbwG'.out hB.out)
                have hbWq := Lib.hid (below_call (below_call hbW'.out hbwi.out) hbq.out)
                have hcq := Lib.hid (below_call hcwG'.out hB.out)
                obtain ⟨⟨y0, y1, y2⟩, -⟩ := hkT.out _ hbq.out
                obtain ⟨⟨x0, x1, x2⟩, -⟩ := hkU.out _ hbq.out
                obtain ⟨za, zn, zc, rfl, hzn⟩ := ints_slice hIz.out
                obtain ⟨ma, mn, mc, rfl, hmn⟩ := ints_slice hIm.out
                rw [hzl] at hzn
                rw [mirL_len, hzl] at hmn
                have hzn := hzn.symm
                have hmn := hmn.symm
                subst hzn
                subst hmn
                have hzl' := Lib.hid hzl
                clear hzl
                by_cases hqn : q < i
                · obtain ⟨g, rfl, hg4, d0, -, d2, -⟩ := (hrd.out W4 (Below.refl _ _)).1.at' hqn
                  have d0 := ((below_call hbwi.out hbq.out).cell (p := ⟨g, q * 4, none⟩) hg4).trans d0
                  have d2 := ((below_call hbwi.out hbq.out).cell (p := ⟨g, q * 4 + 2, none⟩) hg4).trans d2
                  have hjy := hV.out.1.loose.jobs q (by rw [show (shOf P js os).n = js.length from rfl, ← hjl'.out]; exact hqn)
                  rw [show (shOf P js os).job q = js.getD q J0 from rfl] at hjy
                  have hmir := Lib.hid (fun (v : Int) => (show mirL js (zs ++ [v]) = mirL js zs ++ [24 - v - (js.getD q J0).l] from by rw [mirL_app, hzl'.out]))
                  obtain ⟨⟨f, t, l, pp⟩, hjq⟩ : ∃ x, x = js.getD q J0 := ⟨_, rfl⟩
                  rw [← hjq] at d0 d2 hjy hmir
                  simp only at d0 d2 hjy hmir
                  have hqn' : (q : Int) < (i : Int) := by omega
                  have hv1 : 0 ≤ f ∧ f ≤ 24 := by omega
                  clear hjq
                  go_upto_region 29 with fail
                  obtain ⟨v1, hv1e⟩ : ∃ v1, v1 = f := ⟨_, rfl⟩
                  rw [← hv1e] at hv1 ⊢
                  obtain ⟨X1, hX1⟩ : ∃ X, X = wq := ⟨_, rfl⟩
                  have hqX := Lib.hid (show Below wq.heap.size wq X1 by rw [hX1]; exact Below.refl _ _)
                  rw [← hX1]
                  clear hX1 hv1e
                  have hbX := Lib.hid (below_call hbq.out hqX.out)
                  have hbWX := Lib.hid (below_call hbWq.out hqX.out)
                  obtain ⟨d, hd⟩ : ∃ d : Bool, d = (decide (q < yn) && (ys.getD q 0 % 4 == 0)) := ⟨_, rfl⟩
                  go_cut [220] from 209 to 220 (fun t w1 => t = .bool d ∧ X1 = w1)
                  case first =>
                    by_cases hqy : q < yn
                    · obtain ⟨gu, ou, rfl, hgu, hcu⟩ := huat'.out (fun e => by have := hyn'.out; rw [e] at this; simp at this; omega)
                      have c1 := (hbWX.out.cell (p := ⟨gu, ou + q, none⟩) hgu).trans (hcu q hqy)
                      have hY255 := hub'.out q
                      obtain ⟨Y, hY⟩ : ∃ Y, Y = ys.getD q 0 := ⟨_, rfl⟩
                      rw [← hY] at c1 hY255 hd
                      have hqy' : (q : Int) < (yn : Int) := by omega
                      clear hcu hY
                      by_cases h4 : Y % 4 = 0
                      · have hd' : d = true := by rw [hd]; simp [hqy, h4]
                        have hb4 : ((Y : Int) % 4 == 0) = true := by simp; omega
                        subst hd'
                        clear hd
                        go_wp2_with fail
                        go_meet
                        exact ⟨rfl, rfl⟩
                      · have hd' : d = false := by rw [hd]; simp [hqy, h4]
                        have hb4 : ((Y : Int) % 4 == 0) = false := by simp; omega
                        subst hd'
                        clear hd
                        go_wp2_with fail
                        go_meet
                        exact ⟨rfl, rfl⟩
                    · have hd' : d = false := by rw [hd]; simp [hqy]
                      subst hd'
                      clear hd
                      have hqy' : (q : Int) < (yn : Int) → False := by omega
                      go_wp2_with fail
                      go_meet
                      exact ⟨rfl, rfl⟩
                  case rest =>
                    obtain ⟨rfl, rfl⟩ := hcut
                    go_upto_if 220 with fail
                    go_cut [33] from 221 to 227 (fun t w1 => ∃ v : Int, t = .int .i64 v ∧ (0 ≤ v ∧ v ≤ 24) ∧ X1 = w1)
                    case first =>
                      cases d with
                      | true =>
                        have hd2 := hd.symm
                        simp only [Bool.and_eq_true, decide_eq_true_eq] at hd2
                        obtain ⟨hqy, -⟩ := hd2
                        obtain ⟨gu, ou, rfl, hgu, hcu⟩ := huat'.out (fun e => by have := hyn'.out; rw [e] at this; simp at this; omega)
                        have c1 := (hbWX.out.cell (p := ⟨gu, ou + q, none⟩) hgu).trans (hcu q hqy)
                        have hY255 := hub'.out q
                        obtain ⟨Y, hY⟩ : ∃ Y, Y = ys.getD q 0 := ⟨_, rfl⟩
                        rw [← hY] at c1 hY255
                        have hqy' : (q : Int) < (yn : Int) := by omega
                        clear hcu hY hd
                        go_wp2_with fail
                        go_meet
                        exact ⟨_, rfl, by omega, rfl⟩
                      | false =>
                        clear hd
                        go_wp2_with fail
                        go_meet
                        exact ⟨_, rfl, hv1, rfl⟩
                    case rest =>
                      obtain ⟨v, rfl, hv, rfl⟩ := hcut
                      obtain ⟨hvA, hvB⟩ := hv
                      have s3 : IntKind.i64.wrap (24 - v) = 24 - v := IntWalk.i64_in _ (by omega)
                      have s4 : IntKind.i64.wrap (24 - v - l) = 24 - v - l := IntWalk.i64_in _ (by omega)
                      have hGq : G0 < wG.heap.size := Nat.lt_of_lt_of_le hz'.out (Nat.le_trans hbwi.out.size hbwG'.out.size)
                      have hgq : g < wG.heap.size := Nat.lt_of_lt_of_le hg4 (Nat.le_trans hbwi.out.size hbwG'.out.size)
                      have hsX : wG.heap.size ≤ X1.heap.size := Nat.le_trans hB.out.size hqX.out.size
                      have y1 := (hqX.out.cell (p := ⟨G0, 1, none⟩) (Nat.lt_of_lt_of_le hGq hB.out.size)).trans y1
                      have d2 := (hqX.out.cell (p := ⟨g, q * 4 + 2, none⟩) (Nat.lt_of_lt_of_le hgq hB.out.size)).trans d2
                      have hst0 : St X1 X1 wG.heap.size [(.slice za q zc, zs), (.slice ma q mc, mirL js zs)] [] := St.start (st_two (hIz.out.below hqX.out) (hIm.out.below hqX.out)) (st_dis hDs.out) hsX
                      have hlz := Lib.hid (show zs.length ≤ 1000000 by rw [hzl'.out]; omega)
                      have hlm := Lib.hid (show (mirL js zs).length ≤ 1000000 by rw [mirL_len, hzl'.out]; omega)
                      have hbXX := Lib.hid (hB.out.trans (hqX.out.mono hB.out.size))
                      obtain ⟨B, hBq⟩ : ∃ B, B = wG.heap.size := ⟨_, rfl⟩
                      rw [← hBq] at hGq hgq hsX hst0
                      have hBq' := Lib.hid hBq
                      clear hBq
                      go_upto_region 31 with fail
                      refine wp_region_noPanic ?_
                      refine wp_region_any (by as_aux_lemma => kernel_rfl) (wpAny_of_held (S := fun w' => Below B X1 w') _ _ _ _ ?_)
                      have hHeld : Below B X1 X1.drew := (Below.refl _ _).drew
                      change wpAnyH _ _ _ _ _ _ _ _ X1.drew
                      simp only [List.size_toArray, List.length_cons, List.length_nil, Nat.reduceAdd, Array.replicate_succ, Array.replicate_zero, List.push_toArray, List.nil_append, List.cons_append]
                      refine wpAnyH_take (i := 0) (v := .slice za q zc) rfl (by as_aux_lemma => kernel_rfl) (by as_aux_lemma => kernel_rfl) (by as_aux_lemma => kernel_rfl) (fun _ _ _ h => h) (Or.inl ⟨by rfl, ?_⟩) hHeld ?_
                      · intro w' hSw; go_simp
                      simp only [Act.put, List.setIfInBounds_toArray, List.set_cons_zero, List.set_cons_succ, List.getElem_toArray, List.getElem_cons_zero]
                      refine wpAnyH_take (i := 1) (v := .int .i64 v) rfl (by as_aux_lemma => kernel_rfl) (by as_aux_lemma => kernel_rfl) (by as_aux_lemma => kernel_rfl) (fun _ _ _ h => h) (Or.inl ⟨by rfl, ?_⟩) hHeld ?_
                      · intro w' hSw; go_simp
                      simp only [Act.put, List.setIfInBounds_toArray, List.set_cons_zero, List.set_cons_succ, List.getElem_toArray, List.getElem_cons_succ, List.getElem_cons_zero]
                      refine wpAnyH_take (i := 4) (v := .slice ma q mc) rfl (by as_aux_lemma => kernel_rfl) (by as_aux_lemma => kernel_rfl) (by as_aux_lemma => kernel_rfl) (fun _ _ _ h => h) (Or.inl ⟨by rfl, ?_⟩) hHeld ?_
                      · intro w' hSw; go_simp
                      simp only [Act.put, List.setIfInBounds_toArray, List.set_cons_zero, List.set_cons_succ, List.getElem_toArray, List.getElem_cons_succ, List.getElem_cons_zero]
                      refine wpAnyH_take (i := 5) (v := .int .i64 v) rfl (by as_aux_lemma => kernel_rfl) (by as_aux_lemma => kernel_rfl) (by as_aux_lemma => kernel_rfl) (fun _ _ _ h => h) (Or.inl ⟨by rfl, ?_⟩) hHeld ?_
                      · intro w' hSw; go_simp
                      simp only [Act.put, List.setIfInBounds_toArray, List.set_cons_zero, List.set_cons_succ, List.getElem_toArray, List.getElem_cons_succ, List.getElem_cons_zero]
                      refine wpAnyH_take (i := 6) (v := .int .i64 (24 - v)) rfl (by as_aux_lemma => kernel_rfl) (by as_aux_lemma => kernel_rfl) (by as_aux_lemma => kernel_rfl) (fun _ _ _ h => h) (Or.inl ⟨by rfl, ?_⟩) hHeld ?_
                      · intro w' hSw; go_simp
                      simp only [Act.put, List.setIfInBounds_toArray, List.set_cons_zero, List.set_cons_succ, List.getElem_toArray, List.getElem_cons_succ, List.getElem_cons_zero]
                      refine wpAnyH_take (i := 7) (v := .pointer (some ⟨G0, 1, none⟩)) rfl (by as_aux_lemma => kernel_rfl) (by as_aux_lemma => kernel_rfl) (by as_aux_lemma => kernel_rfl) (fun _ _ _ h => h) (Or.inl ⟨by rfl, ?_⟩) hHeld ?_
                      · intro w' hSw; go_simp
                      simp only [Act.put, List.setIfInBounds_toArray, List.set_cons_zero, List.set_cons_succ, List.getElem_toArray, List.getElem_cons_succ, List.getElem_cons_zero]
                      refine wpAnyH_take (i := 8) (v := .slice (some ⟨g, 0, none⟩) i jc) rfl (by as_aux_lemma => kernel_rfl) (by as_aux_lemma => kernel_rfl) (by as_aux_lemma => kernel_rfl) (fun _ _ _ h => h) (Or.inl ⟨by rfl, ?_⟩) hHeld ?_
                      · intro w' hSw; have a0 := (hSw.cell (p := ⟨G0, 1, none⟩) hGq).trans y1; go_simp
                      simp only [Act.put, List.setIfInBounds_toArray, List.set_cons_zero, List.set_cons_succ, List.getElem_toArray, List.getElem_cons_succ, List.getElem_cons_zero]
                      refine wpAnyH_take (i := 9) (v := .int .i64 q) rfl (by as_aux_lemma => kernel_rfl) (by as_aux_lemma => kernel_rfl) (by as_aux_lemma => kernel_rfl) (fun _ _ _ h => h) (Or.inl ⟨by rfl, ?_⟩) hHeld ?_
                      · intro w' hSw; go_simp
                      simp only [Act.put, List.setIfInBounds_toArray, List.set_cons_zero, List.set_cons_succ, List.getElem_toArray, List.getElem_cons_succ, List.getElem_cons_zero]
                      refine wpAnyH_take (i := 10) (v := .pointer (some ⟨g, q * 4, none⟩)) rfl (by as_aux_lemma => kernel_rfl) (by as_aux_lemma => kernel_rfl) (by as_aux_lemma => kernel_rfl) (fun _ _ _ h => h) (Or.inl ⟨by rfl, ?_⟩) hHeld ?_
                      · intro w' hSw; go_simp
                      simp only [Act.put, List.setIfInBounds_toArray, List.set_cons_zero, List.set_cons_succ, List.getElem_toArray, List.getElem_cons_succ, List.getElem_cons_zero]
                      refine wpAnyH_take (i := 11) (v := .pointer (some ⟨g, q * 4 + 2, none⟩)) rfl (by as_aux_lemma => kernel_rfl) (by as_aux_lemma => kernel_rfl) (by as_aux_lemma => kernel_rfl) (fun _ _ _ h => h) (Or.inl ⟨by rfl, ?_⟩) hHeld ?_
                      · intro w' hSw; go_simp
                      simp only [Act.put, List.setIfInBounds_toArray, List.set_cons_zero, List.set_cons_succ, List.getElem_toArray, List.getElem_cons_succ, List.getElem_cons_zero]
                      refine wpAnyH_take (i := 12) (v := .int .i64 l) rfl (by as_aux_lemma => kernel_rfl) (by as_aux_lemma => kernel_rfl) (by as_aux_lemma => kernel_rfl) (fun _ _ _ h => h) (Or.inl ⟨by rfl, ?_⟩) hHeld ?_
                      · intro w' hSw; have a1 := (hSw.cell (p := ⟨g, q * 4 + 2, none⟩) hgq).trans d2; go_simp
                      simp only [Act.put, List.setIfInBounds_toArray, List.set_cons_zero, List.set_cons_succ, List.getElem_toArray, List.getElem_cons_succ, List.getElem_cons_zero]
                      refine wpAnyH_take (i := 13) (v := .int .i64 (24 - v - l)) rfl (by as_aux_lemma => kernel_rfl) (by as_aux_lemma => kernel_rfl) (by as_aux_lemma => kernel_rfl) (fun _ _ _ h => h) (Or.inl ⟨by rfl, ?_⟩) hHeld ?_
                      · intro w' hSw; go_simp
                      simp only [Act.put, List.setIfInBounds_toArray, List.set_cons_zero, List.set_cons_succ, List.getElem_toArray, List.getElem_cons_succ, List.getElem_cons_zero]
                      refine wpAnyH_ready (rs := [2, 14]) (by as_aux_lemma => kernel_rfl) (by simp) ?_
                      refine AllReadyH.cons rfl (fun K hK => ?_) (AllReadyH.cons rfl (fun K hK => ?_) AllReadyH.nil)
                      · have hst1 := (hst0.alloc v).drew
                        have hal := hst1.below
                        go_simp
                        refine hK.out _ _ hal (fun hHeld => ?_)
                        clear hK K hal
                        simp only [List.setIfInBounds_toArray, List.set_cons_zero, List.set_cons_succ]
                        change wpAnyH _ _ _ _ _ _ _ _ (X1.alloc (.cells #[.int .i64 v] 3)).drew
                        change Below B X1 (X1.alloc (.cells #[.int .i64 v] 3)).drew at hHeld
                        obtain ⟨wn1, hqn1⟩ : ∃ x, x = (X1.alloc (.cells #[.int .i64 v] 3)).drew := ⟨_, rfl⟩
                        rw [← hqn1] at hst1 hHeld ⊢
                        clear hqn1
                        obtain ⟨gn1, hgn1⟩ : ∃ x, x = X1.heap.size := ⟨_, rfl⟩
                        rw [← hgn1] at hst1 ⊢
                        clear hgn1
                        refine wpAnyH_ready (rs := [3, 14]) (by as_aux_lemma => kernel_rfl) (by simp) ?_
                        refine AllReadyH.cons rfl (fun K hK => ?_) (AllReadyH.cons rfl (fun K hK => ?_) AllReadyH.nil)
                        · refine step_app_st 0 (y := v) rfl (.tmp 228) (.tmp 230) rfl rfl hst1 (by rfl) (by rfl) (by rfl) (by simp) hlz.out ?_
                          intro v2 wn2 hst2
                          refine hK.out _ _ hst2.below (fun hHeld => ?_)
                          clear hK K
                          simp only [Act.put, List.setIfInBounds_toArray, List.set_cons_zero, List.set_cons_succ, List.getElem_toArray, List.getElem_cons_succ, List.getElem_cons_zero]
                          refine wpAnyH_ready (rs := [14]) (by as_aux_lemma => kernel_rfl) (by simp) ?_
                          refine AllReadyH.cons rfl (fun K hK => ?_) AllReadyH.nil
                          have hst3 := (hst2.alloc (24 - v - l))
                          have hal := hst3.below
                          go_simp
                          refine hK.out _ _ hal (fun hHeld => ?_)
                          clear hK K hal
                          simp only [List.setIfInBounds_toArray, List.set_cons_zero, List.set_cons_succ]
                          change wpAnyH _ _ _ _ _ _ _ _ (wn2.alloc (.cells #[.int .i64 (24 - v - l)] 3))
                          change Below B X1 (wn2.alloc (.cells #[.int .i64 (24 - v - l)] 3)) at hHeld
                          obtain ⟨wn3, hqn3⟩ : ∃ x, x = (wn2.alloc (.cells #[.int .i64 (24 - v - l)] 3)) := ⟨_, rfl⟩
                          rw [← hqn3] at hst3 hHeld ⊢
                          clear hqn3
                          obtain ⟨gn3, hgn3⟩ : ∃ x, x = wn2.heap.size := ⟨_, rfl⟩
                          rw [← hgn3] at hst3 ⊢
                          clear hgn3
                          refine wpAnyH_ready (rs := [15]) (by as_aux_lemma => kernel_rfl) (by simp) ?_
                          refine AllReadyH.cons rfl (fun K hK => ?_) AllReadyH.nil
                          refine step_app_st 1 (y := 24 - v - l) rfl (.tmp 232) (.tmp 242) rfl rfl hst3 (by rfl) (by rfl) (by rfl) (by simp) hlm.out ?_
                          intro v4 wn4 hst4
                          refine hK.out _ _ hst4.below (fun hHeld => ?_)
                          clear hK K
                          simp only [Act.put, List.setIfInBounds_toArray, List.set_cons_zero, List.set_cons_succ, List.getElem_toArray, List.getElem_cons_succ, List.getElem_cons_zero]
                          have f1 := Lib.hid (hst4.ints 0 rfl)
                          have f2 := Lib.hid (hst4.ints 1 rfl)
                          have f3 := Lib.hid (hst4.dis 0 1 (by omega) rfl rfl)
                          have hbe := Lib.hid (hst4.below)
                          refine wpAnyH_take (i := 16) (v := v2) rfl (by as_aux_lemma => kernel_rfl) (by as_aux_lemma => kernel_rfl) (by as_aux_lemma => kernel_rfl) (fun _ _ _ h => h) (Or.inl ⟨by rfl, ?_⟩) hHeld ?_
                          · intro w' hSw; go_simp
                          simp only [Act.put, List.setIfInBounds_toArray, List.set_cons_zero, List.set_cons_succ, List.getElem_toArray, List.getElem_cons_succ, List.getElem_cons_zero]
                          refine wpAnyH_take (i := 17) (v := v4) rfl (by as_aux_lemma => kernel_rfl) (by as_aux_lemma => kernel_rfl) (by as_aux_lemma => kernel_rfl) (fun _ _ _ h => h) (Or.inl ⟨by rfl, ?_⟩) hHeld ?_
                          · intro w' hSw; go_simp
                          simp only [Act.put, List.setIfInBounds_toArray, List.set_cons_zero, List.set_cons_succ, List.getElem_toArray, List.getElem_cons_succ, List.getElem_cons_zero]
                          refine wpAnyH_done (by as_aux_lemma => kernel_rfl) ?_ _
                          refine NoPanic.normal ?_
                          go_wp2_with fail
                          rw [hBq'.out] at f1 f2 hbe
                          exact ⟨⟨q + 1, zs ++ [v], by omega, by go_num, by rw [List.length_append, hzl'.out]; rfl, f1, by rw [hmir.out]; exact f2, f3, Lib.hid (hbXX.out.trans hbe.out)⟩, by simp [intOf]; omega⟩
                        · have hst5 := (hst1.alloc (24 - v - l))
                          have hal := hst5.below
                          go_simp
                          refine hK.out _ _ hal (fun hHeld => ?_)
                          clear hK K hal
                          simp only [List.setIfInBounds_toArray, List.set_cons_zero, List.set_cons_succ]
                          change wpAnyH _ _ _ _ _ _ _ _ (wn1.alloc (.cells #[.int .i64 (24 - v - l)] 3))
                          change Below B X1 (wn1.alloc (.cells #[.int .i64 (24 - v - l)] 3)) at hHeld
                          obtain ⟨wn5, hqn5⟩ : ∃ x, x = (wn1.alloc (.cells #[.int .i64 (24 - v - l)] 3)) := ⟨_, rfl⟩
                          rw [← hqn5] at hst5 hHeld ⊢
                          clear hqn5
                          obtain ⟨gn5, hgn5⟩ : ∃ x, x = wn1.heap.size := ⟨_, rfl⟩
                          rw [← hgn5] at hst5 ⊢
                          clear hgn5
                          refine wpAnyH_ready (rs := [3]) (by as_aux_lemma => kernel_rfl) (by simp) ?_
                          refine AllReadyH.cons rfl (fun K hK => ?_) AllReadyH.nil
                          refine step_app_st 0 (y := v) rfl (.tmp 228) (.tmp 230) rfl rfl hst5 (by rfl) (by rfl) (by rfl) (by simp) hlz.out ?_
                          intro v6 wn6 hst6
                          refine hK.out _ _ hst6.below (fun hHeld => ?_)
                          clear hK K
                          simp only [Act.put, List.setIfInBounds_toArray, List.set_cons_zero, List.set_cons_succ, List.getElem_toArray, List.getElem_cons_succ, List.getElem_cons_zero]
                          refine wpAnyH_ready (rs := [15]) (by as_aux_lemma => kernel_rfl) (by simp) ?_
                          refine AllReadyH.cons rfl (fun K hK => ?_) AllReadyH.nil
                          refine step_app_st 1 (y := 24 - v - l) rfl (.tmp 232) (.tmp 242) rfl rfl hst6 (by rfl) (by rfl) (by rfl) (by simp) hlm.out ?_
                          intro v7 wn7 hst7
                          refine hK.out _ _ hst7.below (fun hHeld => ?_)
                          clear hK K
                          simp only [Act.put, List.setIfInBounds_toArray, List.set_cons_zero, List.set_cons_succ, List.getElem_toArray, List.getElem_cons_succ, List.getElem_cons_zero]
                          have f1 := Lib.hid (hst7.ints 0 rfl)
                          have f2 := Lib.hid (hst7.ints 1 rfl)
                          have f3 := Lib.hid (hst7.dis 0 1 (by omega) rfl rfl)
                          have hbe := Lib.hid (hst7.below)
                          refine wpAnyH_take (i := 16) (v := v6) rfl (by as_aux_lemma => kernel_rfl) (by as_aux_lemma => kernel_rfl) (by as_aux_lemma => kernel_rfl) (fun _ _ _ h => h) (Or.inl ⟨by rfl, ?_⟩) hHeld ?_
                          · intro w' hSw; go_simp
                          simp only [Act.put, List.setIfInBounds_toArray, List.set_cons_zero, List.set_cons_succ, List.getElem_toArray, List.getElem_cons_succ, List.getElem_cons_zero]
                          refine wpAnyH_take (i := 17) (v := v7) rfl (by as_aux_lemma => kernel_rfl) (by as_aux_lemma => kernel_rfl) (by as_aux_lemma => kernel_rfl) (fun _ _ _ h => h) (Or.inl ⟨by rfl, ?_⟩) hHeld ?_
                          · intro w' hSw; go_simp
                          simp only [Act.put, List.setIfInBounds_toArray, List.set_cons_zero, List.set_cons_succ, List.getElem_toArray, List.getElem_cons_succ, List.getElem_cons_zero]
                          refine wpAnyH_done (by as_aux_lemma => kernel_rfl) ?_ _
                          refine NoPanic.normal ?_
                          go_wp2_with fail
                          rw [hBq'.out] at f1 f2 hbe
                          exact ⟨⟨q + 1, zs ++ [v], by omega, by go_num, by rw [List.length_append, hzl'.out]; rfl, f1, by rw [hmir.out]; exact f2, f3, Lib.hid (hbXX.out.trans hbe.out)⟩, by simp [intOf]; omega⟩
                      · have hst8 := (hst0.alloc (24 - v - l)).drew
                        have hal := hst8.below
                        go_simp
                        refine hK.out _ _ hal (fun hHeld => ?_)
                        clear hK K hal
                        simp only [List.setIfInBounds_toArray, List.set_cons_zero, List.set_cons_succ]
                        change wpAnyH _ _ _ _ _ _ _ _ (X1.alloc (.cells #[.int .i64 (24 - v - l)] 3)).drew
                        change Below B X1 (X1.alloc (.cells #[.int .i64 (24 - v - l)] 3)).drew at hHeld
                        obtain ⟨wn8, hqn8⟩ : ∃ x, x = (X1.alloc (.cells #[.int .i64 (24 - v - l)] 3)).drew := ⟨_, rfl⟩
                        rw [← hqn8] at hst8 hHeld ⊢
                        clear hqn8
                        obtain ⟨gn8, hgn8⟩ : ∃ x, x = X1.heap.size := ⟨_, rfl⟩
                        rw [← hgn8] at hst8 ⊢
                        clear hgn8
                        refine wpAnyH_ready (rs := [2]) (by as_aux_lemma => kernel_rfl) (by simp) ?_
                        refine AllReadyH.cons rfl (fun K hK => ?_) AllReadyH.nil
                        have hst9 := (hst8.alloc v)
                        have hal := hst9.below
                        go_simp
                        refine hK.out _ _ hal (fun hHeld => ?_)
                        clear hK K hal
                        simp only [List.setIfInBounds_toArray, List.set_cons_zero, List.set_cons_succ]
                        change wpAnyH _ _ _ _ _ _ _ _ (wn8.alloc (.cells #[.int .i64 v] 3))
                        change Below B X1 (wn8.alloc (.cells #[.int .i64 v] 3)) at hHeld
                        obtain ⟨wn9, hqn9⟩ : ∃ x, x = (wn8.alloc (.cells #[.int .i64 v] 3)) := ⟨_, rfl⟩
                        rw [← hqn9] at hst9 hHeld ⊢
                        clear hqn9
                        obtain ⟨gn9, hgn9⟩ : ∃ x, x = wn8.heap.size := ⟨_, rfl⟩
                        rw [← hgn9] at hst9 ⊢
                        clear hgn9
                        refine wpAnyH_ready (rs := [3]) (by as_aux_lemma => kernel_rfl) (by simp) ?_
                        refine AllReadyH.cons rfl (fun K hK => ?_) AllReadyH.nil
                        refine step_app_st 0 (y := v) rfl (.tmp 228) (.tmp 230) rfl rfl hst9 (by rfl) (by rfl) (by rfl) (by simp) hlz.out ?_
                        intro v10 wn10 hst10
                        refine hK.out _ _ hst10.below (fun hHeld => ?_)
                        clear hK K
                        simp only [Act.put, List.setIfInBounds_toArray, List.set_cons_zero, List.set_cons_succ, List.getElem_toArray, List.getElem_cons_succ, List.getElem_cons_zero]
                        refine wpAnyH_ready (rs := [15]) (by as_aux_lemma => kernel_rfl) (by simp) ?_
                        refine AllReadyH.cons rfl (fun K hK => ?_) AllReadyH.nil
                        refine step_app_st 1 (y := 24 - v - l) rfl (.tmp 232) (.tmp 242) rfl rfl hst10 (by rfl) (by rfl) (by rfl) (by simp) hlm.out ?_
                        intro v11 wn11 hst11
                        refine hK.out _ _ hst11.below (fun hHeld => ?_)
                        clear hK K
                        simp only [Act.put, List.setIfInBounds_toArray, List.set_cons_zero, List.set_cons_succ, List.getElem_toArray, List.getElem_cons_succ, List.getElem_cons_zero]
                        have f1 := Lib.hid (hst11.ints 0 rfl)
                        have f2 := Lib.hid (hst11.ints 1 rfl)
                        have f3 := Lib.hid (hst11.dis 0 1 (by omega) rfl rfl)
                        have hbe := Lib.hid (hst11.below)
                        refine wpAnyH_take (i := 16) (v := v10) rfl (by as_aux_lemma => kernel_rfl) (by as_aux_lemma => kernel_rfl) (by as_aux_lemma => kernel_rfl) (fun _ _ _ h => h) (Or.inl ⟨by rfl, ?_⟩) hHeld ?_
                        · intro w' hSw; go_simp
                        simp only [Act.put, List.setIfInBounds_toArray, List.set_cons_zero, List.set_cons_succ, List.getElem_toArray, List.getElem_cons_succ, List.getElem_cons_zero]
                        refine wpAnyH_take (i := 17) (v := v11) rfl (by as_aux_lemma => kernel_rfl) (by as_aux_lemma => kernel_rfl) (by as_aux_lemma => kernel_rfl) (fun _ _ _ h => h) (Or.inl ⟨by rfl, ?_⟩) hHeld ?_
                        · intro w' hSw; go_simp
                        simp only [Act.put, List.setIfInBounds_toArray, List.set_cons_zero, List.set_cons_succ, List.getElem_toArray, List.getElem_cons_succ, List.getElem_cons_zero]
                        refine wpAnyH_done (by as_aux_lemma => kernel_rfl) ?_ _
                        refine NoPanic.normal ?_
                        go_wp2_with fail
                        rw [hBq'.out] at f1 f2 hbe
                        exact ⟨⟨q + 1, zs ++ [v], by omega, by go_num, by rw [List.length_append, hzl'.out]; rfl, f1, by rw [hmir.out]; exact f2, f3, Lib.hid (hbXX.out.trans hbe.out)⟩, by simp [intOf]; omega⟩
                · obtain rfl : q = i := by omega
                  obtain ⟨dd, hdd⟩ : ∃ d : Bool, d = true ↔ Sched (shOf P js os) fun k => zs.getD k 0 := by classical exact ⟨decide (Sched (shOf P js os) fun k => zs.getD k 0), by simp⟩
                  have hzn := Lib.hid (show zs.length = js.length from hzl'.out.trans hjl'.out)
                  have hFa := Lib.hid (fun (X : World) (hb : Below wq.heap.size wq X) => fitsOk' (hshs.out X (below_call hbq.out hb)) h7.out h21.out ((hIz.out.below hb).shape) (by rw [hzl'.out]; omega) hv'.out hzn.out hdd)
                  have hFb := Lib.hid (fun (X : World) (hb : Below wq.heap.size wq X) => fitsOk' (hsht.out X (below_call hbq.out hb)) h72.out h212.out ((hIm.out.below hb).shape) (by rw [mirL_len, hzl'.out]; omega) hv2.out (by rw [mirL_len, List.length_map]; exact hzn.out) (hdd.trans (mirL_sched hV.out.1.loose hV2.out hzn.out).symm))
                  have hFa0 := Lib.hid (hFa.out wq (Below.refl _ _))
                  clear hdd
                  go_wp2_with (
                    first
                    | (go_at_call 16; refine (hFa0.out).mono ?_; rintro e wY ⟨rfl, hbY⟩
                       have hbY' := Lib.hid hbY
                       obtain ⟨⟨x0, x1, x2⟩, -⟩ := hkU.out _ (below_call hbq.out hbY)
                       have hFb0 := Lib.hid (hFb.out wY hbY)
                       clear hbY hFa0)
                    | (go_at_call 16; refine (hFb0.out).mono ?_; rintro e wZ ⟨rfl, hbZ⟩
                       have hbZ' := Lib.hid (below_call hbY'.out hbZ)
                       clear hbZ hFb0))
                  go_ret
                  exact ⟨by simp, below_call (below_call (below_call hbW'.out hbwi.out) hbq.out) hbZ'.out⟩
  case first =>
    as_aux_lemma =>
    refine wp_region_noPanic ?_
    refine wp_region_any (by as_aux_lemma => kernel_rfl) (wpAny_of_held (S := fun w' => Below B0 W w') _ _ _ _ ?_)
    have hHeld : Below B0 W W.drew := (Below.refl _ _).drew
    change wpAnyH _ _ _ _ _ _ _ _ W.drew
    simp only [List.size_toArray, List.length_cons, List.length_nil, Nat.reduceAdd, Array.replicate_succ, Array.replicate_zero, List.push_toArray, List.nil_append, List.cons_append]
    refine wpAnyH_take (i := 0) (v := .agg #[.int .u8 (p : Int), .slice aa an ac, .slice ba bn bc]) rfl (by as_aux_lemma => kernel_rfl) (by as_aux_lemma => kernel_rfl) (by as_aux_lemma => kernel_rfl) (fun _ _ _ h => h) (Or.inl ⟨by rfl, ?_⟩) hHeld ?_
    · intro w' hSw; have a0 := (hSw.cell (p := ⟨b1, 0, none⟩) hb12).trans c0; have a1 := (hSw.cell (p := ⟨b1, 1, none⟩) hb12).trans c1; have a2 := (hSw.cell (p := ⟨b1, 2, none⟩) hb12).trans c2; go_simp
    simp only [Act.put, List.setIfInBounds_toArray, List.set_cons_zero, List.set_cons_succ, List.getElem_toArray, List.getElem_cons_zero]
    refine wpAnyH_take (i := 2) (v := .pointer (some ⟨b1 + 1, 0, none⟩)) rfl (by as_aux_lemma => kernel_rfl) (by as_aux_lemma => kernel_rfl) (by as_aux_lemma => kernel_rfl) (fun _ _ _ h => h) (Or.inl ⟨by rfl, ?_⟩) hHeld ?_
    · intro w' hSw; go_simp
    simp only [Act.put, List.setIfInBounds_toArray, List.set_cons_zero, List.set_cons_succ, List.getElem_toArray, List.getElem_cons_succ, List.getElem_cons_zero]
    refine wpAnyH_take (i := 3) (v := .int .u8 (a : Int)) rfl (by as_aux_lemma => kernel_rfl) (by as_aux_lemma => kernel_rfl) (by as_aux_lemma => kernel_rfl) (fun _ _ _ h => h) (Or.inl ⟨by rfl, ?_⟩) hHeld ?_
    · intro w' hSw; have a0 := (hSw.cell (p := ⟨b1 + 1, 0, none⟩) hb13).trans k0; go_simp
    simp only [Act.put, List.setIfInBounds_toArray, List.set_cons_zero, List.set_cons_succ, List.getElem_toArray, List.getElem_cons_succ, List.getElem_cons_zero]
    refine wpAnyH_take (i := 4) (v := .pointer (some ⟨b1 + 1, 1, none⟩)) rfl (by as_aux_lemma => kernel_rfl) (by as_aux_lemma => kernel_rfl) (by as_aux_lemma => kernel_rfl) (fun _ _ _ h => h) (Or.inl ⟨by rfl, ?_⟩) hHeld ?_
    · intro w' hSw; go_simp
    simp only [Act.put, List.setIfInBounds_toArray, List.set_cons_zero, List.set_cons_succ, List.getElem_toArray, List.getElem_cons_succ, List.getElem_cons_zero]
    refine wpAnyH_take (i := 5) (v := .int .u8 (b : Int)) rfl (by as_aux_lemma => kernel_rfl) (by as_aux_lemma => kernel_rfl) (by as_aux_lemma => kernel_rfl) (fun _ _ _ h => h) (Or.inl ⟨by rfl, ?_⟩) hHeld ?_
    · intro w' hSw; have a0 := (hSw.cell (p := ⟨b1 + 1, 1, none⟩) hb13).trans k1; go_simp
    simp only [Act.put, List.setIfInBounds_toArray, List.set_cons_zero, List.set_cons_succ, List.getElem_toArray, List.getElem_cons_succ, List.getElem_cons_zero]
    have hs_W := hsW
    refine wpAnyH_ready (rs := [1, 6]) (by as_aux_lemma => kernel_rfl) (by simp) ?_
    refine AllReadyH.cons rfl (fun K hK => ?_) (AllReadyH.cons rfl (fun K hK => ?_) AllReadyH.nil)
    · have hV := Lib.hid (hmk.out W.drew ((Below.refl _ _).drew))
      go_simp
      refine hV.out.mono ?_
      rintro e wc ⟨P, jv, ov, js, os, rfl, oj, oo, hv, hbc⟩
      have hs0 : B0 ≤ W.heap.size := hs_W
      have hal : Below B0 W wc := ((Below.refl _ _).drew).trans (hbc.mono hs0)
      have fJ := own_base oj (show B0 ≤ _ from hs0)
      have fO := own_base oo (show B0 ≤ _ from hs0)
      refine hK.out _ _ hal (fun hHeld => ?_)
      clear hK K hal oj oo hbc hV
      simp only [List.setIfInBounds_toArray, List.set_cons_zero, List.set_cons_succ]
      have hs_wc : B0 ≤ wc.heap.size := Nat.le_trans hsW hHeld.size
      refine wpAnyH_ready (rs := [6]) (by as_aux_lemma => kernel_rfl) (by simp) ?_
      refine AllReadyH.cons rfl (fun K hK => ?_) AllReadyH.nil
      have hal : Below B0 W (wc.alloc (.cells #[.int .i64 0, .slice none 0 0, .slice none 0 0] 25)) := hHeld.alloc hs_wc _
      have fT := own_struct wc B0 (.int .i64 0) (.slice none 0 0) (.slice none 0 0) hs_wc
      have fJa := own_alloc fJ (.cells #[.int .i64 0, .slice none 0 0, .slice none 0 0] 25)
      have fOa := own_alloc fO (.cells #[.int .i64 0, .slice none 0 0, .slice none 0 0] 25)
      go_simp
      refine hK.out _ _ hal (fun hHeld => ?_)
      clear hK K hal
      simp only [List.setIfInBounds_toArray, List.set_cons_zero, List.set_cons_succ]
      change Below B0 W ((wc.alloc (.cells #[.int .i64 0, .slice none 0 0, .slice none 0 0] 25))) at hHeld
      change wpAnyH _ _ _ _ _ _ _ _ ((wc.alloc (.cells #[.int .i64 0, .slice none 0 0, .slice none 0 0] 25)))
      obtain ⟨wa, hqa⟩ : ∃ x, x = (wc.alloc (.cells #[.int .i64 0, .slice none 0 0, .slice none 0 0] 25)) := ⟨_, rfl⟩
      rw [← hqa] at hHeld fT fJa fOa ⊢
      clear hqa
      obtain ⟨gt, hqg⟩ : ∃ x, x = wc.heap.size := ⟨_, rfl⟩
      rw [← hqg] at fT ⊢
      clear hqg
      have hs_wa : B0 ≤ wa.heap.size := Nat.le_trans hsW hHeld.size
      obtain ⟨ja', jl, jc', rfl, -⟩ := own_len fJa
      obtain ⟨oa', ol, oc', rfl, -⟩ := own_len fOa
      have hgt := (World.ownsRow.lt fT gt rfl).1
      have hfin := Lib.hid (cutm_end (P := P) hWb'.out hbB.out hHeld hgt hv fJa fOa fT)
      refine wpAnyH_ready (rs := [7]) (by as_aux_lemma => kernel_rfl) (by simp) ?_
      refine AllReadyH.cons rfl (fun K hK => ?_) AllReadyH.nil
      refine wp_store_mid 25 (.tmp 7) (.tmp 39) rfl gt 0 [.int .i64 P, .slice ja' jl jc', .slice oa' ol oc'].toArray (by rfl) (by rfl) (struct_there fT) (by as_aux_lemma => kernel_rfl) one3 ?_
      refine hK.out _ _ hfin.out.2 (fun hHeld => ?_)
      clear hK K
      simp only [Act.put, List.setIfInBounds_toArray, List.set_cons_zero, List.set_cons_succ, List.getElem_toArray, List.getElem_cons_succ, List.getElem_cons_zero]
      refine wpAnyH_take (i := 8) (v := .int .u8 (a : Int)) rfl (by as_aux_lemma => kernel_rfl) (by as_aux_lemma => kernel_rfl) (by as_aux_lemma => kernel_rfl) (fun _ _ _ h => h) (Or.inl ⟨by rfl, ?_⟩) hHeld ?_
      · intro w' hSw; go_simp
      simp only [Act.put, List.setIfInBounds_toArray, List.set_cons_zero, List.set_cons_succ, List.getElem_toArray, List.getElem_cons_succ, List.getElem_cons_zero]
      refine wpAnyH_take (i := 9) (v := .int .u8 (b : Int)) rfl (by as_aux_lemma => kernel_rfl) (by as_aux_lemma => kernel_rfl) (by as_aux_lemma => kernel_rfl) (fun _ _ _ h => h) (Or.inl ⟨by rfl, ?_⟩) hHeld ?_
      · intro w' hSw; go_simp
      simp only [Act.put, List.setIfInBounds_toArray, List.set_cons_zero, List.set_cons_succ, List.getElem_toArray, List.getElem_cons_succ, List.getElem_cons_zero]
      refine wpAnyH_done (by as_aux_lemma => kernel_rfl) ?_ _
      refine NoPanic.normal ?_
      go_wp2_with fail
      go_meet
      exact ⟨_, rfl, hfin.out.1, rfl, rfl⟩
    · have hal : Below B0 W (W.alloc (.cells #[.int .i64 0, .slice none 0 0, .slice none 0 0] 25)).drew := ((Below.refl _ _).alloc hs_W _).drew
      have fT := own_drew (own_struct W B0 (.int .i64 0) (.slice none 0 0) (.slice none 0 0) hs_W)
      go_simp
      refine hK.out _ _ hal (fun hHeld => ?_)
      clear hK K hal
      simp only [List.setIfInBounds_toArray, List.set_cons_zero, List.set_cons_succ]
      change Below B0 W ((W.alloc (.cells #[.int .i64 0, .slice none 0 0, .slice none 0 0] 25)).drew) at hHeld
      change wpAnyH _ _ _ _ _ _ _ _ ((W.alloc (.cells #[.int .i64 0, .slice none 0 0, .slice none 0 0] 25)).drew)
      obtain ⟨wa, hqa⟩ : ∃ x, x = (W.alloc (.cells #[.int .i64 0, .slice none 0 0, .slice none 0 0] 25)).drew := ⟨_, rfl⟩
      rw [← hqa] at hHeld fT  ⊢
      clear hqa
      obtain ⟨gt, hqg⟩ : ∃ x, x = W.heap.size := ⟨_, rfl⟩
      rw [← hqg] at fT ⊢
      clear hqg
      have hs_wa : B0 ≤ wa.heap.size := Nat.le_trans hsW hHeld.size
      refine wpAnyH_ready (rs := [1]) (by as_aux_lemma => kernel_rfl) (by simp) ?_
      refine AllReadyH.cons rfl (fun K hK => ?_) AllReadyH.nil
      have hV := Lib.hid (hmk.out wa hHeld)
      go_simp
      refine hV.out.mono ?_
      rintro e wc ⟨P, jv, ov, js, os, rfl, oj, oo, hv, hbc⟩
      have hs0 : B0 ≤ wa.heap.size := hs_wa
      have hal : Below B0 W wc := hHeld.trans (hbc.mono hs0)
      have fJ := own_base oj (show B0 ≤ _ from hs0)
      have fO := own_base oo (show B0 ≤ _ from hs0)
      have fTc := own_below fT hbc
      refine hK.out _ _ hal (fun hHeld => ?_)
      clear hK K hal oj oo hbc hV
      simp only [List.setIfInBounds_toArray, List.set_cons_zero, List.set_cons_succ]
      have hs_wc : B0 ≤ wc.heap.size := Nat.le_trans hsW hHeld.size
      obtain ⟨ja', jl, jc', rfl, -⟩ := own_len fJ
      obtain ⟨oa', ol, oc', rfl, -⟩ := own_len fO
      have hgt := (World.ownsRow.lt fTc gt rfl).1
      have hfin := Lib.hid (cutm_end (P := P) hWb'.out hbB.out hHeld hgt hv fJ fO fTc)
      refine wpAnyH_ready (rs := [7]) (by as_aux_lemma => kernel_rfl) (by simp) ?_
      refine AllReadyH.cons rfl (fun K hK => ?_) AllReadyH.nil
      refine wp_store_mid 25 (.tmp 7) (.tmp 39) rfl gt 0 [.int .i64 P, .slice ja' jl jc', .slice oa' ol oc'].toArray (by rfl) (by rfl) (struct_there fTc) (by as_aux_lemma => kernel_rfl) one3 ?_
      refine hK.out _ _ hfin.out.2 (fun hHeld => ?_)
      clear hK K
      simp only [Act.put, List.setIfInBounds_toArray, List.set_cons_zero, List.set_cons_succ, List.getElem_toArray, List.getElem_cons_succ, List.getElem_cons_zero]
      refine wpAnyH_take (i := 8) (v := .int .u8 (a : Int)) rfl (by as_aux_lemma => kernel_rfl) (by as_aux_lemma => kernel_rfl) (by as_aux_lemma => kernel_rfl) (fun _ _ _ h => h) (Or.inl ⟨by rfl, ?_⟩) hHeld ?_
      · intro w' hSw; go_simp
      simp only [Act.put, List.setIfInBounds_toArray, List.set_cons_zero, List.set_cons_succ, List.getElem_toArray, List.getElem_cons_succ, List.getElem_cons_zero]
      refine wpAnyH_take (i := 9) (v := .int .u8 (b : Int)) rfl (by as_aux_lemma => kernel_rfl) (by as_aux_lemma => kernel_rfl) (by as_aux_lemma => kernel_rfl) (fun _ _ _ h => h) (Or.inl ⟨by rfl, ?_⟩) hHeld ?_
      · intro w' hSw; go_simp
      simp only [Act.put, List.setIfInBounds_toArray, List.set_cons_zero, List.set_cons_succ, List.getElem_toArray, List.getElem_cons_succ, List.getElem_cons_zero]
      refine wpAnyH_done (by as_aux_lemma => kernel_rfl) ?_ _
      refine NoPanic.normal ?_
      go_wp2_with fail
      go_meet
      exact ⟨_, rfl, hfin.out.1, rfl, rfl⟩
end Go.Proofs.Ytjkbhdlbomcbeaa
