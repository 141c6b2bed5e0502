import Derived.Test.YtjkbhdlbomcbeaaV12
import Derived.Test.YtjkbhdlbomcbeaaV11
import Derived.RangeFuncNested
import Derived.RangeFuncBound
import Derived.RangeFuncCalls
import Derived.RangeFuncLeaves
import Derived.RangeFuncFrom
import Derived.Shelf.Abstract
import Derived.Shelf.RegionOpen
import Derived.OwnWalkIn
import Derived.TacticsInMore
import Derived.LoopNIn
import Derived.LoopIn
import Derived.Test.YtjkbhdlbomcbeaaV8
import Derived.Test.YtjkbhdlbomcbeaaV10
namespace Go.Proofs.Ytjkbhdlbomcbeaa
open Go.RowKit Go.Shelf Shf

theorem till_n (s : Sh) (i : Nat) (x : Int) : (till s i x).n = s.n := by simp [till, Sh.put, Sh.n]
theorem later_n (s : Sh) (i : Nat) (x : Int) : (later s i x).n = s.n := by simp [later, Sh.put, Sh.n]
theorem refT : ∀ (t : Tr) {s : Sh}, Loose s → WfT s.n s.os.length t → ∀ (w : World) (v : Value), ShV w v s.P s.js (osI s) →
    Calls Try.prog (fnT t) #[t.arg, v] w (RefEnd (rf t s) w) := by
  intro t
  induction t with
  | split j a l r ihl ihr =>
    intro s hs hwf w v hv
    obtain ⟨h0, h1, h2, h3⟩ := hwf
    obtain ⟨J, rfl⟩ : ∃ J : Nat, j = (J : Int) := ⟨j.toNat, by omega⟩
    have hJ : J < s.n := by omega
    show Calls Try.prog 95 #[.agg #[.int .i64 (J : Int), .int .i64 a, l.val, r.val], v] w _
    rw [val_is l, val_is r]
    refine split95 hs hv hJ (methT l) (methT r) (callT l) (callT r) (dl := rf l (till s J a)) (dr := rf r (later s J a)) (fun e1 e2 W u hu => ?_) (fun e1 e2 W u hu => ?_) rfl
    · exact ihl (loose_till hs hJ e1 (Int.le_of_lt e2)) (by rw [till_n]; exact h2) W u hu
    · exact ihr (loose_later hs hJ e1 e2) (by rw [later_n]; exact h3) W u hu
  | energy a b =>
    intro s hs hwf w v hv
    exact energy96 hs hv hwf rfl
  | late k =>
    intro s hs hwf w v hv
    obtain ⟨h0, h1⟩ := hwf
    obtain ⟨K, rfl⟩ : ∃ K : Nat, k = (K : Int) := ⟨k.toNat, by omega⟩
    exact late76 hs hv (k := K) (by omega) rfl
/-- What a proof says. -/
def prO (s : Sh) (o : Option Tr) : Bool := match o with | some t => rf t s | none => false
def prB (s : Sh) (nj no : Nat) (ns : List Nd) : Bool := prO s (pz ns nj no (ns.length + 1) 0 fun _ => false).1
def provesE (P : Int) (js : List J) (os : List (Int × Int)) (ns : List Nd) : Int := if validB P js os then (if 20000 < ns.length then 3 else 0) else 1
def provesB (P : Int) (js : List J) (os : List (Int × Int)) (ns : List Nd) : Bool := validB P js os && (decide (ns.length ≤ 20000) && prB (shOf P js os) js.length os.length ns)
end Go.Proofs.Ytjkbhdlbomcbeaa

namespace Go.Proofs.Ytjkbhdlbomcbeaa
open Go.RowKit Go.Shelf Shf

def OverEnd (w : World) (P : Int) (js : List J) (e : Ending) (w' : World) : Prop := ∃ f t ok, e = .returned (.tuple #[.int .i64 f, .int .i64 t, .bool ok]) ∧ OverIs P js f t ok ∧ Below w.heap.size w w'
end Go.Proofs.Ytjkbhdlbomcbeaa

namespace Go.Proofs.Ytjkbhdlbomcbeaa
open Go.RowKit Go.Shelf Shf
attribute [local go_sem] Oper.semAt_some

/-! ## the intervals, as they are yielded -/
abbrev Ivl := { p : Nat × Nat // p.1 < p.2 ∧ p.2 ≤ 24 }
def Cov (pre : List Ivl) (a b : Nat) : Prop := ∀ x y : Nat, x < y → y ≤ 24 → (x < a ∨ (x = a ∧ y < b)) → ∃ p ∈ pre, p.1 = (x, y)
theorem Cov.nil : Cov [] 0 1 := fun x y h1 h2 h3 => by omega
theorem Cov.next {pre : List Ivl} {a b : Nat} (h : Cov pre a b) (x : Ivl) (hx : x.1 = (a, b)) : Cov (pre ++ [x]) a (b + 1) := fun u v h1 h2 h3 => by
  by_cases e : u = a ∧ v = b
  · exact ⟨x, by simp, by rw [hx, e.1, e.2]⟩
  · obtain ⟨p, hp, hq⟩ := h u v h1 h2 (by omega)
    exact ⟨p, by simp [hp], hq⟩
theorem Cov.row {pre : List Ivl} {a : Nat} (h : Cov pre a 25) : Cov pre (a + 1) (a + 2) := fun u v h1 h2 h3 => by
  refine h u v h1 h2 ?_; omega

set_option maxRecDepth 100000 in
set_option maxHeartbeats 1000000 in
theorem intervals64_in (F : Fence) (n : Nat) (h64 : F.fn 64) (hro : F.round = none) (hn : 1 ≤ n) (l : Nat) (J Jx : List Ivl → World → Prop)
    (hY : ∀ pre x W, J pre W → pre.length < 1000 → YieldAt F (n - 1) Try.prog l #[.int .i64 ((x : Ivl).1.1 : Int), .int .i64 (x.1.2 : Int)] W fun e W' =>
      (e = .returned (.bool true) ∧ J (pre ++ [x]) W') ∨ (e = .returned (.bool false) ∧ Jx (pre ++ [x]) W'))
    (W : World) (h0 : J [] W) :
    CallsIn F n Try.prog 64 #[.func (.yield l) #[] #[]] W fun e W' => (∃ v, e = .returned v) ∧
      ((∃ ys, Cov ys 24 25 ∧ J ys W') ∨ (∃ pre, (∃ p0 x, pre = p0 ++ [x] ∧ Cov p0 x.1.1 x.1.2) ∧ Jx pre W')) := by
  refine callsIn_of_wp Try.func64 rfl h64 ?_ hro
  simp only [Try.ntmps64, List.size_toArray, List.length_cons, List.length_nil, Nat.reduceAdd, Nat.reduceSub, Array.replicate_succ, Array.replicate_zero, List.push_toArray, List.append_toArray, List.nil_append, List.cons_append]
  gi_wp2
  gi_loopw [4] (fun p wr => ∃ a : Nat, ∃ pre : List Ivl, a ≤ 24 ∧ p = .int .i64 (a : Int) ∧ pre.length ≤ 25 * a + a ∧ Cov pre a (a + 1) ∧ J pre wr)
    (fun p wr => 24 - (intOf p).toNat)
  case atStart =>
    exact ⟨0, [], by omega, rfl, by simp, Cov.nil, h0⟩
  case round =>
    obtain ⟨a, pre0, ha, rfl, hl0, hc0, hJ0⟩ := hrel
    by_cases ha24 : a < 24
    · have htB : decide ((a : Int) < 24) = true := by simp; omega
      gi_wp2
      clear htB
      gi_loopw [3] (fun p wr => ∃ b : Nat, ∃ pre : List Ivl, a < b ∧ b ≤ 25 ∧ p = .int .i64 (b : Int) ∧ pre.length ≤ 25 * a + b ∧ Cov pre a b ∧ J pre wr)
        (fun p wr => 25 - (intOf p).toNat)
      case atStart => exact ⟨a + 1, pre0, by omega, by omega, by go_num, by omega, hc0, hJ0⟩
      case round =>
        clear hl0 hc0 hJ0
        obtain ⟨b, pre, hab, hb, rfl, hl, hc, hJ⟩ := hrel
        by_cases hb24 : b ≤ 24
        · obtain ⟨fn, tmps, assign, body, hy, hR⟩ := hY pre ⟨(a, b), hab, hb24⟩ wr hJ (by omega)
          have hc' := Lib.hid (hc.next ⟨(a, b), hab, hb24⟩ rfl)
          have hc0' := Lib.hid hc
          clear hc
          gi_wp2
          refine hR.mono ?_
          rintro e W3 (⟨rfl, hJ3⟩ | ⟨rfl, hJx3⟩)
          · gi_wp2
            go_roundw
            case rel => exact ⟨b + 1, _, by omega, by omega, by go_num, by simp; omega, hc'.out, hJ3⟩
            case measure => simp [intOf]; omega
          · gi_wp2
            refine bodyPost_ret (results_none rfl _ _ _) rfl ?_
            exact ⟨⟨_, rfl⟩, .inr ⟨_, ⟨_, _, rfl, hc0'.out⟩, hJx3⟩⟩
        · obtain rfl : b = 25 := by omega
          rw [show ((25 : Nat) : Int) = 25 from rfl]
          have hc2 := Lib.hid hc.row
          clear hc
          gi_wp2
          go_roundw
          case rel => exact ⟨a + 1, pre, by omega, by go_num, by omega, hc2.out, hJ⟩
          case measure => simp [intOf]; omega
    · obtain rfl : a = 24 := by omega
      rw [show ((24 : Nat) : Int) = 24 from rfl]
      gi_wp2
      go_end0
      exact ⟨⟨_, rfl⟩, .inl ⟨_, hc0, hJ0⟩⟩
theorem intervals64_stops (F : Fence) (n : Nat) (h64 : F.fn 64) (hro : F.round = none) (hn : 1 ≤ n) (w : World) :
    SeqStopsK F n Try.prog 64 #[] (fun x : Ivl => #[Value.int .i64 (x.1.1 : Int), Value.int .i64 (x.1.2 : Int)]) (fun _ _ => True) (fun ys => Cov ys 24 25) (fun pre => ∃ p0 x, pre = p0 ++ [x] ∧ Cov p0 x.1.1 x.1.2) 1000 w := fun l J Jx W _ _ _ hY h0 =>
  intervals64_in F n h64 hro hn l J Jx (fun pre x W1 hJ hlt => by
    obtain ⟨fn, tmps, assign, body, hy, hR⟩ := hY pre x W1 hJ hlt
    refine ⟨fn, tmps, assign, body, hy, hR.mono ?_⟩
    rintro e W' (⟨rfl, h1, -⟩ | h1)
    · exact .inl ⟨rfl, h1⟩
    · exact .inr h1) W h0
end Go.Proofs.Ytjkbhdlbomcbeaa

namespace Go.Proofs.Ytjkbhdlbomcbeaa
open Go.RowKit Go.Shelf Shf
attribute [local go_sem] Oper.semAt_some

theorem cell_of_box_e {W : World} {B : Nat} {v : Value} {t : TypeId} (h : W.heap[B]? = some (.cells #[v] t (0, 0))) : W.cell? ⟨B, 0, none⟩ = some v ∧ W.frozen? ⟨B, 0, none⟩ = false := by
  constructor <;> simp [World.cell?, World.frozen?, h]
theorem cell_new_e (W : World) (v : Value) (t : TypeId) : (W.alloc (.cells #[v] t)).cell? ⟨W.heap.size, 0, none⟩ = some v ∧ (W.alloc (.cells #[v] t)).frozen? ⟨W.heap.size, 0, none⟩ = false :=
  cell_of_box_e (World.alloc_heap_new W _)
theorem keepsO_below {A B : World} (h : Below A.heap.size A B) : KeepsOthers A B := ⟨h.size, fun k _ hk _ => (h.block k (Array.getElem?_eq_some_iff.1 hk).1).trans hk⟩
theorem cell_same_e {w : World} {p : Addr} {u v : Value} (h : w.cell? p = some u) : (w.setCell p v).cell? p = some v := World.cell?_setCell_same' _ _ _ (by rw [h]; rfl)
theorem cell_other_e {w : World} (p q : Nat) (v : Value) (h : p ≠ q) : (w.setCell ⟨p, 0, none⟩ v).cell? ⟨q, 0, none⟩ = w.cell? ⟨q, 0, none⟩ := World.cell?_setCell_other _ _ _ _ (fun e => h (congrArg Addr.block e))

def Bx (W : World) (p : Nat) (v : Value) : Prop := W.cell? ⟨p, 0, none⟩ = some v ∧ W.frozen? ⟨p, 0, none⟩ = false
theorem Bx.kept {A C : World} {row : Option Nat} {p : Nat} {v : Value} (h : Bx A p v) (hg : A.grownBy C row) (hr : ∀ r, row = some r → ∃ o : Obj, A.heap[r]? = some o ∧ o.isCells = false) : Bx C p v :=
  ⟨cell_kept h.1 hg hr, (frozen_kept h.1 hg hr).trans h.2⟩
theorem Bx.alloc {A : World} {p : Nat} {v : Value} (h : Bx A p v) (o : Obj) : Bx (A.alloc o) p v := h.kept (World.grownBy_alloc A o none) (fun r e => by cases e)
theorem Bx.below {A C : World} {n p : Nat} {v : Value} (h : Bx A p v) (hb : Below n A C) (hp : p < n) : Bx C p v := ⟨(hb.cell (p := ⟨p, 0, none⟩) hp).trans h.1, (hb.frozen (p := ⟨p, 0, none⟩) hp).trans h.2⟩
theorem Bx.other {A : World} {p q : Nat} {v u : Value} (h : Bx A p v) (e : q ≠ p) : Bx (A.setCell ⟨q, 0, none⟩ u) p v := ⟨(cell_other_e q p u e).trans h.1, by rw [World.frozen?_setCell]; exact h.2⟩
theorem Bx.same {A : World} {p : Nat} {v u : Value} (h : Bx A p v) : Bx (A.setCell ⟨p, 0, none⟩ u) p u := ⟨cell_same_e h.1, by rw [World.frozen?_setCell]; exact h.2⟩
def Sh3 (W : World) (B : Nat) (P jv ov : Value) : Prop := W.cell? ⟨B, 0, none⟩ = some P ∧ W.cell? ⟨B, 1, none⟩ = some jv ∧ W.cell? ⟨B, 2, none⟩ = some ov
theorem Sh3.kept {A C : World} {row : Option Nat} {B : Nat} {P jv ov : Value} (h : Sh3 A B P jv ov) (hg : A.grownBy C row) (hr : ∀ r, row = some r → ∃ o : Obj, A.heap[r]? = some o ∧ o.isCells = false) : Sh3 C B P jv ov :=
  ⟨cell_kept h.1 hg hr, cell_kept h.2.1 hg hr, cell_kept h.2.2 hg hr⟩
theorem Sh3.alloc {A : World} {B : Nat} {P jv ov : Value} (h : Sh3 A B P jv ov) (o : Obj) : Sh3 (A.alloc o) B P jv ov := h.kept (World.grownBy_alloc A o none) (fun r e => by cases e)
theorem Sh3.below {A C : World} {n B : Nat} {P jv ov : Value} (h : Sh3 A B P jv ov) (hb : Below n A C) (hp : B < n) : Sh3 C B P jv ov := ⟨(hb.cell (p := ⟨B, 0, none⟩) hp).trans h.1, (hb.cell (p := ⟨B, 1, none⟩) hp).trans h.2.1, (hb.cell (p := ⟨B, 2, none⟩) hp).trans h.2.2⟩
/-- The boxes of the function: the shaft, and the three results. -/
def Box4 (W : World) (B : Nat) (P jv ov f t ok : Value) : Prop := Sh3 W B P jv ov ∧ Bx W (B + 1) f ∧ Bx W (B + 1 + 1) t ∧ Bx W (B + 1 + 1 + 1) ok
theorem Box4.kept {A C : World} {row : Option Nat} {B : Nat} {P jv ov f t ok : Value} (h : Box4 A B P jv ov f t ok) (hg : A.grownBy C row) (hr : ∀ r, row = some r → ∃ o : Obj, A.heap[r]? = some o ∧ o.isCells = false) : Box4 C B P jv ov f t ok :=
  ⟨h.1.kept hg hr, h.2.1.kept hg hr, h.2.2.1.kept hg hr, h.2.2.2.kept hg hr⟩
theorem Box4.below {A C : World} {n B : Nat} {P jv ov f t ok : Value} (h : Box4 A B P jv ov f t ok) (hb : Below n A C) (hp : B + 1 + 1 + 1 < n) : Box4 C B P jv ov f t ok :=
  ⟨h.1.below hb (by omega), h.2.1.below hb (by omega), h.2.2.1.below hb (by omega), h.2.2.2.below hb (by omega)⟩
theorem Sh3.other {A : World} {B q : Nat} {P jv ov u : Value} (h : Sh3 A B P jv ov) (e : q ≠ B) : Sh3 (A.setCell ⟨q, 0, none⟩ u) B P jv ov :=
  ⟨(World.cell?_setCell_other _ _ _ _ (fun c => e (congrArg Addr.block c))).trans h.1, (World.cell?_setCell_other _ _ _ _ (fun c => e (congrArg Addr.block c))).trans h.2.1, (World.cell?_setCell_other _ _ _ _ (fun c => e (congrArg Addr.block c))).trans h.2.2⟩
theorem Box4.stored {A : World} {B : Nat} {P jv ov f t ok f' t' ok' : Value} (h : Box4 A B P jv ov f t ok) : Box4 (((A.setCell ⟨B + 1, 0, none⟩ f').setCell ⟨B + 1 + 1, 0, none⟩ t').setCell ⟨B + 1 + 1 + 1, 0, none⟩ ok') B P jv ov f' t' ok' :=
  ⟨((h.1.other (by omega)).other (by omega)).other (by omega), ((h.2.1.same).other (by omega)).other (by omega), ((h.2.2.1.other (by omega)).same).other (by omega), ((h.2.2.2.other (by omega)).other (by omega)).same⟩
/-- No interval of a list is overfull. -/
def NoneIn (P : Int) (js : List J) (pre : List Ivl) : Prop := ∀ p ∈ pre, ovB P js (p.1.1 : Int) (p.1.2 : Int) = false
theorem noneIn_snoc {P : Int} {js : List J} {pre : List Ivl} {x : Ivl} (h : NoneIn P js pre) (hx : ovB P js (x.1.1 : Int) (x.1.2 : Int) = false) : NoneIn P js (pre ++ [x]) := fun p hp => by
  rcases List.mem_append.1 hp with h1 | h1
  · exact h p h1
  · rw [List.mem_singleton.1 h1]; exact hx
theorem none_of_cov {P : Int} {js : List J} {pre : List Ivl} {a b : Nat} (h : NoneIn P js pre) (hc : Cov pre a b) : NoneB P js a b := fun x y h1 h2 h3 => by
  obtain ⟨p, hp, e⟩ := hc x y h1 h2 h3
  have h4 := h p hp
  rw [e] at h4; exact h4
theorem none_all {P : Int} {js : List J} {pre : List Ivl} (h : NoneIn P js pre) (hc : Cov pre 24 25) : NoneB P js 24 0 := fun x y h1 h2 h3 => none_of_cov h hc x y h1 h2 (by omega)

set_option maxRecDepth 100000 in
set_option maxHeartbeats 2000000 in
theorem overfull46 {w : World} {v : Value} {P : Int} {js : List J} {os : List (Int × Int)} (h : ShV w v P js os) (h7 : js.length ≤ 7) (hP : 1 ≤ P ∧ P ≤ 20) (hj : ∀ i, i < js.length → JobIn (js.getD i J0)) :
    Calls Try.prog 46 #[v] w (OverEnd w P js) := by
  obtain ⟨jv, ov, rfl, rj, ro⟩ := h
  obtain ⟨ja, jn, jc, rfl⟩ : ∃ a n c, jv = .slice a n c := by obtain ⟨a, c, e, _⟩ := rj; exact ⟨_, _, _, e⟩
  obtain ⟨oa, m, oc, rfl⟩ : ∃ a n c, ov = .slice a n c := by obtain ⟨a, c, e, _⟩ := ro; exact ⟨_, _, _, e⟩
  have hov := Lib.hid (fun (W : World) (hb' : Below w.heap.size w W) (x : Ivl) => isOverfull65 (w := W) (v := .agg #[.int .i64 P, .slice ja jn jc, .slice oa m oc]) (a := (x.1.1 : Int)) (b := (x.1.2 : Int)) ⟨_, _, rfl, rj.below hb', ro.below hb'⟩ h7 hP hj (by have := x.2; omega) (by have := x.2; omega) (by have := x.2; omega) rfl)
  clear rj ro h7 hP hj
  refine (callsIn_wide (n := 6)).1 ?_
  have hmx : Try.prog.follows .mixedOrders = true := by kernel_rfl
  refine callsIn_of_wp_marks Try.func46 rfl trivial ?_ rfl
  simp only [Try.ntmps46, List.size_toArray, List.length_cons, List.length_nil, Nat.reduceAdd, Nat.reduceSub, Array.replicate_succ, Array.replicate_zero, List.push_toArray, List.append_toArray, List.nil_append, List.cons_append]
  have c0 : Sh3 (w.alloc (.cells #[.int .i64 P, .slice ja jn jc, .slice oa m oc] 81)) w.heap.size (.int .i64 P) (.slice ja jn jc) (.slice oa m oc) := (Three.new w _ _ _ 81).1
  have c1 : Bx _ _ _ := cell_new_e (w.alloc (.cells #[.int .i64 P, .slice ja jn jc, .slice oa m oc] 81)) (.int .i64 0) 3
  have c2 : Bx _ _ _ := cell_new_e ((w.alloc (.cells #[.int .i64 P, .slice ja jn jc, .slice oa m oc] 81)).alloc (.cells #[.int .i64 0] 3)) (.int .i64 0) 3
  have c3 : Bx _ _ _ := cell_new_e (((w.alloc (.cells #[.int .i64 P, .slice ja jn jc, .slice oa m oc] 81)).alloc (.cells #[.int .i64 0] 3)).alloc (.cells #[.int .i64 0] 3)) (.bool false) 4
  simp only [World.size_alloc] at c1 c2 c3
  have hb4 : Box4 ((((w.alloc (.cells #[.int .i64 P, .slice ja jn jc, .slice oa m oc] 81)).alloc (.cells #[.int .i64 0] 3)).alloc (.cells #[.int .i64 0] 3)).alloc (.cells #[.bool false] 4)) w.heap.size (.int .i64 P) (.slice ja jn jc) (.slice oa m oc) (.int .i64 0) (.int .i64 0) (.bool false) :=
    ⟨((c0.alloc _).alloc _).alloc _, (c1.alloc _).alloc _, c2.alloc _, c3⟩
  have hB0 : Below w.heap.size w ((((w.alloc (.cells #[.int .i64 P, .slice ja jn jc, .slice oa m oc] 81)).alloc (.cells #[.int .i64 0] 3)).alloc (.cells #[.int .i64 0] 3)).alloc (.cells #[.bool false] 4)) :=
    ((((Below.refl _ w).alloc (Nat.le_refl _) _).alloc (by simp) _).alloc (by simp; omega) _).alloc (by simp; omega) _
  have hb4' := Lib.hid hb4
  have hB0' := Lib.hid hB0
  have hsz : ((((w.alloc (.cells #[.int .i64 P, .slice ja jn jc, .slice oa m oc] 81)).alloc (.cells #[.int .i64 0] 3)).alloc (.cells #[.int .i64 0] 3)).alloc (.cells #[.bool false] 4)).heap.size = w.heap.size + 4 := by simp
  have hsz' := Lib.hid hsz
  clear c0 c1 c2 c3 hb4 hB0 hsz
  gi_wp2
  obtain ⟨W0, hW0⟩ : ∃ W0, ((((w.alloc (.cells #[.int .i64 P, .slice ja jn jc, .slice oa m oc] 81)).alloc (.cells #[.int .i64 0] 3)).alloc (.cells #[.int .i64 0] 3)).alloc (.cells #[.bool false] 4)) = W0 := ⟨_, rfl⟩
  rw [hW0] at hb4' hB0' hsz' ⊢
  clear hW0
  have hsz := hsz'.out
  refine wpIn_rangeFunc_ownF rfl (by omega) (gf := 64) (lb := #[]) rfl trivial (enters_of Try.func64 (by kernel_rfl) rfl)
    (intervals64_stops Fence.wide _ trivial rfl (by omega) W0) (fun _ _ => trivial) (fun _ _ _ _ _ _ _ _ => trivial) (Below.refl _ _) (fun _ => rfl)
    (fun pre W => (Box4 W w.heap.size (.int .i64 P) (.slice ja jn jc) (.slice oa m oc) (.int .i64 0) (.int .i64 0) (.bool false) ∧ Below w.heap.size w W) ∧ NoneIn P js pre)
    (fun c pre W => (c = .ret ∧ ∃ p0, ∃ x : Ivl, pre = p0 ++ [x] ∧ NoneIn P js p0 ∧ ovB P js (x.1.1 : Int) (x.1.2 : Int) = true ∧ Box4 W w.heap.size (.int .i64 P) (.slice ja jn jc) (.slice oa m oc) (.int .i64 (x.1.1 : Int)) (.int .i64 (x.1.2 : Int)) (.bool true)) ∧ Below w.heap.size w W)
    ?hI ?hIx ⟨⟨hb4'.out, hB0'.out⟩, fun p hp => by simp at hp⟩
    (fun x => { tmps := #[.agg #[.int .i64 P, .slice ja jn jc, .slice oa m oc], .pointer (some ⟨w.heap.size, 0, none⟩), .pointer (some ⟨w.heap.size + 1, 0, none⟩), .pointer (some ⟨w.heap.size + 1 + 1, 0, none⟩), .pointer (some ⟨w.heap.size + 1 + 1 + 1, 0, none⟩), .int .i64 (x.1.1 : Int), .int .i64 (x.1.2 : Int), .int .i64 (x.1.1 : Int), .int .i64 (x.1.2 : Int),
      undef, undef, undef, undef, undef, undef], defers := [] }) ?assign ?body ?done ?stop
  case hI =>
    exact OwnFrom.and (OwnFrom.and (fun s A B row hs hg hr => hs.kept hg (fun r e => (hr r e).2)) (ownFrom_below (Nat.le_refl _) (by omega))) (ownFrom_pure _ _)
  case hIx =>
    refine fun c => OwnFrom.and (fun s A B row hs hg hr => ?_) (ownFrom_below (Nat.le_refl _) (by omega))
    obtain ⟨e0, p0, x, e, h1, h2, h3⟩ := hs
    exact ⟨e0, p0, x, e, h1, h2, h3.kept hg (fun r e => (hr r e).2)⟩
  case assign =>
    intro l x W K hK
    gi_wp2
    exact hK
  case body =>
    rintro l pre x W ⟨⟨hbx, hB⟩, hno⟩ hlt
    have hbx' := Lib.hid hbx
    have hws := Lib.hid (show w.heap.size + 1 + 1 + 1 < W.heap.size by
      obtain ⟨o, ho, _⟩ := cells_of_cell hbx.2.2.2.1
      exact (Array.getElem?_eq_some_iff.1 ho).1)
    obtain ⟨⟨d0, d1, d2⟩, -, -, -⟩ := hbx
    have hcall := Lib.hid (fun (W : World) (hb' : Below w.heap.size w W) => hov.out W hb' x)
    obtain ⟨d, hd⟩ : ∃ d, ovB P js (x.1.1 : Int) (x.1.2 : Int) = d := ⟨_, rfl⟩
    rw [hd] at hcall
    have hd' := Lib.hid hd
    have hno' := Lib.hid hno
    have hB' := Lib.hid hB
    clear hd hno hB hov
    cases d with
    | false =>
      gi_wp2_with (refine ⟨trivial, ?_⟩; gi_at_call 65; refine (CallsIn.inRound l (callsIn_wide.2 (hcall.out _ (by first | exact hB'.out | exact hB'.out.drew)))).mono ?_; rintro e w2 ⟨rfl, hb2⟩)
      exact ⟨keepsO_below hb2, trivial, ⟨hbx'.out.below hb2 hws.out, below_call hB'.out hb2⟩, noneIn_snoc hno'.out hd'.out⟩
    | true =>
      gi_wp2_with (refine ⟨trivial, ?_⟩; gi_at_call 65; refine (CallsIn.inRound l (callsIn_wide.2 (hcall.out _ (by first | exact hB'.out | exact hB'.out.drew)))).mono ?_; rintro e w2 ⟨rfl, hb2⟩; have hx4 := Lib.hid (hbx'.out.below hb2 hws.out); obtain ⟨-, ⟨e1, f1⟩, ⟨e2, f2⟩, ⟨e3, f3⟩⟩ := hx4.out)
      exact ⟨(keepsO_below hb2).trans (((KeepsOthers.setCell _ _ _).trans (KeepsOthers.setCell _ _ _)).trans (KeepsOthers.setCell _ _ _)), ⟨rfl, pre, x, rfl, hno'.out, hd'.out, hx4.out.stored⟩, (((below_call hB'.out hb2).setCell (p := ⟨w.heap.size + 1, 0, none⟩) (Nat.le_succ _) _).setCell (p := ⟨w.heap.size + 1 + 1, 0, none⟩) (by simp; omega) _).setCell (p := ⟨w.heap.size + 1 + 1 + 1, 0, none⟩) (by simp; omega) _⟩
  case done =>
    rintro D ys W hD hcov ⟨⟨hbx, hB⟩, hno⟩ hK
    have hnb := Lib.hid (none_all hno hcov)
    have hbx' := Lib.hid hbx
    have hB' := Lib.hid hB
    obtain ⟨-, ⟨e1, f1⟩, ⟨e2, f2⟩, ⟨e3, f3⟩⟩ := hbx
    clear hno hcov hB hov
    gi_wp2
    have hK' := (((KeepsOthers.setCell W ⟨w.heap.size + 1, 0, none⟩ (.int .i64 0)).trans (KeepsOthers.setCell _ ⟨w.heap.size + 1 + 1, 0, none⟩ (.int .i64 0))).trans (KeepsOthers.setCell _ ⟨w.heap.size + 1 + 1 + 1, 0, none⟩ (.bool false))).same D _ hK rfl
    refine ⟨by simp, .inl ⟨_, _, rfl, run_takeDeferred hK', ?_⟩⟩
    obtain ⟨-, ⟨g1, -⟩, ⟨g2, -⟩, ⟨g3, -⟩⟩ := (hbx'.out.stored (f' := .int .i64 0) (t' := .int .i64 0) (ok' := .bool false)).kept (grownBy_putObj' _ D (.deferred none)) (fun r e => by cases e; exact ⟨_, hK', rfl⟩)
    refine ⟨.tuple #[.int .i64 0, .int .i64 0, .bool false], ?_, _, _, _, rfl, .inr ⟨rfl, rfl, rfl, hnb.out⟩, ((((hB'.out.setCell (p := ⟨w.heap.size + 1, 0, none⟩) (Nat.le_succ _) _).setCell (p := ⟨w.heap.size + 1 + 1, 0, none⟩) (by simp; omega) _).setCell (p := ⟨w.heap.size + 1 + 1 + 1, 0, none⟩) (by simp; omega) _).trans (belowK_b (w := w) (Nat.le_refl _) _ D _ _ (by omega) hK' rfl rfl))⟩
    simp [results, Try.f46, go_sem, g1, g2, g3]
  case stop =>
    rintro D c pre W hD ⟨p0', x', hpe, hcov⟩ ⟨⟨rfl, p0, x, rfl, hno, hov', hbx⟩, hB⟩ hK
    obtain ⟨rfl, hxx⟩ := List.append_inj' hpe rfl
    obtain rfl : x = x' := List.head_eq_of_cons_eq hxx
    have hnb := Lib.hid (none_of_cov hno hcov)
    have hov2 := Lib.hid hov'
    have hbx' := Lib.hid hbx
    have hB' := Lib.hid hB
    clear hno hcov hov' hbx hB hov hpe hxx
    gi_wp2
    refine ⟨by simp, .inl ⟨_, _, rfl, run_takeDeferred hK, ?_⟩⟩
    obtain ⟨-, ⟨g1, -⟩, ⟨g2, -⟩, ⟨g3, -⟩⟩ := hbx'.out.kept (grownBy_putObj' _ D (.deferred none)) (fun r e => by cases e; exact ⟨_, hK, rfl⟩)
    refine ⟨.tuple #[.int .i64 (x.1.1 : Int), .int .i64 (x.1.2 : Int), .bool true], ?_, _, _, _, rfl, .inl ⟨rfl, _, _, rfl, rfl, x.2.1, x.2.2, hov2.out, hnb.out⟩, hB'.out.trans (belowK_b (w := w) (Nat.le_refl _) W D _ _ (by omega) hK rfl rfl)⟩
    simp [results, Try.f46, go_sem, g1, g2, g3]
end Go.Proofs.Ytjkbhdlbomcbeaa

namespace Go.Proofs.Ytjkbhdlbomcbeaa
open Go.RowKit Go.Shelf Shf

/-- What Overfull answers. -/
def OverAns (P : Int) (js : List J) (os : List (Int × Int)) (f t err : Int) : Prop :=
  (validB P js os = false ∧ f = 0 ∧ t = 0 ∧ err = 1) ∨ (validB P js os = true ∧ ((OverIs P js 0 0 false ∧ f = 0 ∧ t = 0 ∧ err = 5) ∨ (OverIs P js f t true ∧ err = 0)))
def Over26 (w : World) (P : Int) (js : List J) (os : List (Int × Int)) (e : Ending) (w' : World) : Prop := ∃ f t err, e = .returned (.tuple #[.int .i64 f, .int .i64 t, .int .i64 err]) ∧ OverAns P js os f t err ∧ Below w.heap.size w w'
end Go.Proofs.Ytjkbhdlbomcbeaa

namespace Go.Proofs.Ytjkbhdlbomcbeaa
open Go.RowKit Go.Shelf Shf

def js1 : List J := [⟨0, 4, 2, 2⟩, ⟨0, 4, 2, 2⟩]
def js2 : List J := [⟨0, 2, 2, 1⟩, ⟨0, 4, 2, 1⟩]
theorem load1 (S : Nat → Int) (t : Int) : loadAt (shOf 2 js1 []) S t = act ⟨0, 4, 2, 2⟩ (S 0) t + act ⟨0, 4, 2, 2⟩ (S 1) t := by
  show sm 2 _ = _
  simp only [sm]
  show 0 + act ⟨0, 4, 2, 2⟩ (S 0) t + act ⟨0, 4, 2, 2⟩ (S 1) t = _
  omega
theorem range1 {S : Nat → Int} (h : Sched (shOf 2 js1 []) S) : (0 ≤ S 0 ∧ S 0 ≤ 2) ∧ (0 ≤ S 1 ∧ S 1 ≤ 2) ∧ ∀ t, 0 ≤ t → t < 24 → ¬ ((S 0 ≤ t ∧ t < S 0 + 2) ∧ (S 1 ≤ t ∧ t < S 1 + 2)) := by
  have a := h.range 0 (by decide)
  have b := h.range 1 (by decide)
  have e0 : (shOf 2 js1 []).job 0 = ⟨0, 4, 2, 2⟩ := rfl
  have e1 : (shOf 2 js1 []).job 1 = ⟨0, 4, 2, 2⟩ := rfl
  rw [e0] at a
  rw [e1] at b
  simp only [lat] at a b
  refine ⟨by omega, by omega, fun t h1 h2 h3 => ?_⟩
  have := h.load t h1 h2
  rw [load1] at this
  unfold act at this
  rw [if_pos h3.1, if_pos h3.2] at this
  have hp : (shOf 2 js1 []).P = 2 := rfl
  rw [hp] at this
  simp at this
theorem first1 : First (shOf 2 js1 []) (fun i => ([0, 2] : List Int).getD i 0) := by
  refine ⟨⟨fun i hi => ?_, fun t h1 h2 => ?_, fun o ho => by cases ho⟩, fun S hS => ?_⟩
  · have : i = 0 ∨ i = 1 := by have : (shOf 2 js1 []).n = 2 := rfl; omega
    rcases this with rfl | rfl
    · exact ⟨by decide, by decide⟩
    · exact ⟨by decide, by decide⟩
  · rw [load1]
    show act ⟨0, 4, 2, 2⟩ 0 t + act ⟨0, 4, 2, 2⟩ 2 t ≤ 2
    unfold act
    simp only
    split <;> split <;> omega
  · obtain ⟨a, b, c⟩ := range1 hS
    by_cases h0 : S 0 = 0
    · have hs1 : S 1 = 2 := by
        have c0 := c 0 (by omega) (by omega)
        have c1 := c 1 (by omega) (by omega)
        omega
      refine .inl fun i hi => ?_
      have : i = 0 ∨ i = 1 := by have : (shOf 2 js1 []).n = 2 := rfl; omega
      rcases this with rfl | rfl
      · exact h0.symm
      · exact hs1.symm
    · exact .inr ⟨0, by decide, fun j hj => by omega, by show (0 : Int) < S 0; omega⟩
theorem two_list {xs : List Int} (hl : xs.length = 2) (h0 : xs.getD 0 0 = 0) (h1 : xs.getD 1 0 = 2) : xs = [0, 2] := by
  match xs, hl with
  | [a, b], _ =>
    simp at h0 h1
    rw [h0, h1]
theorem firstIs1 {xs : List Int} {err : Int} (h : FirstAns 2 js1 [] xs err) : xs = [0, 2] ∧ err = 0 := by
  rcases h with ⟨h, _⟩ | ⟨_, ⟨h, _⟩ | ⟨h1, h2, h3⟩⟩
  · exact absurd h (by decide)
  · exact absurd ⟨_, first1.is⟩ h
  · have := first_only h2 first1
    exact ⟨two_list h1 (this 0 (by decide)) (this 1 (by decide)), h3⟩
theorem shortIs1 {xs : List Int} {en err : Int} (h : ShortAns 2 js1 [] xs en err) : xs = [0, 2] ∧ en = 4 ∧ err = 0 := by
  rcases h with ⟨h, _⟩ | ⟨_, ⟨h, _⟩ | ⟨m, hm, he, h1, h2, h3⟩⟩
  · exact absurd h (by decide)
  · exact absurd ⟨_, first1.is⟩ h
  · have h4 : m = 4 := by
      obtain ⟨_, ⟨S, hS⟩, hno⟩ := hm
      have hle : m ≤ 4 := Nat.le_of_not_lt fun h => hno 4 h ⟨_, (show Sched (ending (shOf 2 js1 []) 4) _ from first1.is)⟩
      obtain ⟨hS1, hS2⟩ := (sched_ending (fun o ho => by cases ho) S).1 hS
      obtain ⟨a, b, c⟩ := range1 hS1
      have e0 := hS2 0 (by decide)
      have e1 := hS2 1 (by decide)
      rw [show ((shOf 2 js1 []).job 0).l = 2 from rfl] at e0
      rw [show ((shOf 2 js1 []).job 1).l = 2 from rfl] at e1
      have c1 := c 1 (by omega) (by omega)
      omega
    subst h4
    have h2' : First (shOf 2 js1 []) (fun i => xs.getD i 0) := h2
    have := first_only h2' first1
    exact ⟨two_list h1 (this 0 (by decide)) (this 1 (by decide)), he, h3⟩
theorem none2 : ¬ ∃ S, Sched (shOf 1 js2 [(1, 0)]) S := by
  rintro ⟨S, hS⟩
  have a := hS.range 0 (by decide)
  have b := hS.range 1 (by decide)
  have c := hS.order (1, 0) (by decide)
  have e0 : (shOf 1 js2 [(1, 0)]).job 0 = ⟨0, 2, 2, 1⟩ := rfl
  have e1 : (shOf 1 js2 [(1, 0)]).job 1 = ⟨0, 4, 2, 1⟩ := rfl
  rw [e0] at a
  rw [e1] at b
  simp only [e1, lat] at a b c
  omega
end Go.Proofs.Ytjkbhdlbomcbeaa

namespace Go.Proofs.Ytjkbhdlbomcbeaa
open Go.RowKit Go.Shelf Shf

theorem jobs2_new (V : World) (a b : J) : ReadsJ (V.alloc (.cells #[.int .i64 a.f, .int .i64 a.t, .int .i64 a.l, .int .i64 a.p, .int .i64 b.f, .int .i64 b.t, .int .i64 b.l, .int .i64 b.p] 56)) (.slice (some ⟨V.heap.size, 0, none⟩) 2 2) [a, b] := by
  refine ⟨_, 2, rfl, by simp, fun _ => ⟨_, rfl, by simp, fun j u hj => ?_⟩⟩
  rw [World.cell?_alloc_at (hn := rfl), ← Array.getElem?_toList]
  exact hj
theorem orders1_new (V : World) (a b : Int) : ReadsO (V.alloc (.cells #[.int .i64 a, .int .i64 b] 78)) (.slice (some ⟨V.heap.size, 0, none⟩) 1 1) [(a, b)] := by
  refine ⟨_, 1, rfl, by simp, fun _ => ⟨_, rfl, by simp, fun j u hj => ?_⟩⟩
  rw [World.cell?_alloc_at (hn := rfl), ← Array.getElem?_toList]
  exact hj
theorem orders_nil (V : World) : ReadsO V (.slice none 0 0) [] := ⟨none, 0, rfl, by simp, fun h => absurd rfl h⟩
def FirstL (w : World) (xs : List Int) (e : Ending) (w' : World) : Prop := ∃ a c, e = .returned (.tuple #[.slice a 2 c, .int .i64 0]) ∧ Reads w' (.slice a 2 c) xs ∧ Below w.heap.size w w'
def ShortL (w : World) (xs : List Int) (e : Ending) (w' : World) : Prop := ∃ a c, e = .returned (.tuple #[.slice a 2 c, .int .i64 4, .int .i64 0]) ∧ Reads w' (.slice a 2 c) xs ∧ Below w.heap.size w w'
theorem firstL {w : World} {v : Value} (h : ShV w v 2 js1 []) : Calls Try.prog 21 #[v] w (FirstL w [0, 2]) := by
  refine (first21 h (by decide) (by decide)).mono ?_
  rintro e w' ⟨u, xs, err, rfl, hI, hb, ha⟩
  obtain ⟨rfl, rfl⟩ := firstIs1 ha
  have hr := hI.shape
  obtain ⟨a, c, rfl, _⟩ := id hr
  exact ⟨a, c, rfl, hr, hb⟩
theorem shortL {w : World} {v : Value} (h : ShV w v 2 js1 []) : Calls Try.prog 22 #[v] w (ShortL w [0, 2]) := by
  refine (short22 h (by decide) (by decide)).mono ?_
  rintro e w' ⟨u, xs, en, err, rfl, hI, hb, ha⟩
  obtain ⟨rfl, rfl, rfl⟩ := shortIs1 ha
  have hr := hI.shape
  obtain ⟨a, c, rfl, _⟩ := id hr
  exact ⟨a, c, rfl, hr, hb⟩
def RefuseL (w : World) (e : Ending) (w' : World) : Prop := ∃ a c, e = .returned (.tuple #[.slice a 1 c, .int .i64 0]) ∧ ReadsNd w' (.slice a 1 c) [⟨3, (0 : Nat), 0, 0, 0, 0⟩] ∧ Below w.heap.size w w'
theorem refuseL {w : World} {v : Value} (h : ShV w v 1 js2 [(1, 0)]) : Calls Try.prog 30 #[v] w (RefuseL w) := by
  refine (refuseLate30 (k := 0) h (by decide) (by decide) (by decide) (by decide) (by decide) (fun j hj => by omega) none2).mono ?_
  rintro e w' ⟨u, rfl, hO, hb⟩
  have hr := hO.reads
  obtain ⟨a, c, rfl, _⟩ := id hr
  exact ⟨a, c, rfl, hr, hb⟩
theorem provesL {w : World} {v pv : Value} (h : ShV w v 1 js2 [(1, 0)]) (hp : ReadsNd w pv [⟨3, (0 : Nat), 0, 0, 0, 0⟩]) : Calls Try.prog 32 #[v, pv] w fun e w' => e = .returned (.tuple #[.bool true, .int .i64 0]) ∧ Below w.heap.size w w' :=
  provesLate32 (k := 0) h (by decide) (by decide) (by decide) (by decide) (by decide) hp
theorem sameT {w : World} {u v : Value} (hu : Reads w u [0, 2]) (hv : Reads w v [0, 2]) : Calls Try.prog 25 #[u, v] w fun e w' => e = .returned (.bool true) ∧ Below w.heap.size w w' := by
  have := same25 hu hv (by decide)
  exact this
theorem sh1 (w : World) : ShV ((w.alloc (.cells #[.int .i64 0, .int .i64 4, .int .i64 2, .int .i64 2, .int .i64 0, .int .i64 4, .int .i64 2, .int .i64 2] 56)).alloc (.cells #[.int .i64 2, .slice (some ⟨w.heap.size, 0, none⟩) 2 2, .slice none 0 0] 25)) (.agg #[.int .i64 2, .slice (some ⟨w.heap.size, 0, none⟩) 2 2, .slice none 0 0]) 2 js1 [] :=
  ⟨_, _, rfl, (jobs2_new w ⟨0, 4, 2, 2⟩ ⟨0, 4, 2, 2⟩).below (below_alloc1 _ _), orders_nil _⟩
theorem sh2 (V : World) : ShV (((V.alloc (.cells #[.int .i64 0, .int .i64 2, .int .i64 2, .int .i64 1, .int .i64 0, .int .i64 4, .int .i64 2, .int .i64 1] 56)).alloc (.cells #[.int .i64 1, .int .i64 0] 78)).alloc (.cells #[.int .i64 1, .slice (some ⟨V.heap.size, 0, none⟩) 2 2, .slice (some ⟨V.heap.size + 1, 0, none⟩) 1 1] 25)) (.agg #[.int .i64 1, .slice (some ⟨V.heap.size, 0, none⟩) 2 2, .slice (some ⟨V.heap.size + 1, 0, none⟩) 1 1]) 1 js2 [(1, 0)] := by
  have hj := ((jobs2_new V ⟨0, 2, 2, 1⟩ ⟨0, 4, 2, 1⟩).below (below_alloc1 _ (.cells #[.int .i64 1, .int .i64 0] 78))).below (below_alloc1 _ (.cells #[.int .i64 1, .slice (some ⟨V.heap.size, 0, none⟩) 2 2, .slice (some ⟨V.heap.size + 1, 0, none⟩) 1 1] 25))
  have ho := (orders1_new (V.alloc (.cells #[.int .i64 0, .int .i64 2, .int .i64 2, .int .i64 1, .int .i64 0, .int .i64 4, .int .i64 2, .int .i64 1] 56)) 1 0).below (below_alloc1 _ (.cells #[.int .i64 1, .slice (some ⟨V.heap.size, 0, none⟩) 2 2, .slice (some ⟨V.heap.size + 1, 0, none⟩) 1 1] 25))
  rw [World.size_alloc] at ho
  exact ⟨_, _, rfl, hj, ho⟩
theorem sh2b (V : World) : Below V.heap.size V (((V.alloc (.cells #[.int .i64 0, .int .i64 2, .int .i64 2, .int .i64 1, .int .i64 0, .int .i64 4, .int .i64 2, .int .i64 1] 56)).alloc (.cells #[.int .i64 1, .int .i64 0] 78)).alloc (.cells #[.int .i64 1, .slice (some ⟨V.heap.size, 0, none⟩) 2 2, .slice (some ⟨V.heap.size + 1, 0, none⟩) 1 1] 25)) := ((below_alloc1 _ _).alloc (by simp) _).alloc (by simp; omega) _
theorem sh2t (V : World) : Three (((V.alloc (.cells #[.int .i64 0, .int .i64 2, .int .i64 2, .int .i64 1, .int .i64 0, .int .i64 4, .int .i64 2, .int .i64 1] 56)).alloc (.cells #[.int .i64 1, .int .i64 0] 78)).alloc (.cells #[.int .i64 1, .slice (some ⟨V.heap.size, 0, none⟩) 2 2, .slice (some ⟨V.heap.size + 1, 0, none⟩) 1 1] 25)) (V.heap.size + 2) (.int .i64 1) (.slice (some ⟨V.heap.size, 0, none⟩) 2 2) (.slice (some ⟨V.heap.size + 1, 0, none⟩) 1 1) := by
  have h := Three.new ((V.alloc (.cells #[.int .i64 0, .int .i64 2, .int .i64 2, .int .i64 1, .int .i64 0, .int .i64 4, .int .i64 2, .int .i64 1] 56)).alloc (.cells #[.int .i64 1, .int .i64 0] 78)) (.int .i64 1) (.slice (some ⟨V.heap.size, 0, none⟩) 2 2) (.slice (some ⟨V.heap.size + 1, 0, none⟩) 1 1) 25
  rw [World.size_alloc, World.size_alloc] at h
  exact h
theorem sh2s (V : World) : V.heap.size + 2 < (((V.alloc (.cells #[.int .i64 0, .int .i64 2, .int .i64 2, .int .i64 1, .int .i64 0, .int .i64 4, .int .i64 2, .int .i64 1] 56)).alloc (.cells #[.int .i64 1, .int .i64 0] 78)).alloc (.cells #[.int .i64 1, .slice (some ⟨V.heap.size, 0, none⟩) 2 2, .slice (some ⟨V.heap.size + 1, 0, none⟩) 1 1] 25)).heap.size := by rw [World.size_alloc, World.size_alloc, World.size_alloc]; omega
set_option maxHeartbeats 4000000 in
set_option maxRecDepth 100000 in
theorem lives18 {w : World} : Calls Try.prog 18 #[] w fun e w' => e = .returned (.bool true) ∧ Below w.heap.size w w' := by
  have hsh := Lib.hid (sh1 w)
  have ht := Lib.hid (Three.new (w.alloc (.cells #[.int .i64 0, .int .i64 4, .int .i64 2, .int .i64 2, .int .i64 0, .int .i64 4, .int .i64 2, .int .i64 2] 56)) (.int .i64 2) (.slice (some ⟨w.heap.size, 0, none⟩) 2 2) (.slice none 0 0) 25)
  have hb1 := Lib.hid (show Below w.heap.size w ((w.alloc (.cells #[.int .i64 0, .int .i64 4, .int .i64 2, .int .i64 2, .int .i64 0, .int .i64 4, .int .i64 2, .int .i64 2] 56)).alloc (.cells #[.int .i64 2, .slice (some ⟨w.heap.size, 0, none⟩) 2 2, .slice none 0 0] 25)) from (below_alloc1 w _).alloc (by simp) _)
  rw [World.size_alloc] at ht
  go_enter Try.func18, Try.ntmps18
  go_upto_region 2 with fail
  obtain ⟨W1, hW1⟩ : ∃ W1, W1 = (w.alloc (.cells #[.int .i64 0, .int .i64 4, .int .i64 2, .int .i64 2, .int .i64 0, .int .i64 4, .int .i64 2, .int .i64 2] 56)).alloc (.cells #[.int .i64 2, .slice (some ⟨w.heap.size, 0, none⟩) 2 2, .slice none 0 0] 25) := ⟨_, rfl⟩
  have hz1 := Lib.hid (show w.heap.size + 1 < W1.heap.size by rw [hW1, World.size_alloc, World.size_alloc]; omega)
  rw [← hW1] at hsh ht hb1 ⊢
  have hf1 := Lib.hid (firstL hsh.out)
  obtain ⟨⟨x0, x1, x2⟩, -⟩ := ht.out
  clear hW1
  go_wp2_with (
    first
    | (go_at_call 21; refine (hf1.out).mono ?_; rintro e w2 ⟨a1, c1, rfl, hr1, hb2⟩
       have hr1' := Lib.hid hr1
       have hb2' := Lib.hid (below_call hb1.out hb2)
       have ht2 := Lib.hid (ht.out.keep hb2 hz1.out)
       have hz2 := Lib.hid (Nat.lt_of_lt_of_le hz1.out hb2.size)
       obtain ⟨⟨y0, y1, y2⟩, -⟩ := ht2.out
       have hs2 := Lib.hid (shortL (hsh.out.below hb2))
       clear hr1 hb2)
    | (go_at_call 22; refine (hs2.out).mono ?_; rintro e w3 ⟨a2, c2, rfl, hr2, hb3⟩
       have hr2' := Lib.hid (hr2.below (sh2b w3))
       have hr13 := Lib.hid ((hr1'.out.below hb3).below (sh2b w3))
       have hb3' := Lib.hid (below_call (below_call hb2'.out hb3) (sh2b w3))
       have hsh2 := Lib.hid (sh2 w3)
       have ht3 := Lib.hid (sh2t w3)
       have hz3 := Lib.hid (sh2s w3)
       have hrf := Lib.hid (refuseL hsh2.out)
       clear hr2 hb3)
    | (go_at_call 30; refine (hrf.out).mono ?_; rintro e w5 ⟨a3, c3, rfl, hr3, hb5⟩
       have hr25 := Lib.hid (hr2'.out.below hb5)
       have hr15 := Lib.hid (hr13.out.below hb5)
       have hb5' := Lib.hid (below_call hb3'.out hb5)
       obtain ⟨⟨z0, z1, z2⟩, -⟩ := ht3.out.keep hb5 hz3.out
       have hpv := Lib.hid (provesL (hsh2.out.below hb5) hr3)
       clear hr3 hb5)
    | (go_at_call 32; refine (hpv.out).mono ?_; rintro e w6 ⟨rfl, hb6⟩
       have hr26 := Lib.hid (hr25.out.below hb6)
       have hr16 := Lib.hid (hr15.out.below hb6)
       have hb6' := Lib.hid (below_call (below_call hb5'.out hb6) (below_alloc1 w6 (.cells #[.int .i64 0, .int .i64 2] 3)))
       have hsm1 := Lib.hid (sameT (hr16.out.below (below_alloc1 w6 (.cells #[.int .i64 0, .int .i64 2] 3))) (lit2 w6 0 2))
       have hr27 := Lib.hid (hr26.out.below (below_alloc1 w6 (.cells #[.int .i64 0, .int .i64 2] 3)))
       clear hb6)
    | (go_at_call_of 25 (Value.slice a1 2 c1); refine (hsm1.out).mono ?_; rintro e w7 ⟨rfl, hb7⟩
       have hr28 := Lib.hid (hr27.out.below hb7)
       have hb7' := Lib.hid (below_call (below_call hb6'.out hb7) (below_alloc1 w7 (.cells #[.int .i64 0, .int .i64 2] 3)))
       have hsm2 := Lib.hid (sameT (hr28.out.below (below_alloc1 w7 (.cells #[.int .i64 0, .int .i64 2] 3))) (lit2 w7 0 2))
       clear hb7)
    | (go_at_call_of 25 (Value.slice a2 2 c2); refine (hsm2.out).mono ?_; rintro e w8 ⟨rfl, hb8⟩
       have hb8' := Lib.hid (below_call hb7'.out hb8)
       clear hb8))
  go_ret
  exact ⟨rfl, hb8'.out⟩
end Go.Proofs.Ytjkbhdlbomcbeaa

namespace Go.Proofs.Ytjkbhdlbomcbeaa
open Go.RowKit Go.Shelf Shf

/-- The two copies that a law begins with. -/
def Cut1 (w : World) (P : Int) (js : List J) (os : List (Int × Int)) (xs : List Int) (p q : Value) (wx : World) : Prop :=
  ∃ b ja jc oa oc, p = .pointer (some ⟨b, 0, none⟩) ∧ w.heap.size ≤ b ∧ Three wx b (.int .i64 P) (.slice ja (js.take 7).length jc) (.slice oa (os.take 21).length oc) ∧ b < wx.heap.size ∧ OwnJ wx w.heap.size (.slice ja (js.take 7).length jc) (js.take 7) ∧ OwnO wx w.heap.size (.slice oa (os.take 21).length oc) (os.take 21) ∧ Ints wx w.heap.size q (xs.take 7) ∧ Below w.heap.size w wx
theorem own_set_other {w : World} {B B2 e e2 z z2 n n2 g c : Nat} {u : Value} {xs ys : List Value} (hT : w.ownsRow B e z (.slice (some ⟨g, 0, none⟩) n c) n xs) (h : w.ownsRow B2 e2 z2 u n2 ys) (hne : e2 ≠ e) (k : Nat) (x : Value) : (w.setCell ⟨g, k, none⟩ x).ownsRow B2 e2 z2 u n2 ys := by
  refine ⟨h.1, ?_⟩
  rcases h.2 with h0 | ⟨g', cap, cur, rfl, hB, hg, rest⟩
  · exact .inl h0
  · refine .inr ⟨g', cap, cur, rfl, hB, ?_, rest⟩
    rw [Below.heap_setCell w ⟨g, k, none⟩ x g' ?_]
    · exact hg
    · rintro rfl
      rcases hT.2 with ⟨h1, _⟩ | ⟨g2, cap2, cur2, h1, _, hg2, _⟩
      · simp at h1
      · simp only [Value.slice.injEq, Option.some.injEq, Addr.mk.injEq, and_true, true_and] at h1
        obtain ⟨rfl, rfl⟩ := h1
        rw [hg] at hg2
        simp at hg2
        exact hne hg2.2
theorem own_len {w : World} {B e sz n : Nat} {v : Value} {xs : List Value} (h : w.ownsRow B e sz v n xs) : ∃ ao m c, v = .slice ao m c ∧ m = n := by
  obtain ⟨ao, c, e, _⟩ := own_cells h
  exact ⟨ao, n, c, e, rfl⟩
/-- Load refuses. -/
def LoadBad (w : World) (err : Int) (e : Ending) (w' : World) : Prop := ∃ a c, e = .returned (.tuple #[.slice a 0 c, .int .i64 err]) ∧ Below w.heap.size w w'
def LoadOk (w : World) (ys : List Int) (e : Ending) (w' : World) : Prop := ∃ a c, e = .returned (.tuple #[.slice a ys.length c, .int .i64 0]) ∧ Reads w' (.slice a ys.length c) ys ∧ Below w.heap.size w w'
theorem valid17' {w : World} {v : Value} {P : Int} {js : List J} {os : List (Int × Int)} (h : ShV w v P js os) (hj7 : js.length ≤ 7) (ho21 : os.length ≤ 21) {d : Bool} (hd : validB P js os = d) :
    Calls Try.prog 17 #[v] w fun e w' => e = .returned (.bool d) ∧ Below w.heap.size w w' := by subst hd; exact valid17 h hj7 ho21
end Go.Proofs.Ytjkbhdlbomcbeaa

namespace Go.Proofs.Ytjkbhdlbomcbeaa
open Go.RowKit Go.Shelf Shf

theorem over_some (P : Int) (js : List J) : (∃ f t, OverIs P js f t true) ∨ OverIs P js 0 0 false := by
  by_cases h : ∃ a b : Nat, a < b ∧ b ≤ 24 ∧ ovB P js a b = true
  · have hd : ∀ n : Nat, (∃ a b : Nat, a * 25 + b ≤ n ∧ a < b ∧ b ≤ 24 ∧ ovB P js a b = true) → ∃ f t, OverIs P js f t true := by
      intro n
      induction n with
      | zero => rintro ⟨a, b, h0, h1, _⟩; omega
      | succ n ih =>
        intro hn
        by_cases hs : ∃ a b : Nat, a * 25 + b ≤ n ∧ a < b ∧ b ≤ 24 ∧ ovB P js a b = true
        · exact ih hs
        · obtain ⟨a, b, h0, h1, h2, h3⟩ := hn
          refine ⟨a, b, .inl ⟨rfl, a, b, rfl, rfl, h1, h2, h3, fun x y g1 g2 g3 => ?_⟩⟩
          cases hc : ovB P js x y with
          | false => rfl
          | true => exact absurd ⟨x, y, by omega, g1, g2, hc⟩ hs
    obtain ⟨a, b, h1, h2, h3⟩ := h
    exact .inl (hd (a * 25 + b) ⟨a, b, Nat.le_refl _, h1, h2, h3⟩)
  · refine .inr (.inr ⟨rfl, rfl, rfl, fun x y g1 g2 _ => ?_⟩)
    cases hc : ovB P js x y with
    | false => rfl
    | true => exact absurd ⟨x, y, g1, g2, hc⟩ h
end Go.Proofs.Ytjkbhdlbomcbeaa
