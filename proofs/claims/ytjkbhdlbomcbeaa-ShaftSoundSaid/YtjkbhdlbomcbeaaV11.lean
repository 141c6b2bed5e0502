import Derived.Test.YtjkbhdlbomcbeaaV10
import Derived.Test.YtjkbhdlbomcbeaaV8
namespace Go.Proofs.Ytjkbhdlbomcbeaa
open Go.RowKit Go.Shelf Shf

/-- What all jobs need from `a` up to `b`. -/
def needS (js : List J) (a b : Int) (n : Nat) : Int := sm n fun i => needJ (js.getD i J0) a b
theorem needS_in {js : List J} (h : ∀ i, i < js.length → JobIn (js.getD i J0)) {a b : Int} (hab : a ≤ b) {n : Nat} (hn : n ≤ js.length) : 0 ≤ needS js a b n ∧ needS js a b n ≤ n * 480 :=
  sm_bound (by omega) n (fun i hi => needJ_in (h i (by omega)) hab)
set_option maxHeartbeats 4000000 in
set_option maxRecDepth 100000 in
theorem refNeed49 {w : World} {j : J} (h : JobIn j) {a b : Int} (ha : 0 ≤ a ∧ a ≤ 24) (hb : 0 ≤ b ∧ b ≤ 24) (hab : a ≤ b) :
    Calls Try.prog 49 #[.agg #[.int .i64 j.f, .int .i64 j.t, .int .i64 j.l, .int .i64 j.p], .int .i64 a, .int .i64 b] w fun e w' => e = .returned (.int .i64 (needJ j a b)) ∧ Below w.heap.size w w' := by
  have hin := needJ_in h hab
  obtain ⟨f, t, l, p⟩ := j
  unfold JobIn at h
  simp only at h ⊢
  obtain ⟨x, hx⟩ : ∃ x, x = max 0 (f + l - a) := ⟨_, rfl⟩
  obtain ⟨y, hy⟩ : ∃ y, y = max 0 (b - (t - l)) := ⟨_, rfl⟩
  have hneed : needJ ⟨f, t, l, p⟩ a b = p * min (min (min l (b - a)) x) y := by rw [hx, hy]; rfl
  obtain ⟨m, hm⟩ : ∃ m, m = min (min (min l (b - a)) x) y := ⟨_, rfl⟩
  rw [← hm] at hneed
  rw [hneed] at hin ⊢
  have hb0 := Lib.hid (below_alloc1 w (.cells #[.int .i64 f, .int .i64 t, .int .i64 l, .int .i64 p] 56))
  by_cases hx2 : 0 < f + l - a <;> by_cases hy2 : 0 < b - t + l
  · obtain rfl : x = f + l - a := by omega
    obtain rfl : y = b - t + l := by omega
    have hm4 := fun (W : World) => run_min4 (P := Try.prog) (w := W) #[3, 3, 3, 3] 3 l (b - a) (f + l - a) (b - t + l) m hm
    clear hx hy hneed hm
    go_enter Try.func49, Try.ntmps49
    go_wp2_with fail
    go_ret
    exact ⟨rfl, hb0.out⟩
  · obtain rfl : x = f + l - a := by omega
    obtain rfl : y = 0 := by omega
    have hm4 := fun (W : World) => run_min4 (P := Try.prog) (w := W) #[3, 3, 3, 3] 3 l (b - a) (f + l - a) 0 m hm
    clear hx hy hneed hm
    go_enter Try.func49, Try.ntmps49
    go_wp2_with fail
    go_ret
    exact ⟨rfl, hb0.out⟩
  · obtain rfl : x = 0 := by omega
    obtain rfl : y = b - t + l := by omega
    have hm4 := fun (W : World) => run_min4 (P := Try.prog) (w := W) #[3, 3, 3, 3] 3 l (b - a) 0 (b - t + l) m hm
    clear hx hy hneed hm
    go_enter Try.func49, Try.ntmps49
    go_wp2_with fail
    go_ret
    exact ⟨rfl, hb0.out⟩
  · obtain rfl : x = 0 := by omega
    obtain rfl : y = 0 := by omega
    have hm4 := fun (W : World) => run_min4 (P := Try.prog) (w := W) #[3, 3, 3, 3] 3 l (b - a) 0 0 m hm
    clear hx hy hneed hm
    go_enter Try.func49, Try.ntmps49
    go_wp2_with fail
    go_ret
    exact ⟨rfl, hb0.out⟩
def NeedsEnd (w : World) (js : List J) (a b : Int) (e : Ending) (w' : World) : Prop := e = .returned (.int .i64 (needS js a b js.length)) ∧ Below w.heap.size w w'
set_option maxHeartbeats 4000000 in
set_option maxRecDepth 100000 in
theorem needs48 {w : World} {v : Value} {P : Int} {js : List J} {os : List (Int × Int)} (h : ShV w v P js os) (h7 : js.length ≤ 7) (hj : ∀ i, i < js.length → JobIn (js.getD i J0)) {a b : Int} (ha : 0 ≤ a ∧ a ≤ 24) (hb : 0 ≤ b ∧ b ≤ 24) (hab : a ≤ b) :
    Calls Try.prog 48 #[v, .int .i64 a, .int .i64 b] w (NeedsEnd w js a b) := by
  obtain ⟨jv, ov, rfl, rj, ro⟩ := h
  obtain ⟨ja, jc, rfl, hjc, hjat⟩ := rj.at
  obtain ⟨oa, m, oc, rfl⟩ : ∃ a n c, ov = .slice a n c := by obtain ⟨a, c, e, _⟩ := ro; exact ⟨_, _, _, e⟩
  obtain ⟨n, hn⟩ : ∃ n, n = js.length := ⟨_, rfl⟩
  rw [← hn] at rj hjc hjat h7 ⊢
  have hn' := Lib.hid hn
  have hjat' := Lib.hid hjat
  have hj' := Lib.hid hj
  have hb0 := Lib.hid (below_alloc1 w (.cells #[.int .i64 P, .slice ja n jc, .slice oa m oc] 81))
  have ht0 := Lib.hid (Three.new w (.int .i64 P) (.slice ja n jc) (.slice oa m oc) 81)
  have hz0 := Lib.hid (show w.heap.size < (w.alloc (.cells #[.int .i64 P, .slice ja n jc, .slice oa m oc] 81)).heap.size by simp)
  clear hn hjat hj rj ro
  go_enter Try.func48, Try.ntmps48
  go_wp2_with fail
  obtain ⟨W1, hW1⟩ : ∃ W1, W1 = w.alloc (.cells #[.int .i64 P, .slice ja n jc, .slice oa m oc] 81) := ⟨_, rfl⟩
  rw [← hW1] at hb0 ht0 hz0 ⊢
  clear hW1
  go_loopw [7, 13] (fun sv iv wr => ∃ i : Nat, i ≤ n ∧ iv = .int .i64 i ∧ sv = .int .i64 (needS js a b i) ∧ Hid (Below W1.heap.size W1 wr)) (fun _ iv _ => n - (intOf iv).toNat)
  case atStart => exact ⟨0, Nat.zero_le _, rfl, rfl, Lib.hid (Below.refl _ _)⟩
  case round =>
    obtain ⟨i, hi, rfl, rfl, hB⟩ := hrel
    obtain ⟨wo, rfl⟩ : ∃ wo : World, wo = wr := ⟨_, rfl⟩
    have hBw := Lib.hid (below_call hb0.out hB.out)
    by_cases hin : i < n
    · obtain ⟨g, rfl, hg, k0, k1, k2, k3⟩ := hjat'.out i hin
      have d0 := (hBw.out.cell (p := ⟨g, i * 4, none⟩) hg).trans k0
      have d1 := (hBw.out.cell (p := ⟨g, i * 4 + 1, none⟩) hg).trans k1
      have d2 := (hBw.out.cell (p := ⟨g, i * 4 + 2, none⟩) hg).trans k2
      have d3 := (hBw.out.cell (p := ⟨g, i * 4 + 3, none⟩) hg).trans k3
      have hsi := needS_in hj'.out hab (n := i) (by rw [← hn'.out]; omega)
      have hjn := needJ_in (hj'.out i (by rw [← hn'.out]; exact hin)) hab
      have hnx := Lib.hid (show needS js a b (i + 1) = needS js a b i + needJ (js.getD i J0) a b from rfl)
      have hnd := Lib.hid (fun (W : World) => need66 (w := W) (hj'.out i (by rw [← hn'.out]; exact hin)) ha hb hab)
      obtain ⟨⟨f, t, l, p⟩, hjq⟩ : ∃ j, j = js.getD i J0 := ⟨_, rfl⟩
      rw [← hjq] at d0 d1 d2 d3 hnd hjn hnx
      simp only at d0 d1 d2 d3 hnd
      obtain ⟨z, hz⟩ : ∃ z, z = needS js a b i := ⟨_, rfl⟩
      obtain ⟨y, hy⟩ : ∃ y, y = needJ ⟨f, t, l, p⟩ a b := ⟨_, rfl⟩
      rw [← hz] at hsi hnx ⊢
      rw [← hy] at hjn hnx hnd
      have hin' : (i : Int) < (n : Int) := by omega
      have hwJ := Lib.hid (below_call hB.out (below_alloc1 wo (.cells #[.int .i64 f, .int .i64 t, .int .i64 l, .int .i64 p] 56)))
      clear k0 k1 k2 k3 hjq hz hy
      go_wp2_with (
        go_at_call 66; refine (hnd.out _).mono ?_; rintro e w2 ⟨rfl, hb2⟩
        have hb2' := Lib.hid (below_call hwJ.out hb2)
        clear hb2)
      go_roundw
      case rel => exact ⟨i + 1, by omega, by go_num, int_eq hnx.out.symm, hb2'⟩
      case measure => simp [intOf]; omega
    · obtain rfl : i = n := by omega
      go_wp2_with fail
      go_ret
      exact ⟨by rw [hn'.out]; rfl, hBw.out⟩
end Go.Proofs.Ytjkbhdlbomcbeaa

namespace Go.Proofs.Ytjkbhdlbomcbeaa
open Go.RowKit Go.Shelf Shf

set_option maxHeartbeats 4000000 in
set_option maxRecDepth 100000 in
theorem refNeeds29 {w : World} {v : Value} {P : Int} {js : List J} {os : List (Int × Int)} (h : ShV w v P js os) (h7 : js.length ≤ 7) (hj : ∀ i, i < js.length → JobIn (js.getD i J0)) {a b : Int} (ha : 0 ≤ a ∧ a ≤ 24) (hb : 0 ≤ b ∧ b ≤ 24) (hab : a ≤ b) :
    Calls Try.prog 29 #[v, .int .i64 a, .int .i64 b] w (NeedsEnd w js a b) := by
  obtain ⟨jv, ov, rfl, rj, ro⟩ := h
  obtain ⟨ja, jc, rfl, hjc, hjat⟩ := rj.at
  obtain ⟨oa, m, oc, rfl⟩ : ∃ a n c, ov = .slice a n c := by obtain ⟨a, c, e, _⟩ := ro; exact ⟨_, _, _, e⟩
  obtain ⟨n, hn⟩ : ∃ n, n = js.length := ⟨_, rfl⟩
  rw [← hn] at rj hjc hjat h7 ⊢
  have hn' := Lib.hid hn
  have hjat' := Lib.hid hjat
  have hj' := Lib.hid hj
  have hb0 := Lib.hid (below_alloc1 w (.cells #[.int .i64 P, .slice ja n jc, .slice oa m oc] 25))
  have ht0 := Lib.hid (Three.new w (.int .i64 P) (.slice ja n jc) (.slice oa m oc) 25)
  have hz0 := Lib.hid (show w.heap.size < (w.alloc (.cells #[.int .i64 P, .slice ja n jc, .slice oa m oc] 25)).heap.size by simp)
  clear hn hjat hj rj ro
  go_enter Try.func29, Try.ntmps29
  go_wp2_with fail
  obtain ⟨W1, hW1⟩ : ∃ W1, W1 = w.alloc (.cells #[.int .i64 P, .slice ja n jc, .slice oa m oc] 25) := ⟨_, rfl⟩
  rw [← hW1] at hb0 ht0 hz0 ⊢
  clear hW1
  go_loopw [7, 8] (fun sv iv wr => ∃ i : Nat, i ≤ n ∧ iv = .int .i64 i ∧ sv = .int .i64 (needS js a b i) ∧ Hid (Below W1.heap.size W1 wr)) (fun _ iv _ => n - (intOf iv).toNat)
  case atStart => exact ⟨0, Nat.zero_le _, rfl, rfl, Lib.hid (Below.refl _ _)⟩
  case round =>
    obtain ⟨i, hi, rfl, rfl, hB⟩ := hrel
    obtain ⟨wo, rfl⟩ : ∃ wo : World, wo = wr := ⟨_, rfl⟩
    have hBw := Lib.hid (below_call hb0.out hB.out)
    obtain ⟨⟨y0, y1, y2⟩, -⟩ := ht0.out.keep hB.out hz0.out
    by_cases hin : i < n
    · obtain ⟨g, rfl, hg, k0, k1, k2, k3⟩ := hjat'.out i hin
      have d0 := (hBw.out.cell (p := ⟨g, i * 4, none⟩) hg).trans k0
      have d1 := (hBw.out.cell (p := ⟨g, i * 4 + 1, none⟩) hg).trans k1
      have d2 := (hBw.out.cell (p := ⟨g, i * 4 + 2, none⟩) hg).trans k2
      have d3 := (hBw.out.cell (p := ⟨g, i * 4 + 3, none⟩) hg).trans k3
      have hsi := needS_in hj'.out hab (n := i) (by rw [← hn'.out]; omega)
      have hjn := needJ_in (hj'.out i (by rw [← hn'.out]; exact hin)) hab
      have hnx := Lib.hid (show needS js a b (i + 1) = needS js a b i + needJ (js.getD i J0) a b from rfl)
      have hnd := Lib.hid (fun (W : World) => refNeed49 (w := W) (hj'.out i (by rw [← hn'.out]; exact hin)) ha hb hab)
      obtain ⟨⟨f, t, l, p⟩, hjq⟩ : ∃ j, j = js.getD i J0 := ⟨_, rfl⟩
      rw [← hjq] at d0 d1 d2 d3 hnd hjn hnx
      simp only at d0 d1 d2 d3 hnd
      obtain ⟨z, hz⟩ : ∃ z, z = needS js a b i := ⟨_, rfl⟩
      obtain ⟨y, hy⟩ : ∃ y, y = needJ ⟨f, t, l, p⟩ a b := ⟨_, rfl⟩
      rw [← hz] at hsi hnx ⊢
      rw [← hy] at hjn hnx hnd
      have hin' : (i : Int) < (n : Int) := by omega
      clear k0 k1 k2 k3 hjq hz hy
      go_wp2_with (
        go_at_call 49; refine (hnd.out _).mono ?_; rintro e w2 ⟨rfl, hb2⟩
        have hb2' := Lib.hid (below_call hB.out hb2)
        clear hb2)
      go_roundw
      case rel => exact ⟨i + 1, by omega, by go_num, int_eq hnx.out.symm, hb2'⟩
      case measure => simp [intOf]; omega
    · obtain rfl : i = n := by omega
      go_wp2_with fail
      go_ret
      exact ⟨by rw [hn'.out]; rfl, hBw.out⟩
def intB (a b : Int) : Bool := decide (0 ≤ a) && (decide (a < b) && decide (b ≤ 24))
/-- What Needs answers. -/
def NeedsAns (P : Int) (js : List J) (os : List (Int × Int)) (a b n err : Int) : Prop :=
  (validB P js os = false ∧ n = 0 ∧ err = 1) ∨ (validB P js os = true ∧ ((intB a b = false ∧ n = 0 ∧ err = 1) ∨ (intB a b = true ∧ n = needS js a b js.length ∧ err = 0)))
theorem intB_iff {a b : Int} : intB a b = true ↔ 0 ≤ a ∧ a < b ∧ b ≤ 24 := by simp [intB]
end Go.Proofs.Ytjkbhdlbomcbeaa

namespace Go.Proofs.Ytjkbhdlbomcbeaa
open Go.RowKit Go.Shelf Shf

/-! Proofs as trees, and how they are read. -/
inductive Tr where
  | split (j a : Int) (l r : Tr)
  | energy (a b : Int)
  | late (k : Int)
def Tr.val : Tr → Value
  | .split j a l r => .iface 121 (.agg #[.int .i64 j, .int .i64 a, l.val, r.val])
  | .energy a b => .iface 124 (.agg #[.int .i64 a, .int .i64 b])
  | .late k => .iface 126 (.agg #[.int .i64 k])
def valO : Option Tr → Value
  | some t => t.val
  | none => .nilIface
def seeN (sn : Nat → Bool) (i : Nat) (k : Nat) : Bool := if k = i then true else sn k
def isSp (x : Nd) : Bool := x.k == 1 && x.b == 0
def isEn (x : Nd) : Bool := x.k == 2 && (x.j == 0 && (x.l == 0 && x.r == 0))
def isLa (x : Nd) : Bool := x.k == 3 && (x.a == 0 && (x.b == 0 && (x.l == 0 && x.r == 0)))
def spOk (nj : Nat) (i : Nat) (x : Nd) : Bool := decide (0 ≤ x.j) && (decide (x.j < nj) && (decide ((i : Int) < x.l) && decide ((i : Int) < x.r)))
/-- What is read at a number, and which nodes have been seen then. -/
def pz (ns : List Nd) (nj no : Nat) : Nat → Nat → (Nat → Bool) → Option Tr × (Nat → Bool)
  | 0, _, sn => (none, sn)
  | f + 1, i, sn =>
    if ns.length ≤ i ∨ sn i = true then (none, sn)
    else
      let x := ns.getD i N0
      if isSp x then
        if spOk nj i x then
          let p := pz ns nj no f x.l.toNat (seeN sn i)
          let q := pz ns nj no f x.r.toNat p.2
          (match p.1, q.1 with
            | some a, some b => some (.split x.j x.a a b)
            | _, _ => none, q.2)
        else (none, seeN sn i)
      else if isEn x then (if intB x.a x.b then some (.energy x.a x.b) else none, seeN sn i)
      else if isLa x then (if decide (0 ≤ x.j) && decide (x.j < no) then some (.late x.j) else none, seeN sn i)
      else (none, seeN sn i)
theorem pz_step {ns : List Nd} {nj no fuel i : Nat} {sn : Nat → Bool} (hi : i < ns.length) (hs : sn i = false) : pz ns nj no (fuel + 1) i sn =
    (let x := ns.getD i N0
      if isSp x then
        if spOk nj i x then
          let p := pz ns nj no fuel x.l.toNat (seeN sn i)
          let q := pz ns nj no fuel x.r.toNat p.2
          (match p.1, q.1 with
            | some a, some b => some (.split x.j x.a a b)
            | _, _ => none, q.2)
        else (none, seeN sn i)
      else if isEn x then (if intB x.a x.b then some (.energy x.a x.b) else none, seeN sn i)
      else if isLa x then (if decide (0 ≤ x.j) && decide (x.j < no) then some (.late x.j) else none, seeN sn i)
      else (none, seeN sn i)) := by
  rw [pz, if_neg (by rw [hs]; rintro (h | h); · omega
                     · cases h)]
/-- All blocks but one stay. -/
structure Kp (ge : Nat) (w w' : World) : Prop where
  size : w.heap.size ≤ w'.heap.size
  block : ∀ g, g < w.heap.size → g ≠ ge → w'.heap[g]? = w.heap[g]?
theorem Kp.trans {ge : Nat} {a b c : World} (h : Kp ge a b) (k : Kp ge b c) : Kp ge a c := ⟨Nat.le_trans h.size k.size, fun g hg hne => (k.block g (Nat.lt_of_lt_of_le hg h.size) hne).trans (h.block g hg hne)⟩
theorem Kp.of_below {ge : Nat} {a b : World} (h : Below a.heap.size a b) : Kp ge a b := ⟨h.size, fun g hg _ => h.block g hg⟩
theorem Kp.set (ge k : Nat) (w : World) (u : Value) : Kp ge w (w.setCell ⟨ge, k, none⟩ u) := ⟨by rw [World.size_setCell]; exact Nat.le_refl _, fun g _ hne => Below.heap_setCell w ⟨ge, k, none⟩ u g hne⟩
theorem Kp.cell {ge g k : Nat} {w w' : World} (h : Kp ge w w') (hg : g < w.heap.size) (hne : g ≠ ge) : w'.cell? ⟨g, k, none⟩ = w.cell? ⟨g, k, none⟩ := World.cell?_of_block (w := w) (h.block g hg hne)
/-- What reading a node ends in. -/
def NodeEnd (w0 w : World) (b ge n : Nat) (P : Int) (jv ov pv : Value) (r : Option Tr × (Nat → Bool)) (e : Ending) (w' : World) : Prop := e = .returned (valO r.1) ∧ Rd w0 w' b ge n P jv ov pv r.2 ∧ Kp ge w w'
theorem nd_new (W : World) (a b c d e f : Value) : (W.alloc (.cells #[a, b, c, d, e, f] 72)).cell? ⟨W.heap.size, 0, none⟩ = some a ∧ (W.alloc (.cells #[a, b, c, d, e, f] 72)).cell? ⟨W.heap.size, 1, none⟩ = some b ∧ (W.alloc (.cells #[a, b, c, d, e, f] 72)).cell? ⟨W.heap.size, 2, none⟩ = some c ∧
    (W.alloc (.cells #[a, b, c, d, e, f] 72)).cell? ⟨W.heap.size, 3, none⟩ = some d ∧ (W.alloc (.cells #[a, b, c, d, e, f] 72)).cell? ⟨W.heap.size, 4, none⟩ = some e ∧ (W.alloc (.cells #[a, b, c, d, e, f] 72)).cell? ⟨W.heap.size, 5, none⟩ = some f := by
  have h := heap_alloc_new W (.cells #[a, b, c, d, e, f] 72)
  exact ⟨cell_of_row _ _ 0 _ _ _ h, cell_of_row _ _ 1 _ _ _ h, cell_of_row _ _ 2 _ _ _ h, cell_of_row _ _ 3 _ _ _ h, cell_of_row _ _ 4 _ _ _ h, cell_of_row _ _ 5 _ _ _ h⟩
end Go.Proofs.Ytjkbhdlbomcbeaa

namespace Go.Proofs.Ytjkbhdlbomcbeaa
open Go.RowKit Go.Shelf Shf

/-- All jobs need more from `a` up to `b` than there is. -/
def ovB (P : Int) (js : List J) (a b : Int) : Bool := decide (P * (b - a) < needS js a b js.length)
set_option maxHeartbeats 4000000 in
set_option maxRecDepth 100000 in
theorem isOverfull65 {w : World} {v : Value} {P : Int} {js : List J} {os : List (Int × Int)} (h : ShV w v P js os) (h7 : js.length ≤ 7) (hP : 1 ≤ P ∧ P ≤ 20) (hj : ∀ i, i < js.length → JobIn (js.getD i J0)) {a b : Int} (ha : 0 ≤ a ∧ a ≤ 24) (hb : 0 ≤ b ∧ b ≤ 24) (hab : a ≤ b) {d : Bool} (hd : ovB P js a b = d) :
    Calls Try.prog 65 #[v, .int .i64 a, .int .i64 b] w fun e w' => e = .returned (.bool d) ∧ Below w.heap.size w w' := by
  obtain ⟨jv, ov, rfl, rj, ro⟩ := h
  obtain ⟨ja, jn, jc, rfl⟩ : ∃ a n c, jv = .slice a n c := by obtain ⟨a, c, e, _⟩ := rj; exact ⟨_, _, _, e⟩
  obtain ⟨oa, m, oc, rfl⟩ : ∃ a n c, ov = .slice a n c := by obtain ⟨a, c, e, _⟩ := ro; exact ⟨_, _, _, e⟩
  have hb0 := Lib.hid (below_alloc1 w (.cells #[.int .i64 P, .slice ja jn jc, .slice oa m oc] 81))
  have hnd := Lib.hid (fun (W : World) (hb' : Below w.heap.size w W) => needs48 (w := W) (v := .agg #[.int .i64 P, .slice ja jn jc, .slice oa m oc]) ⟨_, _, rfl, rj.below hb', ro.below hb'⟩ h7 hj ha hb hab)
  have hsi := needS_in hj hab (n := js.length) (Nat.le_refl _)
  unfold ovB at hd
  obtain ⟨z, hz⟩ : ∃ z, z = needS js a b js.length := ⟨_, rfl⟩
  rw [← hz] at hd hsi
  have hz' := Lib.hid hz
  have hd' := Lib.hid hd
  obtain ⟨y, hy⟩ : ∃ y, y = P * (b - a) := ⟨_, rfl⟩
  have hyb : 0 ≤ y ∧ y ≤ 480 := by
    have h1 := Int.mul_nonneg (show 0 ≤ P by omega) (show 0 ≤ b - a by omega)
    have h2 := Int.mul_le_mul (show P ≤ 20 by omega) (show b - a ≤ 24 by omega) (by omega) (by omega)
    rw [hy]; omega
  have s1 : IntKind.i64.wrap (b - a) = b - a := IntWalk.i64_in _ (by omega)
  have s2 : IntKind.i64.wrap (P * (b - a)) = P * (b - a) := IntWalk.i64_in _ (by rw [← hy]; omega)
  clear rj ro h7 hj hz hd hyb hy hsi
  go_enter Try.func65, Try.ntmps65
  go_wp2_with fail
  obtain ⟨W, hW⟩ : ∃ W, W = w.alloc (.cells #[.int .i64 P, .slice ja jn jc, .slice oa m oc] 81) := ⟨_, rfl⟩
  have q0 : W.cell? ⟨w.heap.size, 0, none⟩ = some (.int .i64 P) := by rw [hW]; simp
  have q1 : W.cell? ⟨w.heap.size, 1, none⟩ = some (.slice ja jn jc) := by rw [hW]; simp
  have q2 : W.cell? ⟨w.heap.size, 2, none⟩ = some (.slice oa m oc) := by rw [hW]; simp
  have hwW := Lib.hid (show w.heap.size < W.heap.size by rw [hW]; simp)
  rw [← hW] at hb0 ⊢
  clear hW
  refine wp_region_noPanic ?_
  go_region_held3 (fun w' => w'.cell? ⟨w.heap.size, 0, none⟩ = some (.int .i64 P) ∧ w'.cell? ⟨w.heap.size, 1, none⟩ = some (.slice ja jn jc) ∧ w'.cell? ⟨w.heap.size, 2, none⟩ = some (.slice oa m oc))
    (first
      | exact ⟨q0, q1, q2⟩
      | exact ⟨(hbW.cell (p := ⟨w.heap.size, 0, none⟩) hwW.out).trans q0, (hbW.cell (p := ⟨w.heap.size, 1, none⟩) hwW.out).trans q1, (hbW.cell (p := ⟨w.heap.size, 2, none⟩) hwW.out).trans q2⟩)
    ((go_at_call 48; refine (hnd.out _ hb0.out.drew).mono ?_; rintro e wk ⟨rfl, hbk⟩; rw [← hz'.out]; have hbW := (Below.refl W.heap.size W).drew.trans hbk))
  all_goals refine NoPanic.normal ?_
  all_goals go_wp2_with fail
  all_goals go_ret
  all_goals exact ⟨ret_b hd'.out, below_call hb0.out hbW⟩
/-- No pair ahead of `(a, b)` is overfull. -/
def NoneB (P : Int) (js : List J) (a b : Nat) : Prop := ∀ x y : Nat, x < y → y ≤ 24 → (x < a ∨ (x = a ∧ y < b)) → ovB P js x y = false
/-- The first overfull interval, and whether there is one. -/
def OverIs (P : Int) (js : List J) (f t : Int) (ok : Bool) : Prop :=
  (ok = true ∧ ∃ a b : Nat, f = a ∧ t = b ∧ a < b ∧ b ≤ 24 ∧ ovB P js a b = true ∧ NoneB P js a b) ∨ (ok = false ∧ f = 0 ∧ t = 0 ∧ NoneB P js 24 0)
theorem over_only {P : Int} {js : List J} {f t f' t' : Int} {ok ok' : Bool} (h : OverIs P js f t ok) (h' : OverIs P js f' t' ok') : f = f' ∧ t = t' ∧ ok = ok' := by
  rcases h with ⟨rfl, a, b, rfl, rfl, h1, h2, h3, h4⟩ | ⟨rfl, rfl, rfl, h1⟩ <;> rcases h' with ⟨rfl, a', b', rfl, rfl, g1, g2, g3, g4⟩ | ⟨rfl, rfl, rfl, g1⟩
  · have e : a = a' ∧ b = b' := by
      rcases Nat.lt_trichotomy a a' with c | c | c
      · have := g4 a b h1 h2 (.inl c); rw [h3] at this; cases this
      · subst c
        rcases Nat.lt_trichotomy b b' with c | c | c
        · have := g4 a b h1 h2 (.inr ⟨rfl, c⟩); rw [h3] at this; cases this
        · exact ⟨rfl, c⟩
        · have := h4 a b' g1 g2 (.inr ⟨rfl, c⟩); rw [g3] at this; cases this
      · have := h4 a' b' g1 g2 (.inl c); rw [g3] at this; cases this
    rw [e.1, e.2]; exact ⟨rfl, rfl, rfl⟩
  · have := g1 a b h1 h2 (.inl (by omega)); rw [h3] at this; cases this
  · have := h1 a' b' g1 g2 (.inl (by omega)); rw [g3] at this; cases this
  · exact ⟨rfl, rfl, rfl⟩
end Go.Proofs.Ytjkbhdlbomcbeaa
