import Derived.Test.YtjkbhdlbomcbeaaV8
import Derived.Deep.MidRow
namespace Go.Proofs.Ytjkbhdlbomcbeaa
open Go.RowKit Go.Shelf Shf

set_option maxRecDepth 100000 in
theorem same25 {w : World} {u v : Value} {xs ys : List Int} (hu : Reads w u xs) (hv : Reads w v ys) (hl : xs.length ≤ 1000000) :
    Calls Try.prog 25 #[u, v] w fun e w' => e = .returned (.bool (sameL xs ys)) ∧ Below w.heap.size w w' := by
  obtain ⟨ao, c, rfl, _, h1⟩ := hu
  obtain ⟨bo, d, rfl, _, h2⟩ := hv
  obtain ⟨n, hn⟩ : ∃ n, n = xs.length := ⟨_, rfl⟩
  obtain ⟨m, hm⟩ : ∃ n, n = ys.length := ⟨_, rfl⟩
  rw [← hn] at hl ⊢
  rw [← hm]
  by_cases hnm : n = m
  · subst hnm
    have hn' := Lib.hid hn
    have hm' := Lib.hid hm
    have h1' := Lib.hid h1
    have h2' := Lib.hid h2
    clear hn hm h1 h2
    go_enter Try.func25, Try.ntmps25
    go_wp2
    go_loopw [5] (fun i wr => ∃ k : Nat, k ≤ n ∧ i = .int .i64 k ∧ Hid (∀ j, j < k → xs.getD j 0 = ys.getD j 0) ∧ Below w.heap.size w wr) (fun i _ => n - (intOf i).toNat)
    case atStart => exact ⟨0, Nat.zero_le _, rfl, Lib.hid (fun j hj => by omega), Below.refl _ _⟩
    case round =>
      obtain ⟨k, hk, rfl, hj, hb⟩ := hrel
      by_cases hlt : k < n
      · have e1 := hn'.out
        have e2 := hm'.out
        obtain ⟨g, o, rfl, hg, hc1⟩ := h1'.out (fun e => by rw [e] at e1; simp at e1; omega)
        obtain ⟨f, p, rfl, hf, hc2⟩ := h2'.out (fun e => by rw [e] at e2; simp at e2; omega)
        have c1 : wr.cell? ⟨g, o + k, none⟩ = some (.int .i64 (xs.getD k 0)) := (hb.cell hg).trans (hc1 k (by omega))
        have c2 : wr.cell? ⟨f, p + k, none⟩ = some (.int .i64 (ys.getD k 0)) := (hb.cell hf).trans (hc2 k (by omega))
        clear hc1 hc2 e1 e2
        obtain ⟨x, hx⟩ : ∃ x, x = xs.getD k 0 := ⟨_, rfl⟩
        obtain ⟨y, hy⟩ : ∃ x, x = ys.getD k 0 := ⟨_, rfl⟩
        rw [← hx] at c1
        rw [← hy] at c2
        have hx' := Lib.hid hx
        have hy' := Lib.hid hy
        clear hx hy
        by_cases hxy : x = y
        · have hxy' := Lib.hid hxy
          have ht : (x != y) = false := by simp [hxy]
          clear hxy
          go_wp2
          go_quiet (fail)
          go_wp2
          go_roundw
          case rel => exact ⟨k + 1, by omega, by go_num, Lib.hid (fun j hjk => by
            by_cases e : j = k
            · rw [e, ← hx'.out, ← hy'.out]; exact hxy'.out
            · exact hj.out j (by omega)), below_drewN hb _⟩
          case measure => simp [intOf]; omega
        · have hxy' := Lib.hid hxy
          have ht : (x != y) = true := by simp [hxy]
          clear hxy
          go_wp2
          go_quiet (fail)
          go_wp2
          go_ret
          exact ⟨ret_b (sameL_at k (by rw [← hx'.out, ← hy'.out]; exact hxy'.out)), below_drewN hb _⟩
      · go_wp2
        go_ret
        exact ⟨ret_b (sameL_all (by rw [← hn'.out, ← hm'.out]) k (by rw [← hn'.out]; omega) hj.out), hb⟩
  · have ht : ((n : Int) != (m : Int)) = true := by simp; omega
    have hz : false = sameL xs ys := sameL_len (by omega)
    have hz' := Lib.hid hz
    clear hz h1 h2 hn hm
    have hnm' := Lib.hid hnm
    clear hnm
    go_enter Try.func25, Try.ntmps25
    go_wp2
    go_ret
    exact ⟨ret_b hz'.out, Below.refl _ _⟩

/-! ## Tables -/
def tab (n : Nat) (F : Nat → Int) : List Int := (List.range n).map F
theorem tab_len (n : Nat) (F : Nat → Int) : (tab n F).length = n := by simp [tab]
theorem tab_get {n : Nat} (F : Nat → Int) {k : Nat} (h : k < n) : (tab n F).getD k 0 = F k := by
  unfold tab
  rw [List.getD_eq_getElem?_getD, List.getElem?_map, List.getElem?_range h]; rfl
/-- What the jobs need at each time. -/
def loadL (s : Sh) (S : Nat → Int) : List Int := tab 24 fun t => loadAt s S (t : Int)
/-- The first `i` jobs, and of the next one what it needs before `y`. -/
def part (s : Sh) (S : Nat → Int) (i : Nat) (y : Int) (t : Nat) : Int := sm i (fun k => act (s.job k) (S k) (t : Int)) + if S i ≤ (t : Int) ∧ (t : Int) < y then (s.job i).p else 0
theorem sm_bound {f : Nat → Int} {b : Int} (hb : 0 ≤ b) : ∀ n, (∀ i, i < n → 0 ≤ f i ∧ f i ≤ b) → 0 ≤ sm n f ∧ sm n f ≤ n * b
  | 0, _ => by simp [sm]
  | n + 1, h => by
    have h1 := sm_bound hb n (fun i hi => h i (by omega))
    have h2 := h n (by omega)
    simp only [sm]
    have : ((n + 1 : Nat) : Int) * b = (n : Int) * b + b := by rw [Int.natCast_add, Int.add_mul]; simp
    omega
theorem act_in {j : J} (h : 0 ≤ j.p ∧ j.p ≤ 20) (x t : Int) : 0 ≤ act j x t ∧ act j x t ≤ 20 := by unfold act; split <;> omega
end Go.Proofs.Ytjkbhdlbomcbeaa

namespace Go.Proofs.Ytjkbhdlbomcbeaa
open Go.RowKit Go.Shelf Shf

def outB (x : Int) : Bool := decide (x < 0) || decide (24 < x)
def Idx (p : Int → Bool) (xs : List Int) (w : World) (e : Ending) (w' : World) : Prop := ∃ r : Int, e = .returned (.int .i64 r) ∧ decide (0 ≤ r) = xs.any p ∧ -1 ≤ r ∧ w = w'
/-- What Load answers. -/
def LoadAns (P : Int) (js : List J) (os : List (Int × Int)) (xs ys : List Int) (err : Int) : Prop :=
  (validB P js os = false ∧ ys = [] ∧ err = 1) ∨ (validB P js os = true ∧ (((xs.length ≠ js.length ∨ xs.any outB = true) ∧ ys = [] ∧ err = 2) ∨ (xs.length = js.length ∧ xs.any outB = false ∧ ys = loadL (shOf P js os) (fun i => xs.getD i 0) ∧ err = 0)))
def Load33 (w : World) (P : Int) (js : List J) (os : List (Int × Int)) (xs : List Int) (e : Ending) (w' : World) : Prop := ∃ u ys err, e = .returned (.tuple #[u, .int .i64 err]) ∧ Ints w' w.heap.size u ys ∧ Below w.heap.size w w' ∧ LoadAns P js os xs ys err
end Go.Proofs.Ytjkbhdlbomcbeaa

namespace Go.Proofs.Ytjkbhdlbomcbeaa
open Go.RowKit Go.Shelf Shf

/-- An order that cannot be kept. -/
def lateO (s : Sh) (k : Nat) : Bool := decide (lat (s.job (s.os.getD k (0, 0)).2) < (s.job (s.os.getD k (0, 0)).1).f + (s.job (s.os.getD k (0, 0)).1).l)
theorem osI_get (s : Sh) (k : Nat) : (osI s).getD k (0, 0) = (((s.os.getD k (0, 0)).1 : Int), ((s.os.getD k (0, 0)).2 : Int)) := by
  unfold osI
  rw [List.getD_eq_getElem?_getD, List.getD_eq_getElem?_getD, List.getElem?_map]
  cases s.os[k]? <;> rfl
set_option maxHeartbeats 4000000 in
set_option maxRecDepth 100000 in
theorem late76 {w : World} {v : Value} {s : Sh} (hs : Loose s) (h : ShV w v s.P s.js (osI s)) {k : Nat} (hk : k < s.os.length) {d : Bool} (hd : lateO s k = d) :
    Calls Try.prog 76 #[.agg #[.int .i64 k], v] w fun e w' => e = .returned (.bool d) ∧ Below w.heap.size w w' := by
  obtain ⟨jv, ov, rfl, rj, ro⟩ := h
  obtain ⟨ja, jc, rfl, hjc, hjat⟩ := rj.at
  obtain ⟨oa, oc, rfl, hoc, hoat⟩ := ro.at
  have hol : (osI s).length = s.os.length := by simp [osI]
  obtain ⟨go, rfl, hgo, o0, o1⟩ := hoat k (by rw [hol]; exact hk)
  rw [osI_get] at o0 o1
  have hor := hs.orders (s.os.getD k (0, 0)) (by rw [List.getD_eq_getElem?_getD, List.getElem?_eq_getElem hk]; exact List.getElem_mem hk)
  unfold lateO at hd
  obtain ⟨⟨a, b⟩, hab⟩ : ∃ o, o = s.os.getD k (0, 0) := ⟨_, rfl⟩
  rw [← hab] at o0 o1 hor hd
  simp only at o0 o1 hor hd
  obtain ⟨gj, rfl, hgj, a0, a1, a2, a3⟩ := hjat a hor.1
  obtain ⟨gj', e', _, b0, b1, b2, b3⟩ := hjat b hor.2.1
  obtain rfl : gj = gj' := by injection e' with e'; injection e'
  have hja := hs.jobs a hor.1
  have hjb := hs.jobs b hor.2.1
  unfold Sh.job at hja hjb hd
  obtain ⟨⟨f, t, l, p⟩, hq⟩ : ∃ j, j = s.js.getD a J0 := ⟨_, rfl⟩
  obtain ⟨⟨f', t', l', p'⟩, hq'⟩ : ∃ j, j = s.js.getD b J0 := ⟨_, rfl⟩
  rw [← hq] at hja hd a0 a1 a2 a3
  rw [← hq'] at hjb hd b0 b1 b2 b3
  simp only at hja hjb a0 a1 a2 a3 b0 b1 b2 b3
  have hd' := Lib.hid (show decide (t' - l' < f + l) = d from hd)
  obtain ⟨n, hn⟩ : ∃ n, n = s.js.length := ⟨_, rfl⟩
  obtain ⟨m, hm⟩ : ∃ m, m = (osI s).length := ⟨_, rfl⟩
  have hkm : (k : Int) < (m : Int) := by omega
  have han : (a : Int) < (n : Int) := by have := hor.1; rw [show s.n = n from hn.symm] at this; omega
  have hbn : (b : Int) < (n : Int) := by have := hor.2.1; rw [show s.n = n from hn.symm] at this; omega
  rw [← hn] at hjc ⊢
  rw [← hm] at hoc ⊢
  have e38 := Lib.hid (show ∀ W, Calls Try.prog 38 #[.agg #[.int .i64 f', .int .i64 t', .int .i64 l', .int .i64 p']] W fun e w' => e = .returned (.int .i64 (t' - l')) ∧ Below W.heap.size W w' from fun W => latest38 ⟨f', t', l', p'⟩ (by simp only; omega))
  have hb3 : Below w.heap.size w (((w.alloc (.cells #[.int .i64 k] 126)).alloc (.cells #[.int .i64 s.P, .slice (some ⟨gj, 0, none⟩) n jc, .slice (some ⟨go, 0, none⟩) m oc] 81)).alloc (.cells #[.int .i64 a, .int .i64 b] 78)) := ((below_alloc1 _ _).alloc (by simp) _).alloc (by simp; omega) _
  have w0 := (hb3.cell (p := ⟨gj, a * 4, none⟩) hgj).trans a0
  have w1 := (hb3.cell (p := ⟨gj, a * 4 + 1, none⟩) hgj).trans a1
  have w2 := (hb3.cell (p := ⟨gj, a * 4 + 2, none⟩) hgj).trans a2
  have w3 := (hb3.cell (p := ⟨gj, a * 4 + 3, none⟩) hgj).trans a3
  have hb4 := Lib.hid (hb3.alloc (by simp; omega) (.cells #[.int .i64 f, .int .i64 t, .int .i64 l, .int .i64 p] 56))
  clear hb3
  clear rj ro hjat hoat hs hol hk hor hd hab hq hq' e' hn hm
  go_enter Try.func76, Try.ntmps76
  go_wp2_with fail
  obtain ⟨W, hW⟩ : ∃ W, W = (((w.alloc (.cells #[.int .i64 k] 126)).alloc (.cells #[.int .i64 s.P, .slice (some ⟨gj, 0, none⟩) n jc, .slice (some ⟨go, 0, none⟩) m oc] 81)).alloc (.cells #[.int .i64 a, .int .i64 b] 78)).alloc (.cells #[.int .i64 f, .int .i64 t, .int .i64 l, .int .i64 p] 56) := ⟨_, rfl⟩
  have hWb := Lib.hid (show Below w.heap.size w W by rw [hW]; exact hb4.out)
  have x0 := (hWb.out.cell (p := ⟨gj, b * 4, none⟩) hgj).trans b0
  have x1 := (hWb.out.cell (p := ⟨gj, b * 4 + 1, none⟩) hgj).trans b1
  have x2 := (hWb.out.cell (p := ⟨gj, b * 4 + 2, none⟩) hgj).trans b2
  have x3 := (hWb.out.cell (p := ⟨gj, b * 4 + 3, none⟩) hgj).trans b3
  have hsz : (((w.alloc (.cells #[.int .i64 k] 126)).alloc (.cells #[.int .i64 s.P, .slice (some ⟨gj, 0, none⟩) n jc, .slice (some ⟨go, 0, none⟩) m oc] 81)).alloc (.cells #[.int .i64 a, .int .i64 b] 78)).heap.size = w.heap.size + 1 + 1 + 1 := by simp
  have y0 : W.cell? ⟨w.heap.size + 1 + 1 + 1, 0, none⟩ = some (.int .i64 f) := by rw [hW, ← hsz]; simp only [World.cell?_alloc_at (hn := rfl)]; rfl
  have y2 : W.cell? ⟨w.heap.size + 1 + 1 + 1, 2, none⟩ = some (.int .i64 l) := by rw [hW, ← hsz]; simp only [World.cell?_alloc_at (hn := rfl)]; rfl
  have z1 : W.cell? ⟨w.heap.size + 1, 1, none⟩ = some (.slice (some ⟨gj, 0, none⟩) n jc) := by
    rw [hW, (below_alloc1 _ _).cell (p := ⟨w.heap.size + 1, 1, none⟩) (by rw [hsz]; show w.heap.size + 1 < _; omega), (below_alloc1 _ _).cell (p := ⟨w.heap.size + 1, 1, none⟩) (by rw [World.size_alloc, World.size_alloc]; show w.heap.size + 1 < _; omega)]
    have h : (w.alloc (.cells #[.int .i64 k] 126)).heap.size = w.heap.size + 1 := World.size_alloc _ _
    rw [← h, World.cell?_alloc_at (hn := rfl)]; rfl
  have z2 : W.cell? ⟨w.heap.size + 1 + 1, 1, none⟩ = some (.int .i64 b) := by
    rw [hW, (below_alloc1 _ _).cell (p := ⟨w.heap.size + 1 + 1, 1, none⟩) (by rw [hsz]; show w.heap.size + 1 + 1 < _; omega)]
    have h : ((w.alloc (.cells #[.int .i64 k] 126)).alloc (.cells #[.int .i64 s.P, .slice (some ⟨gj, 0, none⟩) n jc, .slice (some ⟨go, 0, none⟩) m oc] 81)).heap.size = w.heap.size + 1 + 1 := by rw [World.size_alloc, World.size_alloc]
    rw [← h, World.cell?_alloc_at (hn := rfl)]; rfl
  have hWs : W.heap.size = w.heap.size + 4 := by rw [hW]; simp
  rw [← hW]
  clear hW hb4 w0 w1 w2 w3 a0 a1 a2 a3 b0 b1 b2 b3 o0 o1 hsz
  have hs0 : (⟨w.heap.size + 1 + 1 + 1, 0, none⟩ : Addr).block < W.heap.size := by show w.heap.size + 1 + 1 + 1 < _; omega
  have hs1 : (⟨w.heap.size + 1 + 1 + 1, 2, none⟩ : Addr).block < W.heap.size := by show w.heap.size + 1 + 1 + 1 < _; omega
  have hs2 : (⟨w.heap.size + 1, 1, none⟩ : Addr).block < W.heap.size := by show w.heap.size + 1 < _; omega
  have hs3 : (⟨w.heap.size + 1 + 1, 1, none⟩ : Addr).block < W.heap.size := by show w.heap.size + 1 + 1 < _; omega
  have hs4 : (⟨gj, b * 4, none⟩ : Addr).block < W.heap.size := by show gj < _; omega
  have hs5 : (⟨gj, b * 4 + 1, none⟩ : Addr).block < W.heap.size := by show gj < _; omega
  have hs6 : (⟨gj, b * 4 + 2, none⟩ : Addr).block < W.heap.size := by show gj < _; omega
  have hs7 : (⟨gj, b * 4 + 3, none⟩ : Addr).block < W.heap.size := by show gj < _; omega
  clear hWs
  have hfl : IntKind.i64.wrap (f + l) = f + l := IntWalk.i64_in _ (by omega)
  refine wp_region_noPanic ?_
  go_region_held3 (fun w' => w'.cell? ⟨w.heap.size + 1 + 1 + 1, 0, none⟩ = some (.int .i64 f) ∧ w'.cell? ⟨w.heap.size + 1 + 1 + 1, 2, none⟩ = some (.int .i64 l) ∧ w'.cell? ⟨w.heap.size + 1, 1, none⟩ = some (.slice (some ⟨gj, 0, none⟩) n jc) ∧ w'.cell? ⟨w.heap.size + 1 + 1, 1, none⟩ = some (.int .i64 b) ∧ w'.cell? ⟨gj, b * 4, none⟩ = some (.int .i64 f') ∧ w'.cell? ⟨gj, b * 4 + 1, none⟩ = some (.int .i64 t') ∧ w'.cell? ⟨gj, b * 4 + 2, none⟩ = some (.int .i64 l') ∧ w'.cell? ⟨gj, b * 4 + 3, none⟩ = some (.int .i64 p'))
    (first
      | exact ⟨y0, y2, z1, z2, x0, x1, x2, x3⟩
      | exact ⟨(hbW.cell (p := ⟨w.heap.size + 1 + 1 + 1, 0, none⟩) hs0).trans y0, (hbW.cell (p := ⟨w.heap.size + 1 + 1 + 1, 2, none⟩) hs1).trans y2, (hbW.cell (p := ⟨w.heap.size + 1, 1, none⟩) hs2).trans z1, (hbW.cell (p := ⟨w.heap.size + 1 + 1, 1, none⟩) hs3).trans z2, (hbW.cell (p := ⟨gj, b * 4, none⟩) hs4).trans x0, (hbW.cell (p := ⟨gj, b * 4 + 1, none⟩) hs5).trans x1, (hbW.cell (p := ⟨gj, b * 4 + 2, none⟩) hs6).trans x2, (hbW.cell (p := ⟨gj, b * 4 + 3, none⟩) hs7).trans x3⟩)
    ((go_at_call 38; refine (e38.out _).mono ?_; rintro e wk ⟨rfl, hbk⟩; have hbW := (Below.refl W.heap.size W).drew.trans hbk))
  all_goals refine NoPanic.normal ?_
  all_goals go_wp2_with fail
  all_goals go_ret
  all_goals exact ⟨ret_b hd'.out, hWb.out.trans (hbW.mono hWb.out.size)⟩
end Go.Proofs.Ytjkbhdlbomcbeaa

namespace Go.Proofs.Ytjkbhdlbomcbeaa
open Go.RowKit Go.Shelf Shf

set_option maxHeartbeats 4000000 in
set_option maxRecDepth 100000 in
theorem leafLate67 {w : World} {v : Value} {s : Sh} (hs : Loose s) (h : ShV w v s.P s.js (osI s)) {k : Nat} (hk : k < s.os.length) (hd : lateO s k = true) (hno : ∀ j, j < k → lateO s j = false) :
    Calls Try.prog 67 #[v] w fun e w' => e = .returned (.iface 126 (.agg #[.int .i64 k])) ∧ Below w.heap.size w w' := by
  obtain ⟨jv, ov, rfl, rj, ro⟩ := h
  obtain ⟨ja, n, jc, rfl⟩ : ∃ a n c, jv = .slice a n c := by obtain ⟨a, c, e, _⟩ := rj; exact ⟨_, _, _, e⟩
  obtain ⟨oa, oc, rfl, hoc, hoat⟩ := ro.at
  obtain ⟨m, hm⟩ : ∃ m, m = (osI s).length := ⟨_, rfl⟩
  have hol : (osI s).length = s.os.length := by simp [osI]
  rw [← hm] at ro hoc ⊢
  have hkm : k < m := by omega
  have hm20 : m ≤ 20 := by have := hs.few; omega
  have hb0 := Lib.hid (below_alloc1 w (.cells #[.int .i64 s.P, .slice ja n jc, .slice oa m oc] 81))
  have ht0 := Lib.hid (Three.new w (.int .i64 s.P) (.slice ja n jc) (.slice oa m oc) 81)
  have hsz := Lib.hid (show (w.alloc (.cells #[.int .i64 s.P, .slice ja n jc, .slice oa m oc] 81)).heap.size = w.heap.size + 1 by simp)
  have hlate := Lib.hid (fun (W : World) (hb : Below w.heap.size w W) (j : Nat) (hj : j < s.os.length) (d : Bool) (hd : lateO s j = d) => late76 (w := W) (s := s) hs ⟨_, _, rfl, rj.below hb, ro.below hb⟩ hj hd)
  have hm' := Lib.hid hm
  have hol' := Lib.hid hol
  have hd' := Lib.hid hd
  have hno' := Lib.hid hno
  clear hs rj ro hoat hm hol hd hno hk
  go_enter Try.func67, Try.ntmps67
  go_wp2_with fail
  obtain ⟨W1, hW1⟩ : ∃ W1, W1 = w.alloc (.cells #[.int .i64 s.P, .slice ja n jc, .slice oa m oc] 81) := ⟨_, rfl⟩
  rw [← hW1] at hb0 ht0 hsz ⊢
  clear hW1
  go_loopw [11] (fun iv wr => ∃ i : Nat, i ≤ k ∧ iv = .int .i64 i ∧ Hid (Below (w.heap.size + 1) W1 wr)) (fun iv _ => m - (intOf iv).toNat)
  case atStart => exact ⟨0, Nat.zero_le _, rfl, Lib.hid (Below.refl _ _)⟩
  case round =>
    obtain ⟨i, hi, rfl, hb⟩ := hrel
    obtain ⟨wo, rfl⟩ : ∃ wo : World, wo = wr := ⟨_, rfl⟩
    have him : (i : Int) < (m : Int) := by omega
    have hT := Lib.hid (ht0.out.keep hb.out (Nat.lt_succ_self _))
    obtain ⟨⟨z0, z1, z2⟩, -⟩ := hT.out
    have hsl := hb.out.size
    rw [hsz.out] at hsl
    have hW := Lib.hid (hb.out.alloc (by exact hsl) (.cells #[.int .i64 i] 126))
    have hWb := Lib.hid (hb0.out.trans (hW.out.mono (Nat.le_succ _)))
    have hc := Lib.hid (fun d hd => hlate.out _ hWb.out i (by have := hm'.out; have := hol'.out; omega) d hd)
    have hws := Lib.hid (show wo.heap.size < (wo.alloc (.cells #[.int .i64 i] 126)).heap.size by simp)
    by_cases hik : i = k
    · have hc2 := Lib.hid (hc.out true (by rw [hik]; exact hd'.out))
      rw [hik] at hc2 hW hWb hws ⊢
      clear hik hi him
      have him : (k : Int) < (m : Int) := by omega
      have q0 : (wo.alloc (.cells #[.int .i64 k] 126)).cell? ⟨wo.heap.size, 0, none⟩ = some (.int .i64 k) := by simp
      have q0' := Lib.hid q0
      clear q0
      obtain ⟨⟨y0, y1, y2⟩, -⟩ := (hT.out.keep (below_alloc1 wo (.cells #[.int .i64 k] 126)) (by omega))
      go_wp2_with (
        go_at_call 76; refine (hc2.out).mono ?_; rintro e w2 ⟨rfl, hb2⟩
        have q1 := (hb2.cell (p := ⟨wo.heap.size, 0, none⟩) hws.out).trans q0'.out
        have hb2' := Lib.hid (below_call hWb.out hb2)
        clear hb2)
      go_ret
      exact ⟨rfl, hb2'.out⟩
    · have hc2 := Lib.hid (hc.out false (hno'.out i (by omega)))
      have hik' := Lib.hid hik
      clear hik
      obtain ⟨⟨y0, y1, y2⟩, -⟩ := (hT.out.keep (below_alloc1 wo (.cells #[.int .i64 i] 126)) (by omega))
      go_wp2_with (
        go_at_call 76; refine (hc2.out).mono ?_; rintro e w2 ⟨rfl, hb2⟩
        have hb2' := Lib.hid (hW.out.trans (hb2.mono (by have := hW.out.size; rw [hsz.out] at this; exact this)))
        clear hb2)
      go_roundw
      case rel => exact ⟨i + 1, by have := hik'.out; omega, by go_num, hb2'⟩
      case measure => simp [intOf]; omega
end Go.Proofs.Ytjkbhdlbomcbeaa

namespace Go.Proofs.Ytjkbhdlbomcbeaa
open Go.RowKit Go.Shelf Shf

/-- A leaf refutes: it is returned, and one leaf less is left. -/
def LeafEnd (w : World) (rb : Nat) (lv : Int) (t : TypeId) (n : Value) (e : Ending) (w' : World) : Prop :=
  e = .returned (.iface t n) ∧ Mod rb rb w w' ∧ w'.cell? ⟨rb, 0, none⟩ = some (.int .i64 (lv - 1)) ∧ w'.frozen? ⟨rb, 0, none⟩ = false
set_option maxHeartbeats 4000000 in
set_option maxRecDepth 100000 in
theorem refuteLeaf50 {w : World} {P : Int} {jv ov n : Value} {t : TypeId} {rb : Nat} {lv : Int} {ja oa : Option Addr} {jn jc on oc : Nat} (hj : jv = .slice ja jn jc) (ho : ov = .slice oa on oc) (hrb : rb < w.heap.size) (hlv : -1000000 ≤ lv ∧ lv ≤ 1000000) (hc : w.cell? ⟨rb, 0, none⟩ = some (.int .i64 lv)) (hf : w.frozen? ⟨rb, 0, none⟩ = false)
    (hleaf : ∀ W, Below w.heap.size w W → Calls Try.prog 67 #[.agg #[.int .i64 P, jv, ov]] W fun e w' => e = .returned (.iface t n) ∧ Below W.heap.size W w') :
    Calls Try.prog 50 #[.pointer (some ⟨rb, 0, none⟩), .agg #[.int .i64 P, jv, ov]] w (LeafEnd w rb lv t n) := by
  subst hj ho
  have hb0 := Lib.hid (below_alloc1 w (.cells #[.int .i64 P, .slice ja jn jc, .slice oa on oc] 81))
  have hl := Lib.hid (hleaf _ hb0.out)
  have hrb' := Lib.hid hrb
  have hc' := Lib.hid hc
  have hf' := Lib.hid hf
  clear hleaf hrb hc hf
  go_enter Try.func50, Try.ntmps50
  go_wp2_with (
    go_at_call 67; refine (hl.out).mono ?_; rintro e w1 ⟨rfl, hb1⟩
    have hb1' := Lib.hid (below_call hb0.out hb1)
    have c1 := (hb1'.out.cell (p := ⟨rb, 0, none⟩) hrb'.out).trans hc'.out
    have f1 := (hb1'.out.frozen (p := ⟨rb, 0, none⟩) hrb'.out).trans hf'.out
    have c1' := Lib.hid c1
    have f1' := Lib.hid f1
    clear hb1)
  go_ret
  refine ⟨rfl, (Mod.of_below hb1'.out).set rb 0 (.int .i64 (lv - 1)) (.inl rfl), ?_, ?_⟩
  · rw [World.cell?_setCell_same' _ _ _ (by rw [c1'.out]; rfl)]
  · rw [World.frozen?_setCell]; exact f1'.out
end Go.Proofs.Ytjkbhdlbomcbeaa

namespace Go.Proofs.Ytjkbhdlbomcbeaa
open Go.RowKit Go.Shelf Shf

structure Nd where
  k : Int
  j : Int
  a : Int
  b : Int
  l : Int
  r : Int
deriving DecidableEq
def N0 : Nd := ⟨0, 0, 0, 0, 0, 0⟩
def encN (n : Nd) : List Value := [.int .i64 n.k, .int .i64 n.j, .int .i64 n.a, .int .i64 n.b, .int .i64 n.l, .int .i64 n.r]
theorem encN_len (n : Nd) : (encN n).length = 6 := rfl
theorem info72 : (Try.prog.info? 72).map (fun i => (i.zero, i.size, i.bytes)) = some (some (.agg #[.int .i64 0, .int .i64 0, .int .i64 0, .int .i64 0, .int .i64 0, .int .i64 0]), 6, 48) := by kernel_rfl
def OwnN (w : World) (B : Nat) (v : Value) (ns : List Nd) : Prop := w.ownsRow B 72 6 v ns.length (flat encN ns)
theorem one_flatN (ns : List Nd) : ∀ v ∈ flat encN ns, v.oneCell' = true := fun v hv => by
  simp only [flat, List.mem_flatMap, encN, List.mem_cons, List.not_mem_nil, or_false] at hv
  obtain ⟨j, _, rfl | rfl | rfl | rfl | rfl | rfl⟩ := hv <;> rfl
def nd0 : Array Value := #[.int .i64 0, .int .i64 0, .int .i64 0, .int .i64 0, .int .i64 0, .int .i64 0]
/-- append(l, Node{}); what else changes. -/
theorem app_nd_at {ops : Array Oper} {rest : List Oper} {o : Oper} {a : Act} {Q : Exit → Act → World → Prop} {w : World} {B : Nat} {v : Value} {ns : List Nd}
    (hown : OwnN w B v ns) (hlen : ns.length ≤ 1000000) (hB : B ≤ w.heap.size) (hgd : o.guard = none) (s x : Operand)
    (ho : o.op = .call { callee := .builtin .append, args := #[s, x], argTypes := #[100, 100] }) (hs : a.eval s = v) (hx : a.eval x = .slice (some ⟨w.heap.size, 0, none⟩) 1 1)
    (h : ∀ v' w', OwnN w' B v' (ns ++ [N0]) → Below B w w' → (∀ g, g < w.heap.size → v.ownBlock ≠ some g → w'.heap[g]? = w.heap[g]?) → (∀ g, v'.ownBlock = some g → v.ownBlock = some g ∨ w.heap.size ≤ g) → w.heap.size ≤ w'.heap.size → wpList Try.prog ops Q rest (a.put o.dst v') w') : wpList Try.prog ops Q (o :: rest) a (w.alloc (.cells nd0 72)) := by
  obtain ⟨i0, hi, hz0, hz1, hz2⟩ := info_parts info72
  refine wpList_append_own_at _ hgd s x 100 ho B 72 i0 _ 6 48 Try.underlying100 hi hz0 hz1 hz2 rfl (by decide) v ns.length (flat encN ns) hs (World.ownsRow.alloc hown _) ⟨w.heap.size, 0, none⟩ 1 1 (encN N0) hx rfl ?_ ?_ ?_ ?_ ?_ ?_
  · intro j u hj
    have e : (⟨w.heap.size, 0, none⟩ : Addr).add j = ⟨w.heap.size, j, none⟩ := by unfold Addr.add; split <;> simp_all
    rw [e, World.cell?_alloc_at (hn := rfl)]
    show nd0[j]? = some u
    rw [← Array.getElem?_toList]; exact hj
  · exact fun u hu => one_flatN [N0] u (by simpa [flat] using hu)
  · unfold maxLen; omega
  · omega
  · simp; omega
  · intro v' w' h2 h3 _ h5
    refine h v' w' ?_ ?_ (fun g hg hne => ?_) (fun g hg => ?_) (by have := h3.size; simp at this; omega)
    · unfold OwnN; rw [flat_app, List.length_append]; simpa [flat] using h2
    · exact ((Below.refl B w).alloc hB _).grown h3 (by simp; omega) (fun k hk => (World.ownsRow.lt hown k hk).1)
    · rw [h3.block g (by simp; omega) (fun e => hne e.symm)]
      exact (below_alloc1 w _).block g hg
    · rcases h5 with h5 | h5
      · left; rw [← h5]; exact hg
      · right; rw [h5] at hg; injection hg with hg; rw [← hg]; simp
@[local go_sem] theorem as126_121 (v : Value) (w : World) : (Instr.typeAssert (.iface 126 v) 98 121 true).run Try.prog w = .ok (.tuple #[.agg #[.int .i64 0, .int .i64 0, .nilIface, .nilIface], .bool false]) w := by kernel_rfl
@[local go_sem] theorem as126_124 (v : Value) (w : World) : (Instr.typeAssert (.iface 126 v) 98 124 true).run Try.prog w = .ok (.tuple #[.agg #[.int .i64 0, .int .i64 0], .bool false]) w := by kernel_rfl
@[local go_sem] theorem as126_126 (v : Value) (w : World) : (Instr.typeAssert (.iface 126 v) 98 126 true).run Try.prog w = .ok (.tuple #[v, .bool true]) w := by kernel_rfl
/-- A node is written behind the others. -/
def AddEnd (w : World) (lb B : Nat) (v : Value) (ns ms : List Nd) (e : Ending) (w' : World) : Prop :=
  e = .returned (.int .i64 ns.length) ∧ Below lb w w' ∧ ∃ v', w'.cell? ⟨lb, 0, none⟩ = some v' ∧ w'.frozen? ⟨lb, 0, none⟩ = false ∧ OwnN w' B v' ms ∧ (∀ g, g < w.heap.size → g ≠ lb → v.ownBlock ≠ some g → w'.heap[g]? = w.heap[g]?) ∧ (∀ g, v'.ownBlock = some g → v.ownBlock = some g ∨ w.heap.size ≤ g)
theorem set6 (xs : List Value) (a b c d e f a' b' c' d' e' f' : Value) : ((((((xs ++ [a, b, c, d, e, f]).set (xs.length) a').set (xs.length + 1) b').set (xs.length + 2) c').set (xs.length + 3) d').set (xs.length + 4) e').set (xs.length + 5) f' = xs ++ [a', b', c', d', e', f'] := by
  simp [List.set_append_right]
theorem OwnN.frozenAt {W : World} {B g n c : Nat} {ns : List Nd} (h : OwnN W B (.slice (some ⟨g, 0, none⟩) n c) ns) (j : Nat) : W.frozen? ⟨g, j, none⟩ = false := by
  unfold OwnN at h
  obtain ⟨_, _, e, _⟩ := own_cells h
  obtain rfl : n = ns.length := by injection e
  exact World.ownsRow.frozenAt h j
theorem OwnN.cells {W : World} {B g n c : Nat} {ns : List Nd} (h : OwnN W B (.slice (some ⟨g, 0, none⟩) n c) ns) {i : Nat} (hi : i < ns.length) : W.cell? ⟨g, i * 6, none⟩ = some (.int .i64 (ns.getD i N0).k) ∧ W.cell? ⟨g, i * 6 + 1, none⟩ = some (.int .i64 (ns.getD i N0).j) ∧ W.cell? ⟨g, i * 6 + 2, none⟩ = some (.int .i64 (ns.getD i N0).a) ∧
    W.cell? ⟨g, i * 6 + 3, none⟩ = some (.int .i64 (ns.getD i N0).b) ∧ W.cell? ⟨g, i * 6 + 4, none⟩ = some (.int .i64 (ns.getD i N0).l) ∧ W.cell? ⟨g, i * 6 + 5, none⟩ = some (.int .i64 (ns.getD i N0).r) := by
  unfold OwnN at h
  obtain ⟨_, _, e, _, hc⟩ := own_cells h
  obtain ⟨g', e1, _, _, hcl⟩ := hc (by omega)
  injection e with e2 e3 e4
  rw [← e2] at e1
  obtain rfl : g = g' := by injection e1 with e1; injection e1
  have e : ns.getD i N0 = ns[i] := by rw [List.getD_eq_getElem?_getD, List.getElem?_eq_getElem hi]; rfl
  rw [e]
  exact ⟨hcl _ _ (flat_at encN_len ns i 0 hi (by omega)), hcl _ _ (flat_at encN_len ns i 1 hi (by omega)), hcl _ _ (flat_at encN_len ns i 2 hi (by omega)), hcl _ _ (flat_at encN_len ns i 3 hi (by omega)), hcl _ _ (flat_at encN_len ns i 4 hi (by omega)), hcl _ _ (flat_at encN_len ns i 5 hi (by omega))⟩
def six (W : World) (g o : Nat) (m : Nd) : World := (((((W.setCell ⟨g, o, none⟩ (.int .i64 m.k)).setCell ⟨g, o + 1, none⟩ (.int .i64 m.j)).setCell ⟨g, o + 2, none⟩ (.int .i64 m.a)).setCell ⟨g, o + 3, none⟩ (.int .i64 m.b)).setCell ⟨g, o + 4, none⟩ (.int .i64 m.l)).setCell ⟨g, o + 5, none⟩ (.int .i64 m.r)
theorem OwnN.six {W : World} {B g n c : Nat} {ns : List Nd} {m m' : Nd} (h : OwnN W B (.slice (some ⟨g, 0, none⟩) n c) (ns ++ [m])) : OwnN (six W g (ns.length * 6) m') B (.slice (some ⟨g, 0, none⟩) n c) (ns ++ [m']) := by
  unfold OwnN at h ⊢
  obtain ⟨_, _, e, _⟩ := own_cells h
  obtain rfl : n = (ns ++ [m]).length := by injection e
  have hl : (flat encN ns).length = ns.length * 6 := flat_len encN_len ns
  have h1 := (h.stored (ns.length * 6) (.int .i64 m'.k)).1
  have h2 := (h1.stored (ns.length * 6 + 1) (.int .i64 m'.j)).1
  have h3 := (h2.stored (ns.length * 6 + 2) (.int .i64 m'.a)).1
  have h4 := (h3.stored (ns.length * 6 + 3) (.int .i64 m'.b)).1
  have h5 := (h4.stored (ns.length * 6 + 4) (.int .i64 m'.l)).1
  have h6 := (h5.stored (ns.length * 6 + 5) (.int .i64 m'.r)).1
  rw [flat_app, ← hl, show flat encN [m] = [.int .i64 m.k, .int .i64 m.j, .int .i64 m.a, .int .i64 m.b, .int .i64 m.l, .int .i64 m.r] from rfl, set6] at h6
  rw [flat_app, List.length_append]
  rw [List.length_append] at h6
  unfold Go.Proofs.Ytjkbhdlbomcbeaa.six
  rw [← hl, List.length_append]
  exact h6
theorem six_other {W : World} {g o b k : Nat} {m : Nd} (h : b ≠ g) : (six W g o m).cell? ⟨b, k, none⟩ = W.cell? ⟨b, k, none⟩ := by
  unfold six
  rw [World.cell?_setCell_other _ _ _ _ (by simp <;> omega), World.cell?_setCell_other _ _ _ _ (by simp <;> omega), World.cell?_setCell_other _ _ _ _ (by simp <;> omega), World.cell?_setCell_other _ _ _ _ (by simp <;> omega), World.cell?_setCell_other _ _ _ _ (by simp <;> omega), World.cell?_setCell_other _ _ _ _ (by simp <;> omega)]
theorem six_frozen {W : World} {g o : Nat} {p : Addr} {m : Nd} : (six W g o m).frozen? p = W.frozen? p := by
  unfold six; simp only [World.frozen?_setCell]
theorem six_heap {W : World} {g o b : Nat} {m : Nd} (h : b ≠ g) : (six W g o m).heap[b]? = W.heap[b]? := by
  unfold six
  rw [Below.heap_setCell _ ⟨g, _, none⟩ _ b h, Below.heap_setCell _ ⟨g, _, none⟩ _ b h, Below.heap_setCell _ ⟨g, _, none⟩ _ b h, Below.heap_setCell _ ⟨g, _, none⟩ _ b h, Below.heap_setCell _ ⟨g, _, none⟩ _ b h, Below.heap_setCell _ ⟨g, _, none⟩ _ b h]
theorem six_below {W0 W : World} {C g o : Nat} {m : Nd} (h : Below C W0 W) (hg : C ≤ g) : Below C W0 (six W g o m) := by
  unfold six
  exact below_set (below_set (below_set (below_set (below_set (below_set h hg) hg) hg) hg) hg) hg
set_option maxHeartbeats 4000000 in
set_option maxRecDepth 100000 in
theorem addLate51 {w : World} {lb B k : Nat} {v : Value} {ns : List Nd} (hlb : lb < B) (hB : B ≤ w.heap.size) (hc : w.cell? ⟨lb, 0, none⟩ = some v) (hf : w.frozen? ⟨lb, 0, none⟩ = false) (hown : OwnN w B v ns) (hlen : ns.length ≤ 100000) :
    Calls Try.prog 51 #[.pointer (some ⟨lb, 0, none⟩), .iface 126 (.agg #[.int .i64 k])] w (AddEnd w lb B v ns (ns ++ [⟨3, k, 0, 0, 0, 0⟩])) := by
  obtain ⟨i0, hi, hz0, hz1, hz2⟩ := info_parts info72
  have hown' := Lib.hid hown
  obtain ⟨va, vc, rfl, -⟩ := own_cells hown
  obtain ⟨n, hn⟩ : ∃ n, n = ns.length := ⟨_, rfl⟩
  rw [← hn] at hown' hc hlen ⊢
  have hn' := Lib.hid hn
  have hlbw := Lib.hid (Nat.lt_of_lt_of_le hlb hB)
  have hlb' := Lib.hid hlb
  have hB' := Lib.hid hB
  have hf' := Lib.hid hf
  clear hown hn hlb hB hf
  go_enter Try.func51, Try.ntmps51
  go_wp2_with (
    at_builtin; refine app_nd_at hown'.out (by rw [← hn'.out]; omega) hB'.out rfl _ _ rfl rfl rfl ?_; intro v1 w1 hO1 hb1 hk1 ho1 hs1
    have hO1' := Lib.hid hO1
    have hb1' := Lib.hid hb1
    have hk1' := Lib.hid hk1
    have ho1' := Lib.hid ho1
    have hs1' := Lib.hid hs1
    have hc1 := (hb1.cell (p := ⟨lb, 0, none⟩) hlb'.out).trans hc
    have hf1 := (hb1.frozen (p := ⟨lb, 0, none⟩) hlb'.out).trans hf'.out
    obtain ⟨g1, c1, rfl, hg1⟩ : ∃ g c, v1 = .slice (some ⟨g, 0, none⟩) (n + 1) c ∧ n + 1 ≤ c ∧ B ≤ g := by
      obtain ⟨ao, c, e, hc, h⟩ := own_cells hO1
      rw [List.length_append, ← hn'.out] at e hc h
      obtain ⟨g, rfl, hB, _⟩ := h (by simp)
      exact ⟨g, c, e, hc, hB⟩
    have hg1' := Lib.hid hg1
    clear hO1 hb1 hk1 ho1 hs1 hg1)
  obtain ⟨W, hW⟩ : ∃ W, W = ((w1.setCell ⟨lb, 0, none⟩ (.slice (some ⟨g1, 0, none⟩) (n + 1) c1)).alloc (.cells #[.int .i64 3, .int .i64 k, .int .i64 0, .int .i64 0, .int .i64 0, .int .i64 0] 72)).alloc (.cells #[.int .i64 k] 126) := ⟨_, rfl⟩
  have hsz1 : (w1.setCell ⟨lb, 0, none⟩ (.slice (some ⟨g1, 0, none⟩) (n + 1) c1)).heap.size = w1.heap.size := by simp
  have hlw1 : lb < w1.heap.size := Nat.lt_of_lt_of_le hlbw.out hs1'.out
  have hWb := Lib.hid (show Below w1.heap.size (w1.setCell ⟨lb, 0, none⟩ (.slice (some ⟨g1, 0, none⟩) (n + 1) c1)) W by rw [hW]; exact (Below.alloc (Below.refl _ _) (by rw [hsz1]; exact Nat.le_refl _) _).alloc (by rw [World.size_alloc, hsz1]; omega) _)
  have q0 : W.cell? ⟨lb, 0, none⟩ = some (.slice (some ⟨g1, 0, none⟩) (n + 1) c1) := (hWb.out.cell (p := ⟨lb, 0, none⟩) hlw1).trans (World.cell?_setCell_same' _ _ _ (by rw [hc1]; rfl))
  have hfl := Lib.hid ((hWb.out.frozen (p := ⟨lb, 0, none⟩) hlw1).trans (by simpa using hf1))
  have hnc : ∀ j, W.cell? ⟨w1.heap.size, j, none⟩ = (#[.int .i64 3, .int .i64 k, .int .i64 0, .int .i64 0, .int .i64 0, .int .i64 0] : Array Value)[j]? := fun j => by
    rw [hW, (below_alloc1 _ _).cell (p := ⟨w1.heap.size, j, none⟩) (by rw [World.size_alloc, hsz1]; exact Nat.lt_succ_self _), ← hsz1, World.cell?_alloc_at (hn := rfl)]
  have m0 := hnc 0
  have m1 := hnc 1
  have m2 := hnc 2
  have m3 := hnc 3
  have m4 := hnc 4
  have m5 := hnc 5
  have hO0 : OwnN (w1.setCell ⟨lb, 0, none⟩ (.slice (some ⟨g1, 0, none⟩) (n + 1) c1)) B (.slice (some ⟨g1, 0, none⟩) (n + 1) c1) (ns ++ [N0]) := ownsRow_setCell_below hO1'.out (by show lb < B; exact hlb'.out) _
  have hO : OwnN W B (.slice (some ⟨g1, 0, none⟩) (n + 1) c1) (ns ++ [N0]) := own_below hO0 (by rw [hsz1]; exact hWb.out)
  have hgw : g1 < w1.heap.size := (World.ownsRow.lt hO1'.out g1 rfl).2
  have fz := fun j => OwnN.frozenAt hO j
  have hpc := OwnN.cells hO (i := n) (by rw [List.length_append, ← hn'.out]; exact Nat.lt_succ_self _)
  rw [show (ns ++ [N0]).getD n N0 = N0 by rw [List.getD_eq_getElem?_getD, List.getElem?_append_right (by rw [← hn'.out]; exact Nat.le_refl _), ← hn'.out, Nat.sub_self]; rfl] at hpc
  obtain ⟨p0, p1, p2, p3, p4, p5⟩ := hpc
  simp only [N0] at p0 p1 p2 p3 p4 p5
  have z0 := fz (n * 6)
  have z1 := fz (n * 6 + 1)
  have z2 := fz (n * 6 + 2)
  have z3 := fz (n * 6 + 3)
  have z4 := fz (n * 6 + 4)
  have z5 := fz (n * 6 + 5)
  have hO' := Lib.hid hO
  simp only [List.getElem?_toArray, List.getElem?_cons_zero, List.getElem?_cons_succ] at m0 m1 m2 m3 m4 m5
  rw [← hW]
  have hgw' := Lib.hid hgw
  have hlw' := Lib.hid hlw1
  have hsz1' := Lib.hid hsz1
  clear hW hnc hO0 hO fz hc1 hf1 hgw hlw1 hsz1
  refine wp_region_still_tail 6 (by kernel_rfl) (by kernel_rfl) ?_
  simp only [List.take_succ_cons, List.take_zero, List.drop_succ_cons, List.drop_zero]
  have hnI : (n : Int) < (n : Int) + 1 := by omega
  iterate 6 still_step
  refine wpStill_nil ?_
  go_wp2_with fail
  go_ret
  have hlg : lb ≠ g1 := by have := hlb'.out; have := hg1'.out; omega
  have hgl : lb ≤ g1 := by have := hlb'.out; have := hg1'.out; omega
  have hlen2 := hn'.out
  have key : ∀ X, X = six W g1 (n * 6) ⟨3, k, 0, 0, 0, 0⟩ → AddEnd w lb B (.slice va n vc) ns (ns ++ [⟨3, k, 0, 0, 0, 0⟩]) (.returned (.int .i64 n)) X.drew := by
    intro X hX
    refine ⟨by rw [hlen2], ?_, .slice (some ⟨g1, 0, none⟩) (n + 1) c1, ?_, ?_, ?_, fun g hg hne hv => ?_, ho1'.out⟩
    · have h1 : Below lb w w1 := hb1'.out.mono (Nat.le_of_lt hlb'.out)
      have h2 : Below lb w (w1.setCell ⟨lb, 0, none⟩ (.slice (some ⟨g1, 0, none⟩) (n + 1) c1)) := below_set h1 (Nat.le_refl _)
      rw [hX]
      exact (six_below (o := n * 6) (m := ⟨3, k, 0, 0, 0, 0⟩) (h2.trans (hWb.out.mono (Nat.le_of_lt hlw'.out))) hgl).drew
    · show X.cell? ⟨lb, 0, none⟩ = _
      rw [hX]
      exact (six_other hlg).trans q0
    · show X.frozen? ⟨lb, 0, none⟩ = _
      rw [hX]
      exact six_frozen.trans hfl.out
    · have h := OwnN.six (m' := ⟨3, k, 0, 0, 0, 0⟩) hO'.out
      rw [← hlen2, ← hX] at h
      exact h
    · have hgg : g ≠ g1 := by
        rintro rfl
        rcases ho1'.out g rfl with h | h
        · exact hv h
        · omega
      have hsz := hs1'.out
      show X.heap[g]? = _
      rw [hX, six_heap hgg, hWb.out.block g (by omega), Below.heap_setCell w1 ⟨lb, 0, none⟩ _ g hne]
      exact hk1'.out g hg hv
  exact key _ rfl
end Go.Proofs.Ytjkbhdlbomcbeaa

namespace Go.Proofs.Ytjkbhdlbomcbeaa
open Go.RowKit Go.Shelf Shf

def RefuseLate (w : World) (k : Nat) (e : Ending) (w' : World) : Prop := ∃ v, e = .returned (.tuple #[v, .int .i64 0]) ∧ OwnN w' w.heap.size v [⟨3, k, 0, 0, 0, 0⟩] ∧ Below w.heap.size w w'
set_option maxHeartbeats 4000000 in
set_option maxRecDepth 100000 in
theorem refuseLate30 {w : World} {v : Value} {P : Int} {js : List J} {os : List (Int × Int)} (h : ShV w v P js os) (h7 : js.length ≤ 7) (h21 : os.length ≤ 21) (hv : validB P js os = true) {k : Nat} (hk : k < (shOf P js os).os.length) (hd : lateO (shOf P js os) k = true) (hno : ∀ j, j < k → lateO (shOf P js os) j = false) (hns : ¬ ∃ S, Sched (shOf P js os) S) :
    Calls Try.prog 30 #[v] w (RefuseLate w k) := by
  obtain ⟨jv, ov, rfl, rj, ro⟩ := h
  obtain ⟨ja, n, jc, rfl⟩ : ∃ a n c, jv = .slice a n c := by obtain ⟨a, c, e, _⟩ := rj; exact ⟨_, _, _, e⟩
  obtain ⟨oa, m, oc, rfl⟩ : ∃ a n c, ov = .slice a n c := by obtain ⟨a, c, e, _⟩ := ro; exact ⟨_, _, _, e⟩
  have hb0 := Lib.hid (below_alloc1 w (.cells #[.int .i64 P, .slice ja n jc, .slice oa m oc] 25))
  have hsh := Lib.hid (fun (W : World) (hb : Below w.heap.size w W) => (show ShV W (.agg #[.int .i64 P, .slice ja n jc, .slice oa m oc]) P js os from ⟨_, _, rfl, rj.below hb, ro.below hb⟩))
  have hn := Lib.hid (new37' (rj.below hb0.out) (ro.below hb0.out) h7 h21 hv)
  obtain ⟨hV, hos⟩ := valid_sh hv
  have hc := Lib.hid (fun (W : World) (hb : Below w.heap.size w W) => canBeDone42' (w := W) (s := shOf P js os) hV.loose (by rw [hos]; exact hsh.out W hb) (show cbd (shOf P js os) = false from Bool.eq_false_iff.2 fun h => hns ((cbd_iff hV.loose).1 h)))
  have hlf := Lib.hid (fun (W : World) (hb : Below w.heap.size w W) => leafLate67 (w := W) (s := shOf P js os) hV.loose (by rw [hos]; exact hsh.out W hb) hk hd hno)
  clear hV hos hv rj ro h7 h21 hk hd hno hns
  go_enter Try.func30, Try.ntmps30
  go_wp2_with (
    first
    | (go_at_call 37; refine (hn.out).mono ?_; rintro e w1 ⟨rfl, hb1⟩
       have hT1 := Lib.hid (Three.new w1 (.int .i64 P) (.slice ja n jc) (.slice oa m oc) 81)
       have hs1 := Lib.hid (show w1.heap.size < (w1.alloc (.cells #[.int .i64 P, .slice ja n jc, .slice oa m oc] 81)).heap.size by simp)
       have hb1' := Lib.hid (below_call (below_call hb0.out hb1) (below_alloc1 _ (.cells #[.int .i64 P, .slice ja n jc, .slice oa m oc] 81)))
       have hc1 := Lib.hid (hc.out _ hb1'.out)
       clear hb1)
    | (go_at_call 42; refine (hc1.out).mono ?_; rintro e w2 ⟨rfl, hb2⟩
       have hb2' := Lib.hid (below_call (below_call hb1'.out hb2) (below_alloc1 _ (.cells #[.int .i64 20000] 96)))
       have hw2 := Lib.hid (show w.heap.size ≤ w2.heap.size from (below_call hb1'.out hb2).size)
       have hT2 := Lib.hid (hT1.out.keep (hb2.trans ((below_alloc1 w2 (.cells #[.int .i64 20000] 96)).mono hb2.size)) hs1.out)
       have hs2 := Lib.hid (Nat.lt_of_lt_of_le hs1.out hb2.size)
       obtain ⟨⟨z0, z1, z2⟩, -⟩ := hT2.out
       have hr2 := Lib.hid (refuteLeaf50 (w := w2.alloc (.cells #[.int .i64 20000] 96)) (P := P) (rb := w2.heap.size) (lv := 20000) (t := 126) (n := .agg #[.int .i64 k]) (jv := .slice ja n jc) (ov := .slice oa m oc) rfl rfl (by simp) (by omega) (by simp) (alloc_fz _ _ _ _) (fun W hb => hlf.out W (below_call hb2'.out hb)))
       clear hb2)
    | (go_at_call 50; refine (hr2.out).mono ?_; rintro e w3 ⟨rfl, hM3, -, -⟩
       have hb3 := Lib.hid (hM3.below hb2'.out hw2.out hw2.out hb2'.out.size)
       have hb4 := Lib.hid (below_call hb3.out (below_alloc1 w3 (.cells #[.slice none 0 0] 100)))
       have ha := Lib.hid (addLate51 (w := w3.alloc (.cells #[.slice none 0 0] 100)) (lb := w3.heap.size) (B := w3.heap.size + 1) (k := k) (v := .slice none 0 0) (ns := []) (Nat.lt_succ_self _) (by simp) (by simp) (alloc_fz _ _ _ _) (World.ownsRow_nil _ _ _ _) (by simp))
       clear hM3)
    | (go_at_call 51; refine (ha.out).mono ?_; rintro e w5 ⟨rfl, hb5, v5, hc5, hf5, hO5, -, -⟩
       obtain ⟨ao, c, rfl, -⟩ := own_cells hO5
       have hO5' := Lib.hid hO5
       have hb5' := Lib.hid hb5
       clear hb5 hf5 hO5))
  go_ret2
  have hb6 : Below w.heap.size w w5 := hb4.out.trans (hb5'.out.mono hb3.out.size)
  exact ⟨_, rfl, own_base hO5'.out (Nat.le_trans hb3.out.size (Nat.le_succ _)), hb6⟩
end Go.Proofs.Ytjkbhdlbomcbeaa
