import Derived.Test.YtjkbhdlbomcbeaaXj
import Derived.Test.YtjkbhdlbomcbeaaZc
namespace Go.Proofs.Ytjkbhdlbomcbeaa
open Go.RowKit Go.Shelf Shf

/-! Proofs as trees, and how they are read. -/
inductive Tr where
  | split (j a : Int) (l r : Tr)
  | energy (a b : Int)
  | late (k : Int)
def Tr.val : Tr → Value
  | .split j a l r => .iface 121 (.agg #[.int .i64 j, .int .i64 a, l.val, r.val])
  | .energy a b => .iface 124 (.agg #[.int .i64 a, .int .i64 b])
  | .late k => .iface 126 (.agg #[.int .i64 k])
def valO : Option Tr → Value
  | some t => t.val
  | none => .nilIface
def seeN (sn : Nat → Bool) (i : Nat) (k : Nat) : Bool := if k = i then true else sn k
def isSp (x : Nd) : Bool := x.k == 1 && x.b == 0
def isEn (x : Nd) : Bool := x.k == 2 && (x.j == 0 && (x.l == 0 && x.r == 0))
def isLa (x : Nd) : Bool := x.k == 3 && (x.a == 0 && (x.b == 0 && (x.l == 0 && x.r == 0)))
def spOk (nj : Nat) (i : Nat) (x : Nd) : Bool := decide (0 ≤ x.j) && (decide (x.j < nj) && (decide ((i : Int) < x.l) && decide ((i : Int) < x.r)))
/-- What is read at a number, and which nodes have been seen then. -/
def pz (ns : List Nd) (nj no : Nat) : Nat → Nat → (Nat → Bool) → Option Tr × (Nat → Bool)
  | 0, _, sn => (none, sn)
  | f + 1, i, sn =>
    if ns.length ≤ i ∨ sn i = true then (none, sn)
    else
      let x := ns.getD i N0
      if isSp x then
        if spOk nj i x then
          let p := pz ns nj no f x.l.toNat (seeN sn i)
          let q := pz ns nj no f x.r.toNat p.2
          (match p.1, q.1 with
            | some a, some b => some (.split x.j x.a a b)
            | _, _ => none, q.2)
        else (none, seeN sn i)
      else if isEn x then (if intB x.a x.b then some (.energy x.a x.b) else none, seeN sn i)
      else if isLa x then (if decide (0 ≤ x.j) && decide (x.j < no) then some (.late x.j) else none, seeN sn i)
      else (none, seeN sn i)
theorem pz_step {ns : List Nd} {nj no fuel i : Nat} {sn : Nat → Bool} (hi : i < ns.length) (hs : sn i = false) : pz ns nj no (fuel + 1) i sn =
    (let x := ns.getD i N0
      if isSp x then
        if spOk nj i x then
          let p := pz ns nj no fuel x.l.toNat (seeN sn i)
          let q := pz ns nj no fuel x.r.toNat p.2
          (match p.1, q.1 with
            | some a, some b => some (.split x.j x.a a b)
            | _, _ => none, q.2)
        else (none, seeN sn i)
      else if isEn x then (if intB x.a x.b then some (.energy x.a x.b) else none, seeN sn i)
      else if isLa x then (if decide (0 ≤ x.j) && decide (x.j < no) then some (.late x.j) else none, seeN sn i)
      else (none, seeN sn i)) := by
  rw [pz, if_neg (by rw [hs]; rintro (h | h); · omega
                     · cases h)]
theorem val_form (o : Option Tr) : (o = none ∧ valO o = .nilIface) ∨ ∃ t ty v, o = some t ∧ valO o = .iface ty v ∧ t.val = .iface ty v := by
  cases o with
  | none => exact .inl ⟨rfl, rfl⟩
  | some t => cases t <;> exact .inr ⟨_, _, _, rfl, rfl, rfl⟩
theorem Rd.keep {w0 w w' : World} {b ge n : Nat} {P : Int} {jv ov pv : Value} {sn : Nat → Bool} (h : Rd w0 w b ge n P jv ov pv sn) (hb : Below w.heap.size w w') : Rd w0 w' b ge n P jv ov pv sn :=
  ⟨below_call h.below hb, h.hb, h.hge, Nat.lt_of_lt_of_le h.hbw hb.size, Nat.lt_of_lt_of_le h.hgw hb.size, h.hne, (hb.cell (p := ⟨b, 0, none⟩) h.hbw).trans h.c0, (hb.cell (p := ⟨b, 1, none⟩) h.hbw).trans h.c1, (hb.cell (p := ⟨b, 2, none⟩) h.hbw).trans h.c2, (hb.cell (p := ⟨b, 3, none⟩) h.hbw).trans h.c3, (hb.cell (p := ⟨b, 4, none⟩) h.hbw).trans h.c4,
    fun i hi => (hb.cell (p := ⟨ge, i, none⟩) h.hgw).trans (h.seen i hi), fun j => (hb.frozen (p := ⟨ge, j, none⟩) h.hgw).trans (h.fg j)⟩
theorem Rd.see {w0 w : World} {b ge n : Nat} {P : Int} {jv ov pv : Value} {sn : Nat → Bool} (h : Rd w0 w b ge n P jv ov pv sn) {i : Nat} (hi : i < n) : Rd w0 (w.setCell ⟨ge, i, none⟩ (.bool true)) b ge n P jv ov pv (seeN sn i) := by
  have hS : ∀ o', (w.setCell ⟨ge, i, none⟩ (.bool true)).cell? ⟨b, o', none⟩ = w.cell? ⟨b, o', none⟩ := fun o' => World.cell?_setCell_other _ _ _ _ (by have := h.hne; simp <;> omega)
  refine ⟨below_set h.below h.hge, h.hb, h.hge, by rw [World.size_setCell]; exact h.hbw, by rw [World.size_setCell]; exact h.hgw, h.hne, (hS 0).trans h.c0, (hS 1).trans h.c1, (hS 2).trans h.c2, (hS 3).trans h.c3, (hS 4).trans h.c4, fun k hk => ?_, fun j => by rw [World.frozen?_setCell]; exact h.fg j⟩
  unfold seeN
  by_cases e : k = i
  · subst e
    rw [if_pos rfl]
    exact World.cell?_setCell_same' _ _ _ (by rw [h.seen k hk]; rfl)
  · rw [if_neg e, World.cell?_setCell_other _ _ _ _ (by simp <;> omega)]
    exact h.seen k hk
/-- All blocks but one stay. -/
structure Kp (ge : Nat) (w w' : World) : Prop where
  size : w.heap.size ≤ w'.heap.size
  block : ∀ g, g < w.heap.size → g ≠ ge → w'.heap[g]? = w.heap[g]?
theorem Kp.refl (ge : Nat) (w : World) : Kp ge w w := ⟨Nat.le_refl _, fun _ _ _ => rfl⟩
theorem Kp.trans {ge : Nat} {a b c : World} (h : Kp ge a b) (k : Kp ge b c) : Kp ge a c := ⟨Nat.le_trans h.size k.size, fun g hg hne => (k.block g (Nat.lt_of_lt_of_le hg h.size) hne).trans (h.block g hg hne)⟩
theorem Kp.of_below {ge : Nat} {a b : World} (h : Below a.heap.size a b) : Kp ge a b := ⟨h.size, fun g hg _ => h.block g hg⟩
theorem Kp.set (ge k : Nat) (w : World) (u : Value) : Kp ge w (w.setCell ⟨ge, k, none⟩ u) := ⟨by rw [World.size_setCell]; exact Nat.le_refl _, fun g _ hne => Below.heap_setCell w ⟨ge, k, none⟩ u g hne⟩
theorem Kp.cell {ge g k : Nat} {w w' : World} (h : Kp ge w w') (hg : g < w.heap.size) (hne : g ≠ ge) : w'.cell? ⟨g, k, none⟩ = w.cell? ⟨g, k, none⟩ := World.cell?_of_block (w := w) (h.block g hg hne)
/-- What reading a node ends in. -/
def NodeEnd (w0 w : World) (b ge n : Nat) (P : Int) (jv ov pv : Value) (r : Option Tr × (Nat → Bool)) (e : Ending) (w' : World) : Prop := e = .returned (valO r.1) ∧ Rd w0 w' b ge n P jv ov pv r.2 ∧ Kp ge w w'
theorem nd_new (W : World) (a b c d e f : Value) : (W.alloc (.cells #[a, b, c, d, e, f] 72)).cell? ⟨W.heap.size, 0, none⟩ = some a ∧ (W.alloc (.cells #[a, b, c, d, e, f] 72)).cell? ⟨W.heap.size, 1, none⟩ = some b ∧ (W.alloc (.cells #[a, b, c, d, e, f] 72)).cell? ⟨W.heap.size, 2, none⟩ = some c ∧
    (W.alloc (.cells #[a, b, c, d, e, f] 72)).cell? ⟨W.heap.size, 3, none⟩ = some d ∧ (W.alloc (.cells #[a, b, c, d, e, f] 72)).cell? ⟨W.heap.size, 4, none⟩ = some e ∧ (W.alloc (.cells #[a, b, c, d, e, f] 72)).cell? ⟨W.heap.size, 5, none⟩ = some f := by
  have h := heap_alloc_new W (.cells #[a, b, c, d, e, f] 72)
  exact ⟨cell_of_row _ _ 0 _ _ _ h, cell_of_row _ _ 1 _ _ _ h, cell_of_row _ _ 2 _ _ _ h, cell_of_row _ _ 3 _ _ _ h, cell_of_row _ _ 4 _ _ _ h, cell_of_row _ _ 5 _ _ _ h⟩
set_option maxHeartbeats 8000000 in
set_option maxRecDepth 100000 in
theorem node71 {w0 : World} {b ge nj jc m oc : Nat} {ja oa : Option Addr} {P : Int} {pv : Value} {ns : List Nd} (hp : ReadsNd w0 pv ns) :
    ∀ (fuel i : Nat) (w : World) (sn : Nat → Bool), ns.length ≤ i + fuel → Rd w0 w b ge ns.length P (.slice ja nj jc) (.slice oa m oc) pv sn →
    Calls Try.prog 71 #[.pointer (some ⟨b, 0, none⟩), .int .i64 i] w (NodeEnd w0 w b ge ns.length P (.slice ja nj jc) (.slice oa m oc) pv (pz ns nj m (fuel + 1) i sn)) := by
  obtain ⟨pa, pc, rfl, hpc, hpat⟩ := hp
  obtain ⟨n, hn⟩ : ∃ n, n = ns.length := ⟨_, rfl⟩
  intro fuel
  induction fuel with
  | zero =>
    intro i w sn hfi hR
    have hz : pz ns nj m (0 + 1) i sn = (none, sn) := by rw [pz, if_pos (.inl (by omega))]
    rw [hz]
    have c3 := hR.c3
    have c4 := hR.c4
    rw [← hn] at hR c3 c4 hfi ⊢
    have hd1 : decide (n ≤ i) = true := by simp; omega
    have hR' := Lib.hid hR
    clear hpat hn hz hR
    go_enter Try.func71, Try.ntmps71
    go_wp2_with fail
    go_ret
    exact ⟨rfl, hR'.out, Kp.refl _ _⟩
  | succ fuel ih =>
    intro i w sn hfi hR
    by_cases hin : i < ns.length
    · cases hsn : sn i with
      | true =>
        have hz : pz ns nj m (fuel + 1 + 1) i sn = (none, sn) := by rw [pz, if_pos (.inr hsn)]
        rw [hz]
        have c3 := hR.c3
        have c4 := hR.c4
        have s0 := hR.seen i hin
        rw [hsn] at s0
        rw [← hn] at hR c3 c4 hin ⊢
        have hd1 : decide (n ≤ i) = false := by simp; omega
        have hin' : (i : Int) < (n : Int) := by omega
        have hR' := Lib.hid hR
        clear hpat hn hz hR ih
        go_enter Try.func71, Try.ntmps71
        go_wp2_with fail
        go_ret
        exact ⟨rfl, hR'.out, Kp.refl _ _⟩
      | false =>
        obtain ⟨g, rfl, hg, n0, n1, n2, n3, n4, n5⟩ := hpat i hin
        have hz := pz_step (nj := nj) (no := m) (fuel := fuel + 1) hin hsn
        obtain ⟨⟨k, j, a, bb, l, r⟩, hx⟩ : ∃ x, x = ns.getD i N0 := ⟨_, rfl⟩
        rw [← hx] at n0 n1 n2 n3 n4 n5 hz
        simp only at n0 n1 n2 n3 n4 n5
        have p0 := (hR.below.cell (p := ⟨g, i * 6, none⟩) hg).trans n0
        have p1 := (hR.below.cell (p := ⟨g, i * 6 + 1, none⟩) hg).trans n1
        have p2 := (hR.below.cell (p := ⟨g, i * 6 + 2, none⟩) hg).trans n2
        have p3 := (hR.below.cell (p := ⟨g, i * 6 + 3, none⟩) hg).trans n3
        have p4 := (hR.below.cell (p := ⟨g, i * 6 + 4, none⟩) hg).trans n4
        have p5 := (hR.below.cell (p := ⟨g, i * 6 + 5, none⟩) hg).trans n5
        have hgg : g ≠ ge := by have := hR.hge; omega
        have c3 := hR.c3
        have c4 := hR.c4
        have s0 := hR.seen i hin
        rw [hsn] at s0
        have f0 := hR.fg i
        obtain ⟨W, hW⟩ : ∃ W, W = (w.setCell ⟨ge, i, none⟩ (.bool true)).alloc (.cells #[.int .i64 k, .int .i64 j, .int .i64 a, .int .i64 bb, .int .i64 l, .int .i64 r] 72) := ⟨_, rfl⟩
        have hRW := Lib.hid (show Rd w0 W b ge ns.length P (.slice ja nj jc) (.slice oa m oc) (.slice (some ⟨g, 0, none⟩) ns.length pc) (seeN sn i) by rw [hW]; exact (hR.see hin).keep (below_alloc1 _ _))
        have hnw := show W.cell? ⟨w.heap.size, 0, none⟩ = some (.int .i64 k) ∧ W.cell? ⟨w.heap.size, 1, none⟩ = some (.int .i64 j) ∧ W.cell? ⟨w.heap.size, 2, none⟩ = some (.int .i64 a) ∧ W.cell? ⟨w.heap.size, 3, none⟩ = some (.int .i64 bb) ∧ W.cell? ⟨w.heap.size, 4, none⟩ = some (.int .i64 l) ∧ W.cell? ⟨w.heap.size, 5, none⟩ = some (.int .i64 r) from by
          have h := nd_new (w.setCell ⟨ge, i, none⟩ (.bool true)) (.int .i64 k) (.int .i64 j) (.int .i64 a) (.int .i64 bb) (.int .i64 l) (.int .i64 r)
          rw [World.size_setCell] at h
          rw [hW]; exact h
        have hS : ∀ b' o', b' ≠ ge → (w.setCell ⟨ge, i, none⟩ (.bool true)).cell? ⟨b', o', none⟩ = w.cell? ⟨b', o', none⟩ := fun b' o' h => World.cell?_setCell_other _ _ _ _ (by simp <;> omega)
        have y0 := (hS g _ hgg).trans p0
        have y1 := (hS g _ hgg).trans p1
        have y2 := (hS g _ hgg).trans p2
        have y3 := (hS g _ hgg).trans p3
        have y4 := (hS g _ hgg).trans p4
        have y5 := (hS g _ hgg).trans p5
        have x3 := (hS b 3 hR.hne).trans c3
        have e1 := fun w : World => eq72 k j a bb l r 1 j a 0 l r w
        have e2 := fun w : World => eq72 k j a bb l r 2 0 a bb 0 0 w
        have e3 := fun w : World => eq72 k j a bb l r 3 j 0 0 0 0 w
        have hgd := guard72
        simp only [beq_self_eq_true, Bool.true_and, Bool.and_true] at e1 e2 e3
        obtain ⟨d1, hd1⟩ : ∃ d, d = (k == 1 && bb == 0) := ⟨_, rfl⟩
        obtain ⟨d2, hd2⟩ : ∃ d, d = (k == 2 && (j == 0 && (l == 0 && r == 0))) := ⟨_, rfl⟩
        obtain ⟨d3, hd3⟩ : ∃ d, d = (k == 3 && (a == 0 && (bb == 0 && (l == 0 && r == 0)))) := ⟨_, rfl⟩
        have hz2 : pz ns nj m (fuel + 1 + 1) i sn = (if d1 then (if spOk nj i ⟨k, j, a, bb, l, r⟩ then ((match (pz ns nj m (fuel + 1) l.toNat (seeN sn i)).1, (pz ns nj m (fuel + 1) r.toNat (pz ns nj m (fuel + 1) l.toNat (seeN sn i)).2).1 with
            | some x, some y => some (.split j a x y)
            | _, _ => none), (pz ns nj m (fuel + 1) r.toNat (pz ns nj m (fuel + 1) l.toNat (seeN sn i)).2).2) else (none, seeN sn i))
          else if d2 then (if intB a bb then some (.energy a bb) else none, seeN sn i) else if d3 then (if decide (0 ≤ j) && decide (j < m) then some (.late j) else none, seeN sn i) else (none, seeN sn i)) := by
          rw [hz, hd1, hd2, hd3]; rfl
        obtain ⟨R, hRR⟩ : ∃ R, R = pz ns nj m (fuel + 1 + 1) i sn := ⟨_, rfl⟩
        rw [← hRR]
        rw [hz2] at hRR
        have hRR' := Lib.hid hRR
        obtain ⟨G, hG⟩ : ∃ G, G = w.heap.size := ⟨_, rfl⟩
        rw [← hG] at hnw
        obtain ⟨m0, m1, m2, m3, m4, m5⟩ := hnw
        have hGW := Lib.hid (show G < W.heap.size by rw [hW, hG]; simp)
        have hKW := Lib.hid (show Kp ge w W by rw [hW]; exact (Kp.set ge i w _).trans (Kp.of_below (below_alloc1 _ _)))
        have hKq := Lib.hid (fun (q : Nat) => hKW.out.trans (Kp.of_below (below_drewN (Below.refl W.heap.size W) q)))
        have hGe := Lib.hid (show G ≠ ge by rw [hG]; have := hR.hgw; omega)
        have z1 := hRW.out.c1
        have z2 := hRW.out.c2
        have hIH := Lib.hid ih
        have hin' : (i : Int) < (ns.length : Int) := by omega
        have hdn : decide (ns.length ≤ i) = false := by simp; omega
        have hfi' := Lib.hid hfi
        rw [← hn] at c3 c4 hin hin' hdn x3 hRW hIH hfi' ⊢
        have hd1' := Lib.hid hd1
        rw [← hd1] at e1
        rw [← hd2] at e2
        rw [← hd3] at e3
        clear hR hpat n0 n1 n2 n3 n4 n5 p0 p1 p2 p3 p4 p5 hx hz hz2 hRR hS hgg hd1 hd2 hd3 hn ih hfi
        go_enter Try.func71, Try.ntmps71
        go_upto_region 5 with fail
        rw [← hW, ← hG]
        clear hW hG y0 y1 y2 y3 y4 y5 x3 c3 c4 s0 f0
        cases d1 with
        | true =>
          cases hok : spOk nj i ⟨k, j, a, bb, l, r⟩ with
          | true =>
            unfold spOk at hok
            simp only [Bool.and_eq_true, decide_eq_true_eq] at hok
            obtain ⟨h0, h1, h2, h3⟩ := hok
            obtain ⟨A, rfl⟩ : ∃ A : Nat, l = (A : Int) := ⟨l.toNat, by omega⟩
            obtain ⟨B, rfl⟩ : ∃ B : Nat, r = (B : Int) := ⟨r.toNat, by omega⟩
            have hok2 : spOk nj i ⟨k, j, a, bb, A, B⟩ = true := by unfold spOk; simp only [Bool.and_eq_true, decide_eq_true_eq]; exact ⟨h0, h1, h2, h3⟩
            have g0 : decide (j < 0) = false := by simp; omega
            have g1 : decide ((nj : Int) ≤ j) = false := by simp; omega
            have g2 : decide ((A : Int) ≤ (i : Int)) = false := by simp; omega
            have g3 : decide ((B : Int) ≤ (i : Int)) = false := by simp; omega
            have g4 : ¬ A ≤ i := by omega
            have g5 : ¬ B ≤ i := by omega
            obtain ⟨p, hp⟩ : ∃ p, p = pz ns nj m (fuel + 1) A (seeN sn i) := ⟨_, rfl⟩
            obtain ⟨q, hq2⟩ : ∃ q, q = pz ns nj m (fuel + 1) B p.2 := ⟨_, rfl⟩
            have hR3 := Lib.hid (show R = ((match p.1, q.1 with | some x, some y => some (.split j a x y) | _, _ => none), q.2) from by
              rw [hRR'.out, hok2, hq2, hp]; rfl)
            have hfA := Lib.hid (show n ≤ A + fuel by have := hfi'.out; omega)
            have hfB := Lib.hid (show n ≤ B + fuel by have := hfi'.out; omega)
            have hcA := Lib.hid (fun (X : World) (hX : Rd w0 X b ge n P (.slice ja nj jc) (.slice oa m oc) (.slice (some ⟨g, 0, none⟩) n pc) (seeN sn i)) => hIH.out A X (seeN sn i) hfA.out hX)
            have hcB := Lib.hid (fun (X : World) (hX : Rd w0 X b ge n P (.slice ja nj jc) (.slice oa m oc) (.slice (some ⟨g, 0, none⟩) n pc) p.2) => hIH.out B X p.2 hfB.out hX)
            rw [← hp] at hcA
            rw [← hq2] at hcB
            have hmG := Lib.hid (show G < W.heap.size from hGW.out)
            clear hp hq2 hok2 hIH
            go_upto_region 7 with fail
            go_quiet (fail)
            obtain ⟨Y, hY⟩ : ∃ Y, Y = W.drewN nq := ⟨_, rfl⟩
            have hYb := Lib.hid (show Below W.heap.size W Y by rw [hY]; exact below_drewN (Below.refl _ _) nq)
            rw [← hY]
            clear hY
            have k1 := (hYb.out.cell (p := ⟨G, 1, none⟩) hmG.out).trans m1
            have k2 := (hYb.out.cell (p := ⟨G, 2, none⟩) hmG.out).trans m2
            have k4 := (hYb.out.cell (p := ⟨G, 4, none⟩) hmG.out).trans m4
            have k5 := (hYb.out.cell (p := ⟨G, 5, none⟩) hmG.out).trans m5
            have hRY := Lib.hid (hRW.out.keep hYb.out)
            have hGY := Lib.hid (Nat.lt_of_lt_of_le hmG.out hYb.out.size)
            have hcA0 := Lib.hid (hcA.out Y hRY.out)
            clear m0 m1 m2 m3 m4 m5 z1 z2 e1 e2 e3
            have hKY := Lib.hid (hKW.out.trans (Kp.of_below hYb.out))
            have hvp := val_form p.1
            have hvq := val_form q.1
            rcases hvp with ⟨p1, v1⟩ | ⟨tp, typ, vp, p1, v1, v3⟩
            · rcases hvq with ⟨q1, q2⟩ | ⟨tq, tyq, vq, q1, q2, q3⟩
              · skip
                have hfin := Lib.hid (show R = (none, q.2) from by rw [hR3.out, p1, q1])
                have hv1 := Lib.hid v1
                have hv2 := Lib.hid q2
                clear v1 q2 p1 q1
                go_wp2_with (
                  first
                  | (go_at_call 71; refine (hcA0.out).mono ?_; rintro e w2 ⟨rfl, hR2, hK2⟩
                     have k1 := (hK2.cell (k := 1) hGY.out hGe.out).trans k1
                     have k2 := (hK2.cell (k := 2) hGY.out hGe.out).trans k2
                     have k5 := (hK2.cell (k := 5) hGY.out hGe.out).trans k5
                     have hK2' := Lib.hid hK2
                     have hcB0 := Lib.hid (hcB.out w2 hR2)
                     rw [hv1.out]
                     clear hR2 hcA0 hK2)
                  | (go_at_call 71; refine (hcB0.out).mono ?_; rintro e w3 ⟨rfl, hR4, hK3⟩
                     have k1 := (hK3.cell (k := 1) (Nat.lt_of_lt_of_le hGY.out hK2'.out.size) hGe.out).trans k1
                     have k2 := (hK3.cell (k := 2) (Nat.lt_of_lt_of_le hGY.out hK2'.out.size) hGe.out).trans k2
                     have hK3' := Lib.hid hK3
                     have hR4' := Lib.hid hR4
                     rw [hv2.out]
                     clear hR4 hK3 hcB0))
                go_ret
                rw [hfin.out]
                exact ⟨rfl, hR4'.out, hKY.out.trans (hK2'.out.trans hK3'.out)⟩
              · clear q3
                have hfin := Lib.hid (show R = (none, q.2) from by rw [hR3.out, p1, q1])
                have hv1 := Lib.hid v1
                have hv2 := Lib.hid q2
                clear v1 q2 p1 q1
                go_wp2_with (
                  first
                  | (go_at_call 71; refine (hcA0.out).mono ?_; rintro e w2 ⟨rfl, hR2, hK2⟩
                     have k1 := (hK2.cell (k := 1) hGY.out hGe.out).trans k1
                     have k2 := (hK2.cell (k := 2) hGY.out hGe.out).trans k2
                     have k5 := (hK2.cell (k := 5) hGY.out hGe.out).trans k5
                     have hK2' := Lib.hid hK2
                     have hcB0 := Lib.hid (hcB.out w2 hR2)
                     rw [hv1.out]
                     clear hR2 hcA0 hK2)
                  | (go_at_call 71; refine (hcB0.out).mono ?_; rintro e w3 ⟨rfl, hR4, hK3⟩
                     have k1 := (hK3.cell (k := 1) (Nat.lt_of_lt_of_le hGY.out hK2'.out.size) hGe.out).trans k1
                     have k2 := (hK3.cell (k := 2) (Nat.lt_of_lt_of_le hGY.out hK2'.out.size) hGe.out).trans k2
                     have hK3' := Lib.hid hK3
                     have hR4' := Lib.hid hR4
                     rw [hv2.out]
                     clear hR4 hK3 hcB0))
                go_ret
                rw [hfin.out]
                exact ⟨rfl, hR4'.out, hKY.out.trans (hK2'.out.trans hK3'.out)⟩
            · rcases hvq with ⟨q1, q2⟩ | ⟨tq, tyq, vq, q1, q2, q3⟩
              · clear v3
                have hfin := Lib.hid (show R = (none, q.2) from by rw [hR3.out, p1, q1])
                have hv1 := Lib.hid v1
                have hv2 := Lib.hid q2
                clear v1 q2 p1 q1
                go_wp2_with (
                  first
                  | (go_at_call 71; refine (hcA0.out).mono ?_; rintro e w2 ⟨rfl, hR2, hK2⟩
                     have k1 := (hK2.cell (k := 1) hGY.out hGe.out).trans k1
                     have k2 := (hK2.cell (k := 2) hGY.out hGe.out).trans k2
                     have k5 := (hK2.cell (k := 5) hGY.out hGe.out).trans k5
                     have hK2' := Lib.hid hK2
                     have hcB0 := Lib.hid (hcB.out w2 hR2)
                     rw [hv1.out]
                     clear hR2 hcA0 hK2)
                  | (go_at_call 71; refine (hcB0.out).mono ?_; rintro e w3 ⟨rfl, hR4, hK3⟩
                     have k1 := (hK3.cell (k := 1) (Nat.lt_of_lt_of_le hGY.out hK2'.out.size) hGe.out).trans k1
                     have k2 := (hK3.cell (k := 2) (Nat.lt_of_lt_of_le hGY.out hK2'.out.size) hGe.out).trans k2
                     have hK3' := Lib.hid hK3
                     have hR4' := Lib.hid hR4
                     rw [hv2.out]
                     clear hR4 hK3 hcB0))
                go_ret
                rw [hfin.out]
                exact ⟨rfl, hR4'.out, hKY.out.trans (hK2'.out.trans hK3'.out)⟩
              · have hx1 := Lib.hid v3
                have hx2 := Lib.hid q3
                clear v3 q3
                have hfin := Lib.hid (show R = (some (.split j a tp tq), q.2) from by rw [hR3.out, p1, q1])
                have hv1 := Lib.hid v1
                have hv2 := Lib.hid q2
                clear v1 q2 p1 q1
                go_wp2_with (
                  first
                  | (go_at_call 71; refine (hcA0.out).mono ?_; rintro e w2 ⟨rfl, hR2, hK2⟩
                     have k1 := (hK2.cell (k := 1) hGY.out hGe.out).trans k1
                     have k2 := (hK2.cell (k := 2) hGY.out hGe.out).trans k2
                     have k5 := (hK2.cell (k := 5) hGY.out hGe.out).trans k5
                     have hK2' := Lib.hid hK2
                     have hcB0 := Lib.hid (hcB.out w2 hR2)
                     rw [hv1.out]
                     clear hR2 hcA0 hK2)
                  | (go_at_call 71; refine (hcB0.out).mono ?_; rintro e w3 ⟨rfl, hR4, hK3⟩
                     have k1 := (hK3.cell (k := 1) (Nat.lt_of_lt_of_le hGY.out hK2'.out.size) hGe.out).trans k1
                     have k2 := (hK3.cell (k := 2) (Nat.lt_of_lt_of_le hGY.out hK2'.out.size) hGe.out).trans k2
                     have hK3' := Lib.hid hK3
                     have hR4' := Lib.hid hR4
                     rw [hv2.out]
                     clear hR4 hK3 hcB0))
                go_ret
                rw [hfin.out]
                exact ⟨by rw [valO, Tr.val, hx1.out, hx2.out]; rfl, hR4'.out, hKY.out.trans (hK2'.out.trans hK3'.out)⟩
          | false =>
            have hfin := Lib.hid (show R = (none, seeN sn i) from by rw [hRR'.out, hok]; rfl)
            have hRq := Lib.hid (fun (q : Nat) => hRW.out.keep (below_drewN (Below.refl W.heap.size W) q))
            have hno : ¬ (0 ≤ j ∧ j < (nj : Int) ∧ (i : Int) < l ∧ (i : Int) < r) := fun ⟨h0, h1, h2, h3⟩ => by
              have : spOk nj i ⟨k, j, a, bb, l, r⟩ = true := by unfold spOk; simp only [Bool.and_eq_true, decide_eq_true_eq]; exact ⟨h0, h1, h2, h3⟩
              rw [this] at hok; cases hok
            clear hok hIH
            by_cases q0 : j < 0
            · have q1 : decide (j < 0) = true := by simpa using q0
              clear hno
              go_wp2_with fail
              go_quiet (fail)
              go_wp2_with fail
              go_ret
              rw [hfin.out]
              exact ⟨rfl, hRq.out _, hKq.out _⟩
            · have q1 : decide (j < 0) = false := by simpa using q0
              by_cases q2 : (nj : Int) ≤ j
              · have q3 : decide ((nj : Int) ≤ j) = true := by simpa using q2
                clear hno
                go_wp2_with fail
                go_quiet (fail)
                go_wp2_with fail
                go_ret
                rw [hfin.out]
                exact ⟨rfl, hRq.out _, hKq.out _⟩
              · have q3 : decide ((nj : Int) ≤ j) = false := by simpa using q2
                by_cases q4 : l ≤ (i : Int)
                · have q5 : decide (l ≤ (i : Int)) = true := by simpa using q4
                  clear hno
                  go_wp2_with fail
                  go_quiet (fail)
                  go_wp2_with fail
                  go_ret
                  rw [hfin.out]
                  exact ⟨rfl, hRq.out _, hKq.out _⟩
                · have q5 : decide (l ≤ (i : Int)) = false := by simpa using q4
                  have q6 : r ≤ (i : Int) := by omega
                  have q7 : decide (r ≤ (i : Int)) = true := by simpa using q6
                  clear hno
                  go_wp2_with fail
                  go_quiet (fail)
                  go_wp2_with fail
                  go_ret
                  rw [hfin.out]
                  exact ⟨rfl, hRq.out _, hKq.out _⟩
        | false =>
          clear hIH
          cases d2 with
          | true =>
            cases hi2 : intB a bb with
            | true =>
              have hI := Lib.hid (fun (W : World) => interval47 (w := W) a bb hi2)
              have hfin := Lib.hid (show R = (some (.energy a bb), seeN sn i) from by rw [hRR'.out, hi2]; rfl)
              clear hi2
              go_wp2_with (go_at_call 47; refine (hI.out _).mono ?_; rintro e w2 ⟨rfl, rfl⟩)
              go_ret
              rw [hfin.out]
              exact ⟨rfl, hRW.out, hKW.out⟩
            | false =>
              have hI := Lib.hid (fun (W : World) => interval47 (w := W) a bb hi2)
              have hfin := Lib.hid (show R = (none, seeN sn i) from by rw [hRR'.out, hi2]; rfl)
              clear hi2
              go_wp2_with (go_at_call 47; refine (hI.out _).mono ?_; rintro e w2 ⟨rfl, rfl⟩)
              go_ret
              rw [hfin.out]
              exact ⟨rfl, hRW.out, hKW.out⟩
          | false =>
            cases d3 with
            | false =>
              have hfin := Lib.hid (show R = (none, seeN sn i) from hRR'.out)
              go_wp2_with fail
              go_ret
              rw [hfin.out]
              exact ⟨rfl, hRW.out, hKW.out⟩
            | true =>
              have hRq := Lib.hid (fun (q : Nat) => hRW.out.keep (below_drewN (Below.refl W.heap.size W) q))
              by_cases q0 : j < 0
              · have q1 : decide (0 ≤ j) = false := by simpa using q0
                have hfin := Lib.hid (show R = (none, seeN sn i) from by rw [hRR'.out, q1]; rfl)
                go_wp2_with fail
                go_quiet (fail)
                go_wp2_with fail
                go_ret
                rw [hfin.out]
                exact ⟨rfl, hRq.out _, hKq.out _⟩
              · have q1 : decide (0 ≤ j) = true := by simp; omega
                have q2 : 0 ≤ j := by omega
                by_cases q3 : j < (m : Int)
                · have q4 : decide (j < (m : Int)) = true := by simpa using q3
                  have hfin := Lib.hid (show R = (some (.late j), seeN sn i) from by rw [hRR'.out, q1, q4]; rfl)
                  go_wp2_with fail
                  go_quiet (fail)
                  go_wp2_with fail
                  go_ret
                  rw [hfin.out]
                  exact ⟨rfl, hRq.out _, hKq.out _⟩
                · have q4 : decide (j < (m : Int)) = false := by simpa using q3
                  have hfin := Lib.hid (show R = (none, seeN sn i) from by rw [hRR'.out, q1, q4]; rfl)
                  go_wp2_with fail
                  go_quiet (fail)
                  go_wp2_with fail
                  go_ret
                  rw [hfin.out]
                  exact ⟨rfl, hRq.out _, hKq.out _⟩
    · have hz : pz ns nj m (fuel + 1 + 1) i sn = (none, sn) := by rw [pz, if_pos (.inl (by omega))]
      rw [hz]
      have c3 := hR.c3
      have c4 := hR.c4
      rw [← hn] at hR c3 c4 hin ⊢
      have hd1 : decide (n ≤ i) = true := by simp; omega
      have hR' := Lib.hid hR
      clear hpat hn hz hR ih
      go_enter Try.func71, Try.ntmps71
      go_wp2_with fail
      go_ret
      exact ⟨rfl, hR'.out, Kp.refl _ _⟩
end Go.Proofs.Ytjkbhdlbomcbeaa
