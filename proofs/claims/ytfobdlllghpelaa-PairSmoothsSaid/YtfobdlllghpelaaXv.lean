import Derived.Test.YtfobdlllghpelaaXu
import Derived.Deep.RegionHeld3
import Derived.Laws.StructEq
namespace Go.Proofs.Ytfobdlllghpelaa
open Go.RowKit Go.Shelf Pair
attribute [local go_sem] Oper.semAt_some

/-- What the closure of the search for the least falling row leans on. -/
structure OptInvF (w : World) (s sw sc bm gm n N : Nat) (ao : Option Addr) (c : Nat) (fw fc : Value) (xs : List (List Int)) (bfr S : Nat) (W : World) : Prop where
  fx : Fx W s sw sc bm gm n N ao c fw fc
  row : FRow W w.heap.size gm N xs
  cf : W.cell? ⟨bfr, 0, none⟩ = some (.int .u64 (S : Int))
  ff : W.frozen? ⟨bfr, 0, none⟩ = false
  be : Below w.heap.size w W
  lt : S < N
theorem OptInvF.keep {w W W' : World} {s sw sc bm gm n N c bfr S C : Nat} {ao : Option Addr} {fw fc : Value} {xs : List (List Int)} (h : OptInvF w s sw sc bm gm n N ao c fw fc xs bfr S W) (hb : Below C W W') (hl : s < C ∧ sw < C ∧ sc < C ∧ bm < C) (hg : gm < C) (hf : bfr < C) (hw : w.heap.size ≤ C) (hs : W.heap.size ≤ W'.heap.size) : OptInvF w s sw sc bm gm n N ao c fw fc xs bfr S W' :=
  ⟨h.fx.keep hb hl, h.row.keep hb hg hs, (hb.cell (p := ⟨bfr, 0, none⟩) hf).trans h.cf, (hb.frozen (p := ⟨bfr, 0, none⟩) hf).trans h.ff, h.be.trans (hb.mono hw), h.lt⟩
theorem OptInvF.set {w W : World} {s sw sc bm gm n N c bfr S : Nat} {ao : Option Addr} {fw fc : Value} {xs : List (List Int)} (h : OptInvF w s sw sc bm gm n N ao c fw fc xs bfr S W) (h1 : s ≠ bfr ∧ sw ≠ bfr ∧ sc ≠ bfr ∧ bm ≠ bfr) (h2 : bfr ≠ gm) (h3 : w.heap.size ≤ bfr) (T : Nat) (hT : T < N) :
    OptInvF w s sw sc bm gm n N ao c fw fc xs bfr T (W.setCell ⟨bfr, 0, none⟩ (.int .u64 (T : Int))) :=
  ⟨h.fx.set h1, h.row.other h2, World.cell?_setCell_same' _ _ _ (by rw [h.cf]; rfl), by rw [World.frozen?_setCell]; exact h.ff, below_set h.be h3, hT⟩
def OptPostF (w : World) (s sw sc bm gm n N : Nat) (ao : Option Addr) (c : Nat) (fw fc : Value) (xs : List (List Int)) (bfr B : Nat) (W : World) (d : Bool) (S : Nat) (e : Ending) (W' : World) : Prop :=
  e = .returned (.bool d) ∧ OptInvF w s sw sc bm gm n N ao c fw fc xs bfr S W' ∧ Stays B W W' ∧ KeepsOthers W W' ∧ ∀ b, b ≠ bfr → b < W.heap.size → W'.heap[b]? = W.heap[b]?
def decF (cs : List (List Int)) (n S i j T : Nat) : Bool := decide (insF (optF cs n (szS T) T) (costAt cs i j) = optF cs n (szS S) S)
def nxtF (cs : List (List Int)) (n S i j T : Nat) : Nat := if decF cs n S i j T then T else S

set_option maxHeartbeats 4000000 in
set_option maxRecDepth 100000 in
theorem opt81 {w W : World} {s sw sc bm gm n N c bfr S i j T : Nat} {ao : Option Addr} {fc : Value} {cs : List (List Int)} (h : OptInvF w s sw sc bm gm n N ao c (.func (.func 56) #[] #[]) fc (optTF cs n N) bfr S W)
    (hv : Sq w (.slice ao n c) cs n) (hc : ∀ i j, i < n → j < n → 0 ≤ costAt cs i j) (hN : N = 2 ^ n) (hn8 : n ≤ 8) (h1 : s ≠ bfr ∧ sw ≠ bfr ∧ sc ≠ bfr ∧ bm ≠ bfr) (h2 : bfr ≠ gm) (h3 : w.heap.size ≤ bfr) (B : Nat) (hB : bfr < B) (hBl : s < W.heap.size ∧ sw < W.heap.size ∧ sc < W.heap.size ∧ bm < W.heap.size ∧ bfr < W.heap.size)
    (hi : i < n) (hj : j < n) (hT : T < N) :
    Calls Try.prog 81 #[.int .i64 i, .int .i64 j, .int .u64 T, .pointer (some ⟨sw, 0, none⟩), .pointer (some ⟨bm, 0, none⟩), .pointer (some ⟨s, 0, none⟩), .pointer (some ⟨bfr, 0, none⟩)] W
      (OptPostF w s sw sc bm gm n N ao c (.func (.func 56) #[] #[]) fc (optTF cs n N) bfr B W (decF cs n S i j T) (nxtF cs n S i j T)) := by
  have hb' := h
  have hSN := h.lt
  obtain ⟨⟨f0, f1, f2, f3⟩, hrow, cf, ff, hbe, _⟩ := h
  have h' := Lib.hid hb'
  have hszT : szS T ≤ n := by rw [szS_sz (by rw [← hN]; exact hT) hn8]; exact sz_le _ _
  have hszS : szS S ≤ n := by rw [szS_sz (by rw [← hN]; exact hSN) hn8]; exact sz_le _ _
  have hrow' := Lib.hid hrow
  have eT : (optTF cs n N).getD T zeroF = optF cs n (szS T) T := by rw [hN]; exact optTF_full cs (by rw [← hN]; exact hT)
  have eS : (optTF cs n N).getD S zeroF = optF cs n (szS S) S := by rw [hN]; exact optTF_full cs (by rw [← hN]; exact hSN)
  have lT := optF_len hn8 hc (szS T) T hszT
  have lS := optF_len hn8 hc (szS S) S hszS
  obtain ⟨g1, o1, e1, hg1, g2, o2, rc, c1, hg2, hc2⟩ := (hv.below hbe).at hi
  have c2 := hc2 j hj
  rw [e1] at f0
  have hldT : ∀ (W' : World), FRow W' w.heap.size gm N (optTF cs n N) → ∀ k, k < 8 → W'.cell? ⟨gm, T * 8 + k, none⟩ = some (.int .i64 ((optF cs n (szS T) T).getD k 0)) := fun W' hr k hk => by rw [← eT]; exact hr.2.2.1 T k hT hk
  have hldS : ∀ (W' : World), FRow W' w.heap.size gm N (optTF cs n N) → ∀ k, k < 8 → W'.cell? ⟨gm, S * 8 + k, none⟩ = some (.int .i64 ((optF cs n (szS S) S).getD k 0)) := fun W' hr k hk => by rw [← eS]; exact hr.2.2.1 S k hSN hk
  obtain ⟨P, hP⟩ : ∃ P, P = optF cs n (szS T) T := ⟨_, rfl⟩
  obtain ⟨R, hR⟩ : ∃ R, R = optF cs n (szS S) S := ⟨_, rfl⟩
  obtain ⟨Q, hQ⟩ : ∃ Q, Q = costAt cs i j := ⟨_, rfl⟩
  have hd := Lib.hid (show decF cs n S i j T = decide (insF P Q = R) by unfold decF; rw [← hP, ← hQ, ← hR])
  have hn := Lib.hid (show nxtF cs n S i j T = if decide (insF P Q = R) then T else S by unfold nxtF decF; rw [← hP, ← hQ, ← hR])
  rw [← hP] at hldT lT
  rw [← hR] at hldS lS
  rw [← hQ] at c2
  rw [hd.out, hn.out]
  obtain ⟨xs, hxs⟩ : ∃ xs, xs = optTF cs n N := ⟨_, rfl⟩
  clear eT eS
  rw [← hxs] at hrow' hldT hldS h' hb' ⊢
  have hwith := Lib.hid (fun (W' : World) => with56 (w := W') lT Q)
  rw [withF_ins lT] at hwith
  have lX : (insF P Q).length = 8 := by rw [insF_len, lT]
  obtain ⟨X, hX⟩ : ∃ X, X = insF P Q := ⟨_, rfl⟩
  rw [← hX] at hwith lX ⊢
  have heq := Lib.hid (fun (W' : World) => eq79 lX lS W')
  have hgd : Try.prog.eqGuardType Try.prog.depth 79 = false := by kernel_rfl
  have hgm := hrow'.out.lt
  have hsz := Lib.hid hBl
  have lP := lT
  have lR := lS
  have lX := Lib.hid lX
  clear hP hR hQ hd hn hc2 e1 hrow hbe hc hv hN lT lS hX hxs hb'
  have hfin := Lib.hid (fun (W' : World) (hb : Below W.heap.size W W') => show OptInvF w s sw sc bm gm n N ao c (.func (.func 56) #[] #[]) fc xs bfr S W' from h'.out.keep hb ⟨hsz.out.1, hsz.out.2.1, hsz.out.2.2.1, hsz.out.2.2.2.1⟩ hgm.2 hsz.out.2.2.2.2 (by omega) hb.size)
  obtain ⟨p0, p1, p2, p3, p4, p5, p6, p7, rfl⟩ := eight lP
  obtain ⟨r0, r1, r2, r3, r4, r5, r6, r7, rfl⟩ := eight lR
  obtain ⟨x0, x1, x2, x3, x4, x5, x6, x7, hxx⟩ := eight lX.out
  rw [hxx] at hwith heq ⊢
  have kp0 : W.cell? ⟨gm, T * 8, none⟩ = some (.int .i64 p0) := hldT W hrow'.out 0 (by omega)
  have kr0 : W.cell? ⟨gm, S * 8, none⟩ = some (.int .i64 r0) := hldS W hrow'.out 0 (by omega)
  have kp1 : W.cell? ⟨gm, T * 8 + 1, none⟩ = some (.int .i64 p1) := hldT W hrow'.out 1 (by omega)
  have kr1 : W.cell? ⟨gm, S * 8 + 1, none⟩ = some (.int .i64 r1) := hldS W hrow'.out 1 (by omega)
  have kp2 : W.cell? ⟨gm, T * 8 + 2, none⟩ = some (.int .i64 p2) := hldT W hrow'.out 2 (by omega)
  have kr2 : W.cell? ⟨gm, S * 8 + 2, none⟩ = some (.int .i64 r2) := hldS W hrow'.out 2 (by omega)
  have kp3 : W.cell? ⟨gm, T * 8 + 3, none⟩ = some (.int .i64 p3) := hldT W hrow'.out 3 (by omega)
  have kr3 : W.cell? ⟨gm, S * 8 + 3, none⟩ = some (.int .i64 r3) := hldS W hrow'.out 3 (by omega)
  have kp4 : W.cell? ⟨gm, T * 8 + 4, none⟩ = some (.int .i64 p4) := hldT W hrow'.out 4 (by omega)
  have kr4 : W.cell? ⟨gm, S * 8 + 4, none⟩ = some (.int .i64 r4) := hldS W hrow'.out 4 (by omega)
  have kp5 : W.cell? ⟨gm, T * 8 + 5, none⟩ = some (.int .i64 p5) := hldT W hrow'.out 5 (by omega)
  have kr5 : W.cell? ⟨gm, S * 8 + 5, none⟩ = some (.int .i64 r5) := hldS W hrow'.out 5 (by omega)
  have kp6 : W.cell? ⟨gm, T * 8 + 6, none⟩ = some (.int .i64 p6) := hldT W hrow'.out 6 (by omega)
  have kr6 : W.cell? ⟨gm, S * 8 + 6, none⟩ = some (.int .i64 r6) := hldS W hrow'.out 6 (by omega)
  have kp7 : W.cell? ⟨gm, T * 8 + 7, none⟩ = some (.int .i64 p7) := hldT W hrow'.out 7 (by omega)
  have kr7 : W.cell? ⟨gm, S * 8 + 7, none⟩ = some (.int .i64 r7) := hldS W hrow'.out 7 (by omega)
  simp only [arr8, List.map_cons, List.map_nil] at hwith heq
  have hbase := Below.refl W.heap.size W
  have m1 := hsz.out.1
  have m2 := hsz.out.2.1
  have m4 := hsz.out.2.2.2.1
  have m5 := hsz.out.2.2.2.2
  have m6 := hgm.2
  clear hldT hldS hgm hxx lX lP lR
  by_cases he : [x0, x1, x2, x3, x4, x5, x6, x7] = [r0, r1, r2, r3, r4, r5, r6, r7]
  · have heq' : ∀ W' : World, (Op.equalIn 10000 79 (.agg #[.int .i64 x0, .int .i64 x1, .int .i64 x2, .int .i64 x3, .int .i64 x4, .int .i64 x5, .int .i64 x6, .int .i64 x7]) (.agg #[.int .i64 r0, .int .i64 r1, .int .i64 r2, .int .i64 r3, .int .i64 r4, .int .i64 r5, .int .i64 r6, .int .i64 r7])).run Try.prog W' = .ok true W' := fun W' => by rw [heq.out, decide_eq_true he]
    rw [decide_eq_true he, if_pos rfl]
    clear heq he
    go_enter Try.func81, Try.ntmps81
    go_wp2_with fail
    go_region_held3 (fun w' => (w'.cell? ⟨s, 0, none⟩ = some (.slice (some ⟨g1, o1, none⟩) n c) ∧ w'.cell? ⟨sw, 0, none⟩ = some (.func (.func 56) #[] #[]) ∧ w'.cell? ⟨bm, 0, none⟩ = some (.slice (some ⟨gm, 0, none⟩) N N) ∧ w'.cell? ⟨bfr, 0, none⟩ = some (.int .u64 (S : Int))) ∧ (w'.cell? ⟨g1, o1 + i, none⟩ = some (.slice (some ⟨g2, o2, none⟩) n rc) ∧ w'.cell? ⟨g2, o2 + j, none⟩ = some (.int .i64 Q)) ∧ (w'.cell? ⟨gm, T * 8, none⟩ = some (.int .i64 p0) ∧ w'.cell? ⟨gm, T * 8 + 1, none⟩ = some (.int .i64 p1) ∧ w'.cell? ⟨gm, T * 8 + 2, none⟩ = some (.int .i64 p2) ∧ w'.cell? ⟨gm, T * 8 + 3, none⟩ = some (.int .i64 p3) ∧ w'.cell? ⟨gm, T * 8 + 4, none⟩ = some (.int .i64 p4) ∧ w'.cell? ⟨gm, T * 8 + 5, none⟩ = some (.int .i64 p5) ∧ w'.cell? ⟨gm, T * 8 + 6, none⟩ = some (.int .i64 p6) ∧ w'.cell? ⟨gm, T * 8 + 7, none⟩ = some (.int .i64 p7)) ∧ (w'.cell? ⟨gm, S * 8, none⟩ = some (.int .i64 r0) ∧ w'.cell? ⟨gm, S * 8 + 1, none⟩ = some (.int .i64 r1) ∧ w'.cell? ⟨gm, S * 8 + 2, none⟩ = some (.int .i64 r2) ∧ w'.cell? ⟨gm, S * 8 + 3, none⟩ = some (.int .i64 r3) ∧ w'.cell? ⟨gm, S * 8 + 4, none⟩ = some (.int .i64 r4) ∧ w'.cell? ⟨gm, S * 8 + 5, none⟩ = some (.int .i64 r5) ∧ w'.cell? ⟨gm, S * 8 + 6, none⟩ = some (.int .i64 r6) ∧ w'.cell? ⟨gm, S * 8 + 7, none⟩ = some (.int .i64 r7)))
      (first
        | exact ⟨⟨f0, f1, f3, cf⟩, ⟨c1, c2⟩, ⟨kp0, kp1, kp2, kp3, kp4, kp5, kp6, kp7⟩, ⟨kr0, kr1, kr2, kr3, kr4, kr5, kr6, kr7⟩⟩
        | exact ⟨⟨(hb2.cell (p := ⟨s, 0, none⟩) m1).trans f0, (hb2.cell (p := ⟨sw, 0, none⟩) m2).trans f1, (hb2.cell (p := ⟨bm, 0, none⟩) m4).trans f3, (hb2.cell (p := ⟨bfr, 0, none⟩) m5).trans cf⟩, ⟨(hb2.cell (p := ⟨g1, o1 + i, none⟩) hg1).trans c1, (hb2.cell (p := ⟨g2, o2 + j, none⟩) hg2).trans c2⟩, ⟨(hb2.cell (p := ⟨gm, T * 8, none⟩) m6).trans kp0, (hb2.cell (p := ⟨gm, T * 8 + 1, none⟩) m6).trans kp1, (hb2.cell (p := ⟨gm, T * 8 + 2, none⟩) m6).trans kp2, (hb2.cell (p := ⟨gm, T * 8 + 3, none⟩) m6).trans kp3, (hb2.cell (p := ⟨gm, T * 8 + 4, none⟩) m6).trans kp4, (hb2.cell (p := ⟨gm, T * 8 + 5, none⟩) m6).trans kp5, (hb2.cell (p := ⟨gm, T * 8 + 6, none⟩) m6).trans kp6, (hb2.cell (p := ⟨gm, T * 8 + 7, none⟩) m6).trans kp7⟩, ⟨(hb2.cell (p := ⟨gm, S * 8, none⟩) m6).trans kr0, (hb2.cell (p := ⟨gm, S * 8 + 1, none⟩) m6).trans kr1, (hb2.cell (p := ⟨gm, S * 8 + 2, none⟩) m6).trans kr2, (hb2.cell (p := ⟨gm, S * 8 + 3, none⟩) m6).trans kr3, (hb2.cell (p := ⟨gm, S * 8 + 4, none⟩) m6).trans kr4, (hb2.cell (p := ⟨gm, S * 8 + 5, none⟩) m6).trans kr5, (hb2.cell (p := ⟨gm, S * 8 + 6, none⟩) m6).trans kr6, (hb2.cell (p := ⟨gm, S * 8 + 7, none⟩) m6).trans kr7⟩⟩)
      (first
        | (go_at_call 56; refine (hwith.out _).mono ?_; rintro e w2 ⟨rfl, hb2'⟩; have hb2 := below_call hbase.drew hb2'))
    have hinv := Lib.hid (hfin.out w2 hb2)
    have hbk := Lib.hid (fun (b : Nat) (hl : b < W.heap.size) => hb2.block b hl)
    have ff2 := (hb2.frozen (p := ⟨bfr, 0, none⟩) m5).trans ff
    have cf2 := (hb2.cell (p := ⟨bfr, 0, none⟩) m5).trans cf
    have hsy := Lib.hid (show Stays B W w2 from ⟨hb2.size, fun g _ hl => hb2.block g hl⟩)
    have hko := Lib.hid (show KeepsOthers W w2 from ⟨hb2.size, fun D o h _ => (hb2.block D (Array.getElem?_eq_some_iff.1 h).1).trans h⟩)
    clear hb2
    go_wp2_with fail
    go_ret
    exact ⟨rfl, hinv.out.set h1 h2 h3 T hT, hsy.out.set hB, hko.out.trans (KeepsOthers.setCell _ _ _), fun b hne hl => (heap_setCell_other w2 ⟨bfr, 0, none⟩ b _ (by show b ≠ bfr; exact hne)).trans (hbk.out b hl)⟩
  · have heq' : ∀ W' : World, (Op.equalIn 10000 79 (.agg #[.int .i64 x0, .int .i64 x1, .int .i64 x2, .int .i64 x3, .int .i64 x4, .int .i64 x5, .int .i64 x6, .int .i64 x7]) (.agg #[.int .i64 r0, .int .i64 r1, .int .i64 r2, .int .i64 r3, .int .i64 r4, .int .i64 r5, .int .i64 r6, .int .i64 r7])).run Try.prog W' = .ok false W' := fun W' => by rw [heq.out, decide_eq_false he]
    rw [decide_eq_false he, if_neg Bool.false_ne_true]
    clear heq he
    go_enter Try.func81, Try.ntmps81
    go_wp2_with fail
    go_region_held3 (fun w' => (w'.cell? ⟨s, 0, none⟩ = some (.slice (some ⟨g1, o1, none⟩) n c) ∧ w'.cell? ⟨sw, 0, none⟩ = some (.func (.func 56) #[] #[]) ∧ w'.cell? ⟨bm, 0, none⟩ = some (.slice (some ⟨gm, 0, none⟩) N N) ∧ w'.cell? ⟨bfr, 0, none⟩ = some (.int .u64 (S : Int))) ∧ (w'.cell? ⟨g1, o1 + i, none⟩ = some (.slice (some ⟨g2, o2, none⟩) n rc) ∧ w'.cell? ⟨g2, o2 + j, none⟩ = some (.int .i64 Q)) ∧ (w'.cell? ⟨gm, T * 8, none⟩ = some (.int .i64 p0) ∧ w'.cell? ⟨gm, T * 8 + 1, none⟩ = some (.int .i64 p1) ∧ w'.cell? ⟨gm, T * 8 + 2, none⟩ = some (.int .i64 p2) ∧ w'.cell? ⟨gm, T * 8 + 3, none⟩ = some (.int .i64 p3) ∧ w'.cell? ⟨gm, T * 8 + 4, none⟩ = some (.int .i64 p4) ∧ w'.cell? ⟨gm, T * 8 + 5, none⟩ = some (.int .i64 p5) ∧ w'.cell? ⟨gm, T * 8 + 6, none⟩ = some (.int .i64 p6) ∧ w'.cell? ⟨gm, T * 8 + 7, none⟩ = some (.int .i64 p7)) ∧ (w'.cell? ⟨gm, S * 8, none⟩ = some (.int .i64 r0) ∧ w'.cell? ⟨gm, S * 8 + 1, none⟩ = some (.int .i64 r1) ∧ w'.cell? ⟨gm, S * 8 + 2, none⟩ = some (.int .i64 r2) ∧ w'.cell? ⟨gm, S * 8 + 3, none⟩ = some (.int .i64 r3) ∧ w'.cell? ⟨gm, S * 8 + 4, none⟩ = some (.int .i64 r4) ∧ w'.cell? ⟨gm, S * 8 + 5, none⟩ = some (.int .i64 r5) ∧ w'.cell? ⟨gm, S * 8 + 6, none⟩ = some (.int .i64 r6) ∧ w'.cell? ⟨gm, S * 8 + 7, none⟩ = some (.int .i64 r7)))
      (first
        | exact ⟨⟨f0, f1, f3, cf⟩, ⟨c1, c2⟩, ⟨kp0, kp1, kp2, kp3, kp4, kp5, kp6, kp7⟩, ⟨kr0, kr1, kr2, kr3, kr4, kr5, kr6, kr7⟩⟩
        | exact ⟨⟨(hb2.cell (p := ⟨s, 0, none⟩) m1).trans f0, (hb2.cell (p := ⟨sw, 0, none⟩) m2).trans f1, (hb2.cell (p := ⟨bm, 0, none⟩) m4).trans f3, (hb2.cell (p := ⟨bfr, 0, none⟩) m5).trans cf⟩, ⟨(hb2.cell (p := ⟨g1, o1 + i, none⟩) hg1).trans c1, (hb2.cell (p := ⟨g2, o2 + j, none⟩) hg2).trans c2⟩, ⟨(hb2.cell (p := ⟨gm, T * 8, none⟩) m6).trans kp0, (hb2.cell (p := ⟨gm, T * 8 + 1, none⟩) m6).trans kp1, (hb2.cell (p := ⟨gm, T * 8 + 2, none⟩) m6).trans kp2, (hb2.cell (p := ⟨gm, T * 8 + 3, none⟩) m6).trans kp3, (hb2.cell (p := ⟨gm, T * 8 + 4, none⟩) m6).trans kp4, (hb2.cell (p := ⟨gm, T * 8 + 5, none⟩) m6).trans kp5, (hb2.cell (p := ⟨gm, T * 8 + 6, none⟩) m6).trans kp6, (hb2.cell (p := ⟨gm, T * 8 + 7, none⟩) m6).trans kp7⟩, ⟨(hb2.cell (p := ⟨gm, S * 8, none⟩) m6).trans kr0, (hb2.cell (p := ⟨gm, S * 8 + 1, none⟩) m6).trans kr1, (hb2.cell (p := ⟨gm, S * 8 + 2, none⟩) m6).trans kr2, (hb2.cell (p := ⟨gm, S * 8 + 3, none⟩) m6).trans kr3, (hb2.cell (p := ⟨gm, S * 8 + 4, none⟩) m6).trans kr4, (hb2.cell (p := ⟨gm, S * 8 + 5, none⟩) m6).trans kr5, (hb2.cell (p := ⟨gm, S * 8 + 6, none⟩) m6).trans kr6, (hb2.cell (p := ⟨gm, S * 8 + 7, none⟩) m6).trans kr7⟩⟩)
      (first
        | (go_at_call 56; refine (hwith.out _).mono ?_; rintro e w2 ⟨rfl, hb2'⟩; have hb2 := below_call hbase.drew hb2'))
    have hinv := Lib.hid (hfin.out w2 hb2)
    have hbk := Lib.hid (fun (b : Nat) (hl : b < W.heap.size) => hb2.block b hl)
    have ff2 := (hb2.frozen (p := ⟨bfr, 0, none⟩) m5).trans ff
    have cf2 := (hb2.cell (p := ⟨bfr, 0, none⟩) m5).trans cf
    have hsy := Lib.hid (show Stays B W w2 from ⟨hb2.size, fun g _ hl => hb2.block g hl⟩)
    have hko := Lib.hid (show KeepsOthers W w2 from ⟨hb2.size, fun D o h _ => (hb2.block D (Array.getElem?_eq_some_iff.1 h).1).trans h⟩)
    clear hb2
    go_wp2_with fail
    go_ret
    exact ⟨rfl, hinv.out, hsy.out, hko.out, fun b _ hl => hbk.out b hl⟩
end Go.Proofs.Ytfobdlllghpelaa
