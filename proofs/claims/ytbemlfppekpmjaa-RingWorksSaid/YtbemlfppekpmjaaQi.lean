import Derived.Test.YtbemlfppekpmjaaQh
import Derived.Laws.StructEq
namespace Go.Proofs.Ytbemlfppekpmjaa
open Go.RowKit Rng
theorem eq69 (a b : Int) (c : Bool) (w : World) : (Op.equalIn 10000 69 (.agg #[.int .i64 a, .int .i64 b, .bool c]) (.agg #[.int .i64 a, .int .i64 b, .bool c])).run Try.prog w = .ok true w := by
  have u3 := Try.underlying3
  have a3 := Try.isAgg3
  have z3 := Try.sizeOf3
  have u4 := Try.underlying4
  have a4 := Try.isAgg4
  have z4 := Try.sizeOf4
  have hS : Try.prog.underlying 69 = some (.struct (Try.prog.fieldsOf 69)) := by kernel_rfl
  have hp : Try.prog.stoodInHeld 69 = false := by kernel_rfl
  rw [show (10000 : Nat) = 9999 + 1 from rfl, run_equalIn_agg w 9999 69 _ _ hS hp]
  simp only [Program.fieldsOf, Try.underlying69]
  go_simp
theorem guard69 : Try.prog.eqGuardType Try.prog.depth 69 = false := by kernel_rfl
def WorksEnd (w : World) (e : Ending) (w' : World) : Prop := e = .returned (.bool true) ∧ Below w.heap.size w w'
set_option maxHeartbeats 2000000 in
set_option maxRecDepth 100000 in
theorem works20 {w : World} {B b h c m hm cm : Nat} {fv fm : Value} {S : WS} (k : WkAt w B b h c fv S) (t : TkAt w B m hm cm fm S) (hv : Inv S) : Calls Try.prog 20 #[.pointer (some ⟨b, 0, none⟩), .pointer (some ⟨m, 0, none⟩)] w (WorksEnd w) := by
  have hn1 := hv.n1
  have hn10 := hv.n10
  have hro := hv.room
  have hK := Lib.hid k
  have hT := Lib.hid t
  have hfl := Lib.hid (flight37 k (by omega))
  have h38 := Lib.hid (fun (W : World) (hb : Below w.heap.size w W) => ended38 (k.below hb) hn1)
  have h54 := Lib.hid (fun (W : World) (hb : Below w.heap.size w W) => ended54 (t.below hb) hn1)
  have h41 := Lib.hid (fun (W : World) (hb : Below w.heap.size w W) (i : Nat) (hi : i < S.n) => (show Calls Try.prog 41 #[.pointer (some ⟨b, 0, none⟩), .int .i64 i] W fun e w' => e = .returned (.bool (S.hd i).wk) ∧ w' = W from by
    refine (working41 (k.below hb) (i : Int)).mono ?_
    rintro e w' ⟨rfl, rfl⟩
    rw [Int.toNat_natCast, show inB (i : Int) S.n = true by simp [inB]; omega, Bool.true_and]; exact ⟨rfl, rfl⟩))
  have h40 := Lib.hid (fun (W : World) (hb : Below w.heap.size w W) (i : Nat) (hi : i < S.n) => (show Calls Try.prog 40 #[.pointer (some ⟨b, 0, none⟩), .int .i64 i] W fun e w' => e = .returned (.int .i64 (((S.hd i).par : Int) - 1)) ∧ w' = W from by
    refine (parent40 (k.below hb) (i : Int)).mono ?_
    rintro e w' ⟨rfl, rfl⟩
    rw [Int.toNat_natCast, if_pos (show inB (i : Int) S.n = true by simp [inB]; omega)]; exact ⟨rfl, rfl⟩))
  have h42 := Lib.hid (fun (W : World) (hb : Below w.heap.size w W) (i : Nat) (hi : i < S.n) => (show Calls Try.prog 42 #[.pointer (some ⟨b, 0, none⟩), .int .i64 i] W fun e w' => e = .returned (.int .i64 (S.hd i).owed) ∧ w' = W from by
    refine (owed42 (k.below hb) (i : Int)).mono ?_
    rintro e w' ⟨rfl, rfl⟩
    rw [Int.toNat_natCast, if_pos (show inB (i : Int) S.n = true by simp [inB]; omega)]; exact ⟨rfl, rfl⟩))
  have o41 := Lib.hid (fun (W : World) (hb : Below w.heap.size w W) (x : Int) (hx : inB x S.n = false) => (show Calls Try.prog 41 #[.pointer (some ⟨b, 0, none⟩), .int .i64 x] W fun e w' => e = .returned (.bool false) ∧ W = w' from by
    have := working41 (k.below hb) x
    rw [hx, Bool.false_and] at this; exact this))
  have o40 := Lib.hid (fun (W : World) (hb : Below w.heap.size w W) (x : Int) (hx : inB x S.n = false) => (show Calls Try.prog 40 #[.pointer (some ⟨b, 0, none⟩), .int .i64 x] W fun e w' => e = .returned (.int .i64 (-1)) ∧ W = w' from by
    have := parent40 (k.below hb) x
    rw [if_neg (by rw [hx]; simp)] at this; exact this))
  have o42 := Lib.hid (fun (W : World) (hb : Below w.heap.size w W) (x : Int) (hx : inB x S.n = false) => (show Calls Try.prog 42 #[.pointer (some ⟨b, 0, none⟩), .int .i64 x] W fun e w' => e = .returned (.int .i64 0) ∧ W = w' from by
    have := owed42 (k.below hb) x
    rw [if_neg (by rw [hx]; simp)] at this; exact this))
  have b1 := Lib.hid (show inB (-1) S.n = false by simp [inB])
  have b2 := Lib.hid (show inB (S.n : Int) S.n = false by simp [inB])
  have c0 := Lib.hid (fun (W : World) (hb : Below w.heap.size w W) => (t.below hb).c0)
  have c1 := Lib.hid (fun (W : World) (hb : Below w.heap.size w W) => (t.below hb).c1)
  have hmf := Lib.hid (fun (W : World) (hb : Below w.heap.size w W) (i : Nat) (hi : i < S.fl.length) => (t.below hb).row.fl)
  have hat := Lib.hid (fun (W : World) (hb : Below w.heap.size w W) (i : Nat) (hi : i < S.n) => (t.below hb).hand hi)
  have hmc := t.nc
  obtain ⟨ma, mc, rfl, -⟩ := t.flv
  have hlet := Lib.hid (fun (W : World) (hb : Below w.heap.size w W) (i : Nat) (hi : i < S.fl.length) => (t.below hb).row.letter hi)
  obtain ⟨n, hn⟩ : ∃ n, n = S.n := ⟨_, rfl⟩
  obtain ⟨q, hq⟩ : ∃ n, n = S.fl.length := ⟨_, rfl⟩
  have hq' := Lib.hid hq
  have hn' := Lib.hid hn
  rw [← hn] at hn1 hn10 hmc h41 h40 h42 o41 o40 o42 b1 b2 c0 hat
  rw [← hq] at hro c1 hlet
  have hgd := guard69
  clear k t hv hn hq
  have y1 := c1.out w (Below.refl _ _)
  go_enter Try.func20, Try.ntmps20
  go_wp2_with (first
    | (go_at_call 37; refine hfl.out.mono ?_; rintro e w1 ⟨v1, rfl, hO, hb⟩
       have hb1 := Lib.hid hb
       have y2 := c1.out w1 hb
       have y3 := c0.out w1 hb
       obtain ⟨fa, fc, rfl, hcl⟩ : ∃ a c, v1 = .slice a q c ∧ Hid (∀ W, Below w1.heap.size w1 W → ∀ i, i < q → ∃ g, a = some ⟨g, 0, none⟩ ∧ q ≤ c ∧ W.cell? ⟨g, i * 3, none⟩ = some (.int .i64 (S.fl.getD i L0).fr) ∧ W.cell? ⟨g, i * 3 + 1, none⟩ = some (.int .i64 (S.fl.getD i L0).to) ∧ W.cell? ⟨g, i * 3 + 2, none⟩ = some (.bool (S.fl.getD i L0).ack)) := by
         obtain ⟨a, c, e, hc, h⟩ := own_cells hO
         refine ⟨a, c, by rw [e, hq'.out], fun W hbW i hi => ?_⟩
         obtain ⟨g, e2, _, hgw, hcl⟩ := h (by have := hq'.out; omega)
         obtain ⟨f1, f2, f3⟩ := fl_at (ls := S.fl) (i := i) (by have := hq'.out; omega)
         exact ⟨g, e2, by have := hq'.out; omega, (hbW.cell (p := ⟨g, i * 3, none⟩) hgw).trans (hcl _ _ f1), (hbW.cell (p := ⟨g, i * 3 + 1, none⟩) hgw).trans (hcl _ _ f2), (hbW.cell (p := ⟨g, i * 3 + 2, none⟩) hgw).trans (hcl _ _ f3)⟩
       clear hO hb)
    | (go_at_call 38; refine (h38.out _ hb1.out).mono ?_; rintro e wj ⟨rfl, rfl⟩)
    | (go_at_call 54; refine (h54.out _ hb1.out).mono ?_; rintro e wj ⟨rfl, rfl⟩))
  go_loopw [6] (fun iv wr => ∃ i : Nat, i ≤ q ∧ iv = .int .i64 i ∧ Hid (Below w1.heap.size w1 wr)) (fun iv _ => q - (intOf iv).toNat)
  case atStart => exact ⟨0, Nat.zero_le _, rfl, Lib.hid (Below.refl _ _)⟩
  case round =>
    obtain ⟨i, hi, rfl, hbr⟩ := hrel
    have hbR := Lib.hid (hb1.out.trans (hbr.out.mono hb1.out.size))
    by_cases hlt : i < q
    · obtain ⟨g, rfl, hqc, l0, l1, l2⟩ := hcl.out wr hbr.out i hlt
      obtain ⟨gm, rfl, -, hqm, -, m0, m1, m2⟩ := hlet.out wr hbR.out i hlt
      obtain ⟨⟨f, t, a⟩, hL⟩ : ∃ l, l = S.fl.getD i L0 := ⟨_, rfl⟩
      rw [← hL] at l0 l1 l2 m0 m1 m2
      simp only at l0 l1 l2 m0 m1 m2
      have he := fun W => eq69 f t a W
      have y4 := c1.out wr hbR.out
      have hii : (i : Int) < (q : Int) := by omega
      clear hL
      go_wp2_with fail
      go_quiet (fail)
      go_wp2_with fail
      go_roundw
      case rel => exact ⟨i + 1, by omega, by go_num, Lib.hid (below_drewN hbr.out _)⟩
      case measure => simp [intOf]; omega
    · obtain rfl : i = q := by omega
      go_wp2_with fail
      have hbZ := hbR
      clear hlet hmf hcl
      go_loopw [7] (fun iv wz => ∃ j : Nat, j ≤ n ∧ iv = .int .i64 j ∧ Hid (Below w.heap.size w wz)) (fun iv _ => n - (intOf iv).toNat)
      case atStart => exact ⟨0, Nat.zero_le _, rfl, hbZ⟩
      case round =>
        obtain ⟨j, hj, rfl, hbz⟩ := hrel
        have z0 := c0.out _ hbz.out
        by_cases hlt2 : j < n
        · obtain ⟨p0, p1, p2, p3, -⟩ := hat.out _ hbz.out j hlt2
          obtain ⟨⟨x, p, o⟩, hx⟩ : ∃ a, a = S.hd j := ⟨_, rfl⟩
          obtain ⟨g, hg⟩ : ∃ g, g = S.eng j := ⟨_, rfl⟩
          have hA := Lib.hid (hbz.out.trans ((below_alloc1 wr (.cells #[.bool x, .bool g, .int .i64 ((p : Int) - 1), .int .i64 o] 110)).mono hbz.out.size))
          have hgA := heap_alloc_new wr (.cells #[.bool x, .bool g, .int .i64 ((p : Int) - 1), .int .i64 o] 110)
          have r0 := cell_of_row _ _ 0 _ _ _ hgA
          have r2 := cell_of_row _ _ 2 _ _ _ hgA
          have r3 := cell_of_row _ _ 3 _ _ _ hgA
          have q41 := Lib.hid (fun (W : World) (hb : Below w.heap.size w W) => h41.out W hb j hlt2)
          have q40 := Lib.hid (fun (W : World) (hb : Below w.heap.size w W) => h40.out W hb j hlt2)
          have q42 := Lib.hid (fun (W : World) (hb : Below w.heap.size w W) => h42.out W hb j hlt2)
          rw [← hx] at p0 p2 p3 q41 q40 q42
          rw [← hg] at p1
          simp only at p0 p2 p3 q41 q40 q42
          have hji : (j : Int) < (n : Int) := by omega
          clear hx hg hgA
          go_wp2_with fail
          go_quiet (first
            | (go_at_call 41; exact Calls.quiet_of_same (q41.out _ (by first | exact hA.out | exact hA.out.drew | exact below_drewN hA.out _ | exact (below_drewN hA.out _).drew)))
            | (go_at_call 40; exact Calls.quiet_of_same (q40.out _ (by first | exact hA.out | exact hA.out.drew | exact below_drewN hA.out _ | exact (below_drewN hA.out _).drew)))
            | (go_at_call 42; exact Calls.quiet_of_same (q42.out _ (by first | exact hA.out | exact hA.out.drew | exact below_drewN hA.out _ | exact (below_drewN hA.out _).drew))))
          go_wp2_with fail
          go_roundw
          case rel => exact ⟨j + 1, by omega, by go_num, Lib.hid (below_drewN hA.out _)⟩
          case measure => simp [intOf]; omega
        · obtain rfl : j = n := by omega
          have u41 := Lib.hid (o41.out _ hbz.out _ b1.out)
          have u40 := Lib.hid (o40.out _ hbz.out _ b1.out)
          have u42 := Lib.hid (o42.out _ hbz.out _ b1.out)
          have v41 := Lib.hid (o41.out _ hbz.out _ b2.out)
          have v40 := Lib.hid (o40.out _ hbz.out _ b2.out)
          have v42 := Lib.hid (o42.out _ hbz.out _ b2.out)
          go_wp2_with (first
            | (go_at_call 41; refine u41.out.mono ?_; clear u41; rintro e wj ⟨rfl, rfl⟩)
            | (go_at_call 40; refine u40.out.mono ?_; clear u40; rintro e wj ⟨rfl, rfl⟩)
            | (go_at_call 42; refine u42.out.mono ?_; clear u42; rintro e wj ⟨rfl, rfl⟩)
            | (go_at_call 41; refine v41.out.mono ?_; rintro e wj ⟨rfl, rfl⟩)
            | (go_at_call 40; refine v40.out.mono ?_; rintro e wj ⟨rfl, rfl⟩)
            | (go_at_call 42; refine v42.out.mono ?_; rintro e wj ⟨rfl, rfl⟩))
          go_ret
          exact ⟨rfl, hbz.out⟩
end Go.Proofs.Ytbemlfppekpmjaa
