import Derived.Test.YtbemlfppekpmjaaQf
import Derived.Test.YtbemlfppekpmjaaQg
/-! The program's computation beside the reference's. -/
namespace Go.Proofs.Ytbemlfppekpmjaa
open Go.RowKit Rng
/-- Both lie apart. -/
def Pr (w0 : World) (b m : Nat) (S T : WS) (w : World) : Prop := Below w0.heap.size w0 w ∧ ∃ h c fv hm cm fm, WkAt w w0.heap.size b h c fv S ∧ TkAt w w0.heap.size m hm cm fm T ∧ ∀ k, WkP b h fv k → ¬ WkP m hm fm k
theorem Pr.prog {w0 w : World} {b m : Nat} {S S' T : WS} {f : Nat} {args : Array Value} {ev : Value} (h : Pr w0 b m S T w) (hc : ∀ h c fv, WkAt w w0.heap.size b h c fv S → Calls Try.prog f args w (WkEnd w w0.heap.size b h c fv S' ev)) : Calls Try.prog f args w fun e w' => e = .returned ev ∧ Pr w0 b m S' T w' := by
  obtain ⟨hb, h, c, fv, hm, cm, fm, k, t, hd⟩ := h
  refine (hc h c fv k).mono ?_
  rintro e w' ⟨rfl, fv', k', fr⟩
  refine ⟨rfl, hb.trans (fr.below (fun i hi => (k.pos i hi).1) hb.size), h, c, fv', hm, cm, fm, k', t.frm fr (fun i hi hp => hd i hp hi), fun i hi hp => ?_⟩
  rcases fr.fresh i hi with e | e
  · exact hd i e hp
  · have := (t.pos i hp).2; omega
theorem Pr.ref {w0 w : World} {b m : Nat} {S T T' : WS} {f : Nat} {args : Array Value} {ev : Value} (h : Pr w0 b m S T w) (hc : ∀ h c fv, TkAt w w0.heap.size m h c fv T → Calls Try.prog f args w (TkEnd w w0.heap.size m h c fv T' ev)) : Calls Try.prog f args w fun e w' => e = .returned ev ∧ Pr w0 b m S T' w' := by
  obtain ⟨hb, h, c, fv, hm, cm, fm, k, t, hd⟩ := h
  refine (hc hm cm fm t).mono ?_
  rintro e w' ⟨rfl, fm', t', fr⟩
  refine ⟨rfl, hb.trans (fr.below (fun i hi => (t.pos i hi).1) hb.size), h, c, fv, hm, cm, fm', k.frm fr (fun i hi hp => hd i hi hp), t', fun i hi hp => ?_⟩
  rcases fr.fresh i hp with e | e
  · exact hd i hi e
  · have := (k.pos i hi).2; omega
theorem Pr.below {w0 w w' : World} {b m : Nat} {S T : WS} (h : Pr w0 b m S T w) (hb : Below w.heap.size w w') : Pr w0 b m S T w' := by
  obtain ⟨hb0, h, c, fv, hm, cm, fm, k, t, hd⟩ := h
  exact ⟨hb0.trans (hb.mono hb0.size), h, c, fv, hm, cm, fm, k.below hb, t.below hb, hd⟩
theorem Pr.send {w0 w : World} {b m : Nat} {S T : WS} (h : Pr w0 b m S T w) (hv : Inv S) (f t : Int) : Calls Try.prog 27 #[.pointer (some ⟨b, 0, none⟩), .int .i64 f, .int .i64 t] w fun e w' => e = .returned (.int .i64 (sendE S f t).1) ∧ Pr w0 b m (sendE S f t).2 T w' := h.prog fun _ _ _ k => send27 k hv f t
theorem Pr.idle {w0 w : World} {b m : Nat} {S T : WS} (h : Pr w0 b m S T w) (hv : Inv S) (x : Int) : Calls Try.prog 29 #[.pointer (some ⟨b, 0, none⟩), .int .i64 x] w fun e w' => e = .returned (.int .i64 (idleE S x).1) ∧ Pr w0 b m (idleE S x).2 T w' := h.prog fun _ _ _ k => idle29 k hv x
theorem Pr.dlv {w0 w : World} {b m : Nat} {S T : WS} (h : Pr w0 b m S T w) (hv : Inv S) (x : Int) : Calls Try.prog 31 #[.pointer (some ⟨b, 0, none⟩), .int .i64 x] w fun e w' => e = .returned (.int .i64 (dlvE S x).1) ∧ Pr w0 b m (dlvE S x).2 T w' := h.prog fun _ _ _ k => deliver31 k hv x
theorem Pr.send' {w0 w : World} {b m : Nat} {S T : WS} (h : Pr w0 b m S T w) (hv : Inv T) (f t : Int) : Calls Try.prog 28 #[.pointer (some ⟨m, 0, none⟩), .int .i64 f, .int .i64 t] w fun e w' => e = .returned (.int .i64 (sendE T f t).1) ∧ Pr w0 b m S (sendE T f t).2 w' := h.ref fun _ _ _ k => send28 k hv f t
theorem Pr.idle' {w0 w : World} {b m : Nat} {S T : WS} (h : Pr w0 b m S T w) (hv : Inv T) (x : Int) : Calls Try.prog 30 #[.pointer (some ⟨m, 0, none⟩), .int .i64 x] w fun e w' => e = .returned (.int .i64 (idleE T x).1) ∧ Pr w0 b m S (idleE T x).2 w' := h.ref fun _ _ _ k => idle30 k hv x
theorem Pr.dlv' {w0 w : World} {b m : Nat} {S T : WS} (h : Pr w0 b m S T w) (hv : Inv T) (x : Int) : Calls Try.prog 32 #[.pointer (some ⟨m, 0, none⟩), .int .i64 x] w fun e w' => e = .returned (.int .i64 (dlvE T x).1) ∧ Pr w0 b m S (dlvE T x).2 w' := h.ref fun _ _ _ k => deliver32 k hv x
theorem Pr.ended {w0 w : World} {b m : Nat} {S T : WS} (h : Pr w0 b m S T w) (hn : 1 ≤ S.n) : Calls Try.prog 38 #[.pointer (some ⟨b, 0, none⟩)] w fun e w' => e = .returned (.bool (endB S)) ∧ w = w' := by
  obtain ⟨_, _, _, _, _, _, _, k, _⟩ := h
  exact ended38 k hn
/-- All is over. -/
def OverOk (S : WS) : Prop := (∀ i, i < S.n → (S.hd i).wk = false ∧ (S.hd i).par = 0 ∧ (S.hd i).owed = 0) ∧ ∀ l ∈ S.fl, l.ack = true
def OvEnd (w : World) (e : Ending) (w' : World) : Prop := e = .returned (.bool true) ∧ Below w.heap.size w w'
set_option maxHeartbeats 2000000 in
set_option maxRecDepth 100000 in
theorem over39 {w : World} {B b h c : Nat} {fv : Value} {S : WS} (k : WkAt w B b h c fv S) (hn10 : S.n ≤ 10) (hl : S.fl.length ≤ 1000) (ho : OverOk S) : Calls Try.prog 39 #[.pointer (some ⟨b, 0, none⟩), .int .i64 S.n] w (OvEnd w) := by
  have h41 := Lib.hid (fun (i : Nat) (hi : i < S.n) => (show Calls Try.prog 41 #[.pointer (some ⟨b, 0, none⟩), .int .i64 i] w fun e w' => e = .returned (.bool false) ∧ w = w' from by
    have := working41 k (i : Int)
    rw [Int.toNat_natCast, (ho.1 i hi).1, Bool.and_false] at this; exact this))
  have h40 := Lib.hid (fun (i : Nat) (hi : i < S.n) => (show Calls Try.prog 40 #[.pointer (some ⟨b, 0, none⟩), .int .i64 i] w fun e w' => e = .returned (.int .i64 (-1)) ∧ w = w' from by
    have := parent40 k (i : Int)
    rw [Int.toNat_natCast, (ho.1 i hi).2.1] at this
    have e : (if inB (i : Int) S.n = true then ((0 : Nat) : Int) - 1 else -1) = -1 := by split <;> rfl
    rw [e] at this; exact this))
  have h42 := Lib.hid (fun (i : Nat) (hi : i < S.n) => (show Calls Try.prog 42 #[.pointer (some ⟨b, 0, none⟩), .int .i64 i] w fun e w' => e = .returned (.int .i64 0) ∧ w = w' from by
    have := owed42 k (i : Int)
    rw [Int.toNat_natCast, (ho.1 i hi).2.2] at this
    have e : (if inB (i : Int) S.n = true then ((0 : Nat) : Int) else 0) = 0 := by split <;> rfl
    rw [e] at this; exact this))
  have hfl := Lib.hid (flight37 k hl)
  have hack := Lib.hid (show ∀ j, j < S.fl.length → (S.fl.getD j L0).ack = true from fun j hj => by
    rw [List.getD_eq_getElem?_getD, List.getElem?_eq_getElem hj]; exact ho.2 _ (List.getElem_mem _))
  obtain ⟨n, hn⟩ : ∃ n, n = S.n := ⟨_, rfl⟩
  obtain ⟨q, hq⟩ : ∃ n, n = S.fl.length := ⟨_, rfl⟩
  rw [← hn] at h41 h40 h42 hn10 ⊢
  rw [← hq] at hack hl
  have hq' := Lib.hid hq
  clear k ho hn hq
  go_enter Try.func39, Try.ntmps39
  go_wp2_with fail
  go_loopw [5] (fun iv wr => ∃ j : Nat, j ≤ n ∧ iv = .int .i64 j ∧ Hid (Same w wr)) (fun iv _ => n - (intOf iv).toNat)
  case atStart => exact ⟨0, Nat.zero_le _, rfl, Lib.hid (show Same _ _ from rfl)⟩
  case round =>
    obtain ⟨j, hj, rfl, hw⟩ := hrel
    obtain rfl := hw.out
    by_cases hlt : j < n
    · have hji : (j : Int) < (n : Int) := by omega
      go_wp2_with (first
        | (go_at_call 41; refine (h41.out j hlt).mono ?_; rintro e wj ⟨rfl, rfl⟩)
        | (go_at_call 40; refine (h40.out j hlt).mono ?_; rintro e wj ⟨rfl, rfl⟩)
        | (go_at_call 42; refine (h42.out j hlt).mono ?_; rintro e wj ⟨rfl, rfl⟩))
      go_roundw
      case rel => exact ⟨j + 1, by omega, by go_num, Lib.hid (show Same _ _ from rfl)⟩
      case measure => simp [intOf]; omega
    · obtain rfl : j = n := by omega
      go_wp2_with (go_at_call 37; refine hfl.out.mono ?_; rintro e w1 ⟨v1, rfl, hO, hb⟩
                   have hO' := Lib.hid hO
                   have hb' := Lib.hid hb
                   obtain ⟨fa, fc, rfl, hcl⟩ : ∃ a c, v1 = .slice a q c ∧ (∀ i, i < q → ∃ g, a = some ⟨g, 0, none⟩ ∧ w1.cell? ⟨g, i * 3 + 2, none⟩ = some (.bool true) ∧ q ≤ c) := by
                     obtain ⟨a, c, e, hc, h⟩ := own_cells hO
                     refine ⟨a, c, by rw [e, hq'.out], fun i hi => ?_⟩
                     obtain ⟨g, e2, _, _, hcl⟩ := h (by have := hq'.out; omega)
                     have f3 := (fl_at (ls := S.fl) (i := i) (by have := hq'.out; omega)).2.2
                     rw [hack.out i hi] at f3
                     exact ⟨g, e2, hcl _ _ f3, by have := hq'.out; omega⟩
                   have hcl' := Lib.hid hcl
                   clear hO hb hcl)
      go_loopw [7] (fun iv wr => ∃ i : Nat, i ≤ q ∧ iv = .int .i64 i ∧ Hid (Same w1 wr)) (fun iv _ => q - (intOf iv).toNat)
      case atStart => exact ⟨0, Nat.zero_le _, rfl, Lib.hid (show Same _ _ from rfl)⟩
      case round =>
        obtain ⟨i, hi, rfl, hw2⟩ := hrel
        obtain rfl := hw2.out
        by_cases hlt2 : i < q
        · obtain ⟨g, rfl, hc, hqc⟩ := hcl'.out i hlt2
          have hii : (i : Int) < (q : Int) := by omega
          go_wp2_with fail
          go_roundw
          case rel => exact ⟨i + 1, by omega, by go_num, Lib.hid (show Same _ _ from rfl)⟩
          case measure => simp [intOf]; omega
        · obtain rfl : i = q := by omega
          go_wp2_with fail
          go_ret
          exact ⟨rfl, hb'.out⟩
end Go.Proofs.Ytbemlfppekpmjaa
