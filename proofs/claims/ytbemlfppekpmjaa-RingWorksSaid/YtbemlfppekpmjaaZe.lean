import Derived.Test.YtbemlfppekpmjaaZd
import Derived.Test.YtbemlfppekpmjaaZb
import Derived.Test.YtbemlfppekpmjaaK
/-! What the examples answer. -/
namespace Go.Proofs.Ytbemlfppekpmjaa
open Go.RowKit Rng
theorem RgAt.congr {w : World} {B b n : Nat} {pet : Bool} {rv : Value} {bs : Nat → Nat} {fvs : Nat → Value} {Ms Ms' : Nat → Mb} (h : RgAt w B b pet n rv bs fvs Ms) (e : ∀ j, j < n → Ms j = Ms' j) : RgAt w B b pet n rv bs fvs Ms' :=
  ⟨h.Bb, h.bw, h.c0, h.c1, ⟨h.ms.row, fun j hj => by rw [← e j hj]; exact h.ms.mem j hj, h.ms.apart, h.ms.ne⟩, h.br, h.bo⟩
theorem RgEnd.congr {w w' : World} {B b n : Nat} {pet : Bool} {rv : Value} {bs : Nat → Nat} {fvs : Nat → Value} {Ms Ms' : Nat → Mb} {ev : Value} {x : Ending} (h : RgEnd w B b pet n rv bs fvs Ms ev x w') (e : ∀ j, j < n → Ms j = Ms' j) : RgEnd w B b pet n rv bs fvs Ms' ev x w' := by
  obtain ⟨h1, f, h2, h3⟩ := h
  exact ⟨h1, f, h2.congr e, h3⟩
/-- What a call on a ring keeps. -/
def RgK (w0 : World) (b : Nat) (Ms : Nat → Mb) (w : World) : Prop := Below w0.heap.size w0 w ∧ ∃ rv bs fvs, RgAt w w0.heap.size b true 1 rv bs fvs Ms
theorem RgK.step {w0 w : World} {b : Nat} {Ms Ms' : Nat → Mb} {f : Nat} {args : Array Value} {ev : Value} (h : RgK w0 b Ms w) (hc : ∀ rv bs fvs, RgAt w w0.heap.size b true 1 rv bs fvs Ms → Calls Try.prog f args w (RgEnd w w0.heap.size b true 1 rv bs fvs Ms' ev)) : Calls Try.prog f args w fun e w' => e = .returned ev ∧ RgK w0 b Ms' w' := by
  obtain ⟨hb, rv, bs, fvs, hr⟩ := h
  refine (hc rv bs fvs hr).mono ?_
  rintro e w' ⟨rfl, fvs', hr', fr⟩
  exact ⟨rfl, hb.trans (fr.below (fun k hk => (hr.pos k hk).1) hb.size), rv, bs, fvs', hr'⟩
def Lv0 : Nat → Mb := fun _ => Mb.new 7
def Lv1 : Nat → Mb := fun _ => ⟨true, 0, 1, [⟨1, 7⟩], 7, 0, false⟩
def Lv2 : Nat → Mb := fun _ => ⟨true, 7, 2, [⟨3, 7⟩], 7, 0, false⟩
def Lv3 : Nat → Mb := fun _ => ⟨true, 7, 2, [], 7, 0, false⟩
theorem zero_of {j : Nat} (h : j < 1) : j = 0 := by omega
theorem lvStart {w0 w : World} {b : Nat} (h : RgK w0 b Lv0 w) : Calls Try.prog 22 #[.pointer (some ⟨b, 0, none⟩), .int .i64 0] w fun e w' => e = .returned (.int .i64 0) ∧ RgK w0 b Lv1 w' :=
  h.step fun rv bs fvs hr => (start22t hr (fun W b fv M k hl hs => start104 k (by omega) (by omega)) (fun j hj => ⟨by show ([] : List Nt).length ≤ 90000; simp, by show 0 ≤ 90000; omega⟩) 0).mono fun e w' he => RgEnd.congr he fun j hj => by rw [zero_of hj]; rfl
theorem lvDel1 {w0 w : World} {b : Nat} (h : RgK w0 b Lv1 w) : Calls Try.prog 25 #[.pointer (some ⟨b, 0, none⟩), .int .i64 0] w fun e w' => e = .returned (.int .i64 0) ∧ RgK w0 b Lv2 w' :=
  h.step fun rv bs fvs hr => (dlv25t hr (fun W b fv M kd nm k hl hs => recv103 k hl hs kd nm) (fun j hj => ⟨by show ([⟨1, 7⟩] : List Nt).length ≤ 1000; simp, by show 1 ≤ 90000; omega⟩) (by omega) (j := 0) (by omega) (kd := 1) (nm := 7) (tl := []) rfl).mono fun e w' he => RgEnd.congr he fun j hj => by rw [zero_of hj]; rfl
theorem lvDel2 {w0 w : World} {b : Nat} (h : RgK w0 b Lv2 w) : Calls Try.prog 25 #[.pointer (some ⟨b, 0, none⟩), .int .i64 0] w fun e w' => e = .returned (.int .i64 0) ∧ RgK w0 b Lv3 w' :=
  h.step fun rv bs fvs hr => (dlv25t hr (fun W b fv M kd nm k hl hs => recv103 k hl hs kd nm) (fun j hj => ⟨by show ([⟨3, 7⟩] : List Nt).length ≤ 1000; simp, by show 2 ≤ 90000; omega⟩) (by omega) (j := 0) (by omega) (kd := 3) (nm := 7) (tl := []) rfl).mono fun e w' he => RgEnd.congr he fun j hj => by rw [zero_of hj]; rfl
theorem lvLead {w0 w : World} {b : Nat} (h : RgK w0 b Lv2 w) : Calls Try.prog 47 #[.pointer (some ⟨b, 0, none⟩), .int .i64 0] w fun e w' => e = .returned (.int .i64 7) ∧ w = w' := by
  obtain ⟨_, rv, bs, fvs, hr⟩ := h
  exact leader47 hr 0
theorem lvSent {w0 w : World} {b : Nat} (h : RgK w0 b Lv3 w) : Calls Try.prog 48 #[.pointer (some ⟨b, 0, none⟩)] w fun e w' => e = .returned (.int .i64 2) ∧ w = w' := by
  obtain ⟨_, rv, bs, fvs, hr⟩ := h
  exact sent48t hr (by omega) (fun j hj => by show 2 ≤ 90000; omega)
theorem lvNew {w0 w : World} (hb : Below w0.heap.size w0 w) {v : Value} (h : Reads w v [7]) : Calls Try.prog 14 #[v, .bool true] w fun e w' => ∃ b, e = .returned (.tuple #[.pointer (some ⟨b, 0, none⟩), .int .i64 0]) ∧ RgK w0 b Lv0 w' := by
  refine (new14t h (by simp)).mono ?_
  have hv : validL [7] := by
    refine ⟨by simp, by simp, fun i hi => ?_⟩
    obtain rfl : i = 0 := by simpa using hi
    unfold okN
    simp
  rintro e w' (⟨hbad, _⟩ | ⟨_, b, rv, bs, rfl, hr, hb2⟩)
  · exact absurd hv hbad
  · refine ⟨b, rfl, hb.trans (hb2.mono hb.size), rv, bs, nilF, ?_⟩
    have hr2 := hr.congr (Ms' := Lv0) fun j hj => by rw [zero_of hj]; rfl
    exact ⟨Nat.le_trans hb.size hr2.Bb, hr2.bw, hr2.c0, hr2.c1, ⟨own_base hr2.ms.row hb.size, fun j hj => ⟨{ (hr2.ms.mem j hj).wr with Bb := Nat.le_trans hb.size (hr2.ms.mem j hj).wr.Bb, fl := own_base (hr2.ms.mem j hj).wr.fl hb.size }, (hr2.ms.mem j hj).c4, (hr2.ms.mem j hj).c5, (hr2.ms.mem j hj).c6⟩, hr2.ms.apart, hr2.ms.ne⟩, hr2.br, hr2.bo⟩
/-! ## Computations -/
theorem Inv.sendE {S : WS} (h : Inv S) (f t : Int) : Inv (sendE S f t).2 := by
  unfold Go.Proofs.Ytbemlfppekpmjaa.sendE
  split
  · exact h
  · split
    · exact h
    · split
      · exact h
      · rename_i h1 h2 h3
        have h1' : (inB f S.n && inB t S.n) = true := by simpa using h1
        rw [Bool.and_eq_true] at h1'
        obtain ⟨i, rfl, hi⟩ := inB_nat h1'.1
        obtain ⟨j, rfl, hj⟩ := inB_nat h1'.2
        exact h.send (by simpa using hi) (by simpa using hj) (by simpa using h2) (by omega)
theorem Inv.idleE {S : WS} (h : Inv S) (x : Int) : Inv (idleE S x).2 := by
  unfold Go.Proofs.Ytbemlfppekpmjaa.idleE
  split
  · exact h
  · split
    · exact h
    · split
      · exact h
      · rename_i h1 h2 h3
        obtain ⟨i, rfl, hi⟩ := inB_nat (by simpa using h1)
        rw [Int.toNat_natCast] at h2 h3 ⊢
        refine h.idle hi (by simpa using h2) ?_
        by_cases e : i = 0
        · exact .inl e
        · by_cases e2 : (S.hd i).owed = 0
          · refine .inr (.inr ?_)
            have : ¬ 200 ≤ S.fl.length := fun e3 => h3 ⟨by omega, e2, e3⟩
            omega
          · exact .inr (.inl e2)
theorem Inv.dlvE {S : WS} (h : Inv S) (x : Int) : Inv (dlvE S x).2 := by
  unfold Go.Proofs.Ytbemlfppekpmjaa.dlvE
  split
  · exact h
  · rename_i h1
    obtain ⟨i, rfl, hi⟩ := inB_nat (by simpa using h1)
    exact h.dlv (by simpa using hi)
theorem deliver31 {w : World} {B b h c : Nat} {fv : Value} {S : WS} (k : WkAt w B b h c fv S) (hv : Inv S) (x : Int) :
    Calls Try.prog 31 #[.pointer (some ⟨b, 0, none⟩), .int .i64 x] w (WkEnd w B b h c fv (dlvE S x).2 (.int .i64 (dlvE S x).1)) := by
  unfold dlvE
  by_cases h1 : inB x S.fl.length = false
  · rw [if_pos h1]; exact dlvBad k x h1
  · rw [if_neg h1]
    obtain ⟨i, rfl, hi⟩ := inB_nat (by simpa using h1)
    exact dlv31 k hv hi
/-- What a call on a computation keeps. -/
def WkK (w0 : World) (b : Nat) (S : WS) (w : World) : Prop := Below w0.heap.size w0 w ∧ Inv S ∧ ∃ h c fv, WkAt w w0.heap.size b h c fv S
theorem WkK.step {w0 w : World} {b : Nat} {S S' : WS} {f : Nat} {args : Array Value} {ev : Value} (h : WkK w0 b S w) (hv : Inv S') (hc : ∀ h c fv, WkAt w w0.heap.size b h c fv S → Calls Try.prog f args w (WkEnd w w0.heap.size b h c fv S' ev)) : Calls Try.prog f args w fun e w' => e = .returned ev ∧ WkK w0 b S' w' := by
  obtain ⟨hb, hi, h, c, fv, hr⟩ := h
  refine (hc h c fv hr).mono ?_
  rintro e w' ⟨rfl, fv', hr', fr⟩
  exact ⟨rfl, hb.trans (fr.below (fun k hk => (hr.pos k hk).1) hb.size), hv, h, c, fv', hr'⟩
theorem WkK.send {w0 w : World} {b : Nat} {S : WS} (h : WkK w0 b S w) (f t : Int) : Calls Try.prog 27 #[.pointer (some ⟨b, 0, none⟩), .int .i64 f, .int .i64 t] w fun e w' => e = .returned (.int .i64 (sendE S f t).1) ∧ WkK w0 b (sendE S f t).2 w' :=
  h.step (Go.Proofs.Ytbemlfppekpmjaa.Inv.sendE h.2.1 f t) fun _ _ _ k => send27 k h.2.1 f t
theorem WkK.idle {w0 w : World} {b : Nat} {S : WS} (h : WkK w0 b S w) (x : Int) : Calls Try.prog 29 #[.pointer (some ⟨b, 0, none⟩), .int .i64 x] w fun e w' => e = .returned (.int .i64 (idleE S x).1) ∧ WkK w0 b (idleE S x).2 w' :=
  h.step (Go.Proofs.Ytbemlfppekpmjaa.Inv.idleE h.2.1 x) fun _ _ _ k => idle29 k h.2.1 x
theorem WkK.deliver {w0 w : World} {b : Nat} {S : WS} (h : WkK w0 b S w) (x : Int) : Calls Try.prog 31 #[.pointer (some ⟨b, 0, none⟩), .int .i64 x] w fun e w' => e = .returned (.int .i64 (dlvE S x).1) ∧ WkK w0 b (dlvE S x).2 w' :=
  h.step (Go.Proofs.Ytbemlfppekpmjaa.Inv.dlvE h.2.1 x) fun _ _ _ k => deliver31 k h.2.1 x
theorem WkK.ended {w0 w : World} {b : Nat} {S : WS} (h : WkK w0 b S w) : Calls Try.prog 38 #[.pointer (some ⟨b, 0, none⟩)] w fun e w' => e = .returned (.bool (endB S)) ∧ w = w' := by
  obtain ⟨_, hi, _, _, _, k⟩ := h
  exact ended38 k hi.n1
theorem WkK.parent {w0 w : World} {b : Nat} {S : WS} (h : WkK w0 b S w) (i : Int) : Calls Try.prog 40 #[.pointer (some ⟨b, 0, none⟩), .int .i64 i] w fun e w' => e = .returned (.int .i64 (if inB i S.n then ((S.hd i.toNat).par : Int) - 1 else -1)) ∧ w = w' := by
  obtain ⟨_, _, _, _, _, k⟩ := h
  exact parent40 k i
theorem begK {w0 w : World} (hb : Below w0.heap.size w0 w) {n : Nat} (hn1 : 1 ≤ n) (hn10 : n ≤ 10) : Calls Try.prog 15 #[.int .i64 n] w fun e w' => ∃ b, e = .returned (.tuple #[.pointer (some ⟨b, 0, none⟩), .int .i64 0]) ∧ WkK w0 b (WS.start n) w' := by
  refine (begin15 hn1 hn10).mono ?_
  rintro e w' ⟨b, h, c, rfl, k, hb2⟩
  exact ⟨b, rfl, hb.trans (hb2.mono hb.size), Inv.start hn1 hn10, h, c, _, { k with Bb := Nat.le_trans hb.size k.Bb, hn := own_base k.hn hb.size, fl := own_base k.fl hb.size }⟩
def W1 : WS := (sendE (WS.start 2) 0 1).2
def W2 : WS := (idleE W1 0).2
def W3 : WS := (dlvE W2 0).2
def W4 : WS := (idleE W3 1).2
def W5 : WS := (dlvE W4 0).2
end Go.Proofs.Ytbemlfppekpmjaa
