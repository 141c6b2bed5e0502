import Derived.Test.YtpcjigdmfchbdaaDoorC
import Derived.RangeFuncFrom
import Derived.RangeFuncWrites
namespace Go.Proofs.YtpcjigdmfchbdaaDoor
open Go.RowKit Go.Shelf Cl
attribute [local go_sem] Oper.semAt_some

/-- A round goes on: what was made since the loop began, and is no cells, stays; one number more has come. -/
def goesOn (B : Nat) (I : Nat → World → Prop) (k : Nat) (W : World) : Exit → Act → World → Prop
  | .normal, _, W' => KeepsFrom B W W' ∧ I (k + 1) W'
  | _, _, _ => False

/-- What the loop keeps for itself between two rounds: its record, and the list of what is put off. -/
def Books (B : Nat) (L : Loop) (W : World) : Prop := W.heap[B + 1]? = some (.loop L) ∧ W.heap[B]? = some (.deferred (some []))
theorem Books.put {B : Nat} {L L' : Loop} {W : World} (h : Books B L W) : Books B L' (W.putObj (B + 1) (.loop L')) :=
  ⟨World.putObj_heap_same (Array.getElem?_eq_some_iff.1 h.1).1, (World.putObj_heap_other (by omega)).trans h.2⟩
theorem Books.keep {B : Nat} {L : Loop} {W W' : World} (h : Books B L W) (hk : KeepsFrom B W W') : Books B L W' :=
  ⟨hk.same _ _ (by omega) h.1 rfl, hk.same _ _ (Nat.le_refl _) h.2 rfl⟩
theorem Books.turn {B : Nat} {L L' : Loop} {W : World} {β : Type} {I : β → World → Prop} {s : β} (h : Books B L W) (hI : OwnFrom B I) (hi : I s W) : I s (W.putObj (B + 1) (.loop L')) :=
  hI.putObj _ hi (by omega) h.1 rfl

set_option maxRecDepth 100000 in
/-- A loop over the numbers of a set, all of whose rounds go on. -/
theorem wpIn_each {n : Nat} (hn : 5 ≤ n) {g : Operand} {ps : Array Tmp} {assign body : Code} {Q : Exit → Act → World → Prop} {a : Act} {w : World} {S : Nat} (hS : S < 4096)
    (hg : a.eval g = .func (.func 75) #[.int .u64 (S : Int)] #[]) (hps : ps.size = 1)
    (I : Nat → World → Prop) (hT : ∀ k W, I k W → Tab W) (hI : OwnFrom w.heap.size I) (h0 : I 0 w) (a₁ : Nat → Act)
    (hassign : ∀ (l x : Nat) (W : World) (K : Act → World → Prop), K (a₁ x) W →
      assign.wpIn (Fence.wide.inRound l) (n - 1 - 1) Tryd.prog (Exit.then K (fun _ _ _ => False)) { tmps := (ps.zip #[Value.int .i64 (x : Int)]).foldl (fun t (p, v) => t.setIfInBounds p v) a.tmps, defers := [] } W)
    (hbody : ∀ (l k x : Nat) (W : World), I k W → (bl S)[k]? = some x → body.wpIn (Fence.wide.inRound l) (n - 1 - 1) Tryd.prog (goesOn w.heap.size I k W) (a₁ x) W)
    (hdone : ∀ (D : Nat) (W : World), w.heap.size ≤ D → I (bl S).length W → W.heap[D]? = some (.deferred (some [])) → Q .normal { a with defers := { target := .collected D, args := #[] } :: a.defers } W) :
    (Code.rangeFunc g ps assign body).wpIn Fence.wide n Tryd.prog Q a w := by
  refine wpIn_rangeFunc fun fn hfn => ?_
  obtain ⟨B, hB⟩ : ∃ B, B = w.heap.size := ⟨_, rfl⟩
  obtain ⟨R, hR⟩ : ∃ R : LoopState → Loop, R = fun st => { state := st, pending := none, fn, tmps := a.tmps, params := ps, assign, body, defers := B } := ⟨_, rfl⟩
  obtain ⟨W1, hW1⟩ : ∃ W1, W1 = (w.alloc (.deferred (some []))).alloc (.loop (R .ready)) := ⟨_, rfl⟩
  have hbk : Books B (R .ready) W1 := by
    have e1 := World.alloc_heap_new (w.alloc (.deferred (some []))) (.loop (R .ready))
    rw [World.size_alloc, ← hB] at e1
    have e2 := World.alloc_heap_new w (.deferred (some []))
    rw [← hB] at e2
    rw [hW1]
    exact ⟨e1, (Below.heap_alloc _ _ _ (by rw [hB]; simp)).trans e2⟩
  have hI1 : I 0 W1 := by rw [hW1]; exact hI.alloc _ (hI.alloc _ h0)
  rw [← hB] at hI hbody hdone
  refine ⟨B + 1, [{ target := .collected B, args := #[] }], W1, { target := .fn (.func 75) #[], args := #[.int .u64 (S : Int), .func (.yield (B + 1)) #[] #[]] }, W1, 75,
    #[.int .u64 (S : Int), .func (.yield (B + 1)) #[] #[]], W1, ?_, ?_, fun _ _ => trivial, ?_, fun _ => by omega, ?_⟩
  · rw [hW1, hR, hB]; exact run_enterLoop_outer _ _ _ _ _
  · simp only [resolve, hg]
    simp [go_sem]
  ·
    simp [invoke, go_sem]
  · refine (each75 (n - 1) (by omega) (B + 1) S hS (fun k W => I k W ∧ Books B (R .ready) W) (fun k W h => hT k W h.1) ?_ W1 ⟨hI1, hbk⟩).mono ?_
    · rintro k x W ⟨hi, hb⟩ hx
      have hy := run_yield (P := Tryd.prog) (args := #[Value.int .i64 (x : Int)]) hb.1 (by rw [hR]; simp [hps])
      rw [hR] at hy
      refine ⟨fn, _, assign, body, hy, roundIn_of_wpIn hfn (hassign _ x W _ ⟨_, run_beginRound hb.1 (by rw [hR]), ?_⟩)⟩
      have hb2 : Books B { R .ready with state := .busy } (W.putObj (B + 1) (.loop { R .ready with state := .busy })) := hb.put
      refine wpIn_mono (hbody _ k x _ (hb.turn hI hi) hx) ?_
      rintro e a3 W3 hp
      cases e with
      | normal =>
        obtain ⟨hk3, hi3⟩ := hp
        have hb3 := hb2.keep hk3
        have he := run_endRound (P := Tryd.prog) (none : Option Code) hb3.1
        rw [hR] at he
        refine ⟨_, _, he, rfl, ?_⟩
        have h4 : Books B (R .ready) (W3.putObj (B + 1) (.loop (R .ready))) := hb3.put
        have h5 : I (k + 1) (W3.putObj (B + 1) (.loop (R .ready))) := hb3.turn hI hi3
        rw [hR] at h4 h5
        rw [hR]
        exact ⟨h5, h4⟩
      | ret => exact hp.elim
      | exit id => exact hp.elim
      | goto t => exact hp.elim
      | panic ch => exact hp.elim
      | outgrown => exact hp.elim
    · rintro e W2 ⟨⟨v, rfl⟩, hi, hb⟩
      have he := run_endLoop (P := Tryd.prog) hb.1 (by rw [hR]; simp)
      rw [hR] at he
      refine ⟨none, _, he, ?_⟩
      exact hdone _ _ (Nat.le_refl _) (hb.turn hI hi) ((World.putObj_heap_other (by omega)).trans hb.2)
end Go.Proofs.YtpcjigdmfchbdaaDoor
