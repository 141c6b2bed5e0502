import Derived.Test.YtccmabckmpelcaaKa
import Derived.Deep.RegionHeld3
import Derived.Deep.AppendLies
namespace Go.Proofs.Ytccmabckmpelcaa
open Go.RowKit

/-! ## Several rows that grow in one statement -/
/-- Rows of ints `L` of one's own, apart from each other, and new cells `P` that wait to be appended; what was before `B` is as in `w0`. -/
def St (w0 w : World) (B : Nat) (L : List (Value × List Int)) (P : List (Nat × Int)) : Prop :=
  (∀ (i : Nat) v xs, L[i]? = some (v, xs) → Ints w B v xs) ∧ (∀ (i j : Nat) v xs u ys, i ≠ j → L[i]? = some (v, xs) → L[j]? = some (u, ys) → Dis v u) ∧
  (∀ b y, (b, y) ∈ P → b < w.heap.size ∧ w.cell? ⟨b, 0, none⟩ = some (.int .i64 y) ∧ ∀ (i : Nat) v xs, L[i]? = some (v, xs) → v.ownBlock ≠ some b) ∧ B ≤ w.heap.size ∧ Below B w0 w
theorem St.below {w0 w : World} {B : Nat} {L : List (Value × List Int)} {P : List (Nat × Int)} (h : St w0 w B L P) : Below B w0 w := h.2.2.2.2
theorem St.size {w0 w : World} {B : Nat} {L : List (Value × List Int)} {P : List (Nat × Int)} (h : St w0 w B L P) : B ≤ w.heap.size := h.2.2.2.1
theorem St.ints {w0 w : World} {B : Nat} {L : List (Value × List Int)} {P : List (Nat × Int)} (h : St w0 w B L P) (i : Nat) {v : Value} {xs : List Int} (hi : L[i]? = some (v, xs)) : Ints w B v xs := h.1 i v xs hi
theorem St.dis {w0 w : World} {B : Nat} {L : List (Value × List Int)} {P : List (Nat × Int)} (h : St w0 w B L P) (i j : Nat) {v u : Value} {xs ys : List Int} (hij : i ≠ j) (hi : L[i]? = some (v, xs)) (hj : L[j]? = some (u, ys)) : Dis v u := h.2.1 i j v xs u ys hij hi hj
theorem St.drew {w0 w : World} {B : Nat} {L : List (Value × List Int)} {P : List (Nat × Int)} (h : St w0 w B L P) : St w0 w.drew B L P :=
  ⟨fun i v xs hi => (h.1 i v xs hi).below (Below.refl _ _).drew, h.2.1, h.2.2.1, h.2.2.2.1, h.2.2.2.2.drew⟩
theorem St.cell {w0 w : World} {B : Nat} {L : List (Value × List Int)} {P : List (Nat × Int)} (h : St w0 w B L P) {a : Addr} {z : Value} (ha : a.block < B) (hc : w0.cell? a = some z) : w.cell? a = some z := (h.below.cell ha).trans hc
theorem St.alloc {w0 w : World} {B : Nat} {L : List (Value × List Int)} {P : List (Nat × Int)} (h : St w0 w B L P) (y : Int) : St w0 (w.alloc (.cells #[.int .i64 y] 3)) B L ((w.heap.size, y) :: P) := by
  have hb := below_alloc1 w (.cells #[.int .i64 y] 3)
  refine ⟨fun i v xs hi => (h.1 i v xs hi).below hb, h.2.1, fun b z hm => ?_, by simp; have := h.size; omega, h.below.alloc h.size _⟩
  rcases List.mem_cons.1 hm with e | hm
  · cases e
    refine ⟨by simp, by rw [World.cell?_alloc_at (hn := rfl)]; rfl, fun i v xs hi e => ?_⟩
    have := (h.1 i v xs hi).ownBlock_lt _ e
    omega
  · obtain ⟨h1, h2, h3⟩ := h.2.2.1 b z hm
    exact ⟨by simp; omega, (hb.cell (p := ⟨b, 0, none⟩) h1).trans h2, h3⟩
theorem St.start {w : World} {B : Nat} {L : List (Value × List Int)} (h1 : ∀ (i : Nat) v xs, L[i]? = some (v, xs) → Ints w B v xs) (h2 : ∀ (i j : Nat) v xs u ys, i ≠ j → L[i]? = some (v, xs) → L[j]? = some (u, ys) → Dis v u) (hB : B ≤ w.heap.size) : St w w B L [] :=
  ⟨h1, h2, fun b y h => by simp at h, hB, Below.refl _ _⟩
/-- One of the rows grows. -/
theorem St.app {w0 w w' : World} {B : Nat} {L : List (Value × List Int)} {P : List (Nat × Int)} (h : St w0 w B L P) {i : Nat} {v v' : Value} {xs : List Int} {y : Int} (hi : L[i]? = some (v, xs))
    (h2 : Ints w' B v' (xs ++ [y])) (h3 : w.grownBy w' v.ownBlock) (h4 : v'.ownBlock = v.ownBlock ∨ v'.ownBlock = some w.heap.size) : St w0 w' B (L.set i (v', xs ++ [y])) P := by
  have hil : i < L.length := (List.getElem?_eq_some_iff.1 hi).1
  have hget : ∀ (j : Nat) u ys, (L.set i (v', xs ++ [y]))[j]? = some (u, ys) → (j = i ∧ u = v' ∧ ys = xs ++ [y]) ∨ (j ≠ i ∧ L[j]? = some (u, ys)) := by
    intro j u ys hj
    rw [List.getElem?_set] at hj
    by_cases e : i = j
    · subst e
      rw [if_pos rfl, if_pos hil] at hj
      simp only [Option.some.injEq, Prod.mk.injEq] at hj
      exact .inl ⟨rfl, hj.1.symm, hj.2.symm⟩
    · rw [if_neg e] at hj
      exact .inr ⟨fun h => e h.symm, hj⟩
  have hsz := h3.size
  have hnew : ∀ (j : Nat) u ys, j ≠ i → L[j]? = some (u, ys) → Dis u v' := by
    intro j u ys hj hu k hk e
    rcases h4 with h4 | h4
    · exact h.2.1 j i u ys v xs hj hu hi k hk (by rw [← h4]; exact e)
    · rw [h4] at e
      have := (h.1 j u ys hu).ownBlock_lt k hk
      simp at e; omega
  refine ⟨fun j u ys hj => ?_, fun j1 j2 u1 y1 u2 y2 hne hj1 hj2 => ?_, fun b z hm => ?_, by have := h.size; omega, ?_⟩
  · rcases hget j u ys hj with ⟨_, rfl, rfl⟩ | ⟨hji, hj⟩
    · exact h2
    · refine World.ownsRow.kept (h.1 j u ys hj) h3 ?_
      cases hu : u.ownBlock with
      | none => exact .inl rfl
      | some k => exact .inr (fun e => h.2.1 j i u ys v xs hji hj hi k hu e.symm)
  · rcases hget j1 u1 y1 hj1 with ⟨rfl, rfl, rfl⟩ | ⟨hji1, hk1⟩
    · rcases hget j2 u2 y2 hj2 with ⟨rfl, rfl, rfl⟩ | ⟨hji2, hk2⟩
      · exact absurd rfl hne
      · exact (hnew j2 u2 y2 hji2 hk2).symm
    · rcases hget j2 u2 y2 hj2 with ⟨rfl, rfl, rfl⟩ | ⟨hji2, hk2⟩
      · exact hnew j1 u1 y1 hji1 hk1
      · exact h.2.1 j1 j2 u1 y1 u2 y2 hne hk1 hk2
  · obtain ⟨p1, p2, p3⟩ := h.2.2.1 b z hm
    refine ⟨by omega, h3.cell p2 (fun e => p3 i v xs hi e.symm), fun j u ys hj e => ?_⟩
    rcases hget j u ys hj with ⟨_, rfl, rfl⟩ | ⟨_, hj⟩
    · rcases h4 with h4 | h4
      · exact p3 i v xs hi (by rw [← h4]; exact e)
      · rw [h4] at e; simp at e; omega
    · exact p3 j u ys hj e
  · exact h.below.grown h3 h.size (fun k hk => (World.ownsRow.lt (h.1 i v xs hi) k hk).1)

theorem step_app_st {ops : Array Oper} {o : Oper} {a : Act} {K : Act → World → Prop} {Q : Exit → Act → World → Prop} {E : Prop} {w0 w : World} {B : Nat} {L : List (Value × List Int)} {P : List (Nat × Int)}
    (i : Nat) {v : Value} {xs : List Int} {y : Int} {b : Nat} (hgd : o.guard = none) (s x : Operand)
    (ho : o.op = .call { callee := .builtin .append, args := #[s, x], argTypes := #[22, 22] }) (hty : o.type = 22) (hst : St w0 w B L P) (hi : L[i]? = some (v, xs)) (hs : a.eval s = v) (hx : a.eval x = .slice (some ⟨b, 0, none⟩) 1 1) (hm : (b, y) ∈ P)
    (hlen : xs.length ≤ 1000000) (h : ∀ v' w', St w0 w' B (L.set i (v', xs ++ [y])) P → K (a.put o.dst v') w') : if Region.wanted o (yielded ops a.tmps) = true then Oper.wp Try.prog o a w K Q else E := by
  have hw : Region.wanted o (yielded ops a.tmps) = true := by simp [Region.wanted, hgd]
  rw [if_pos hw]
  obtain ⟨v', w', hr, h2, h3, h4⟩ := app_run w (hst.ints i hi) hlen hst.size ⟨b, 0, none⟩ (hst.2.2.1 b y hm).2.1
  unfold Oper.wp execOp
  simp only [ho, resolve, invoke, builtin, Sem.run_bind, Sem.run_pure, Result.andThen_ok, List.map_toArray, List.map_cons, List.map_nil, hs, hx, hty, hr]
  exact h v' w' (hst.app hi h2 h3 h4)
end Go.Proofs.Ytccmabckmpelcaa
