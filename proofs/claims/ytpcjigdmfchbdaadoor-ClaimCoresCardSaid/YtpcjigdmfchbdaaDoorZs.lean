import Derived.Test.YtpcjigdmfchbdaaDoorZr
import Derived.BigQuiet
import Derived.Deep.RegionLaw
namespace Go.Proofs.YtpcjigdmfchbdaaDoor
open Go.RowKit Go.Shelf Cl
attribute [local go_sem] Oper.semAt_some

theorem Ints.drew {W : World} {B : Nat} {v : Value} {xs : List Int} (h : Ints W B v xs) : Ints W.drew B v xs := h.below (Below.refl _ _).drew
theorem Reads.drew {W : World} {v : Value} {xs : List Int} (h : Reads W v xs) : Reads W.drew v xs := h.below (Below.refl _ _).drew
theorem lit_at (w : World) (B g : Nat) (hB : B ≤ w.heap.size) (hg : g = w.heap.size) : Ints (w.alloc (.cells #[] 3)) B (.slice (some ⟨g, 0, none⟩) 0 0) [] := by rw [hg]; exact Ints.lit w B hB
theorem reads_one {W : World} {g : Nat} {y : Int} (h : W.cell? ⟨g, 0, none⟩ = some (.int .i64 y)) : Reads W (.slice (some ⟨g, 0, none⟩) 1 1) [y] := by
  refine ⟨_, 1, rfl, Nat.le_refl _, fun _ => ⟨g, 0, rfl, ?_, fun j hj => ?_⟩⟩
  · have := World.block_lt_of_cell? W _ h
    simpa using this
  · simp at hj; subst hj; exact h
theorem reads_drop {w : World} {g n c k off : Nat} {xs : List Int} (h : Reads w (.slice (some ⟨g, 0, none⟩) n c) xs) (hn : xs.length = n) (hk : k ≤ n) (ho : k < n → off = k) : Reads w (.slice (some ⟨g, off, none⟩) (n - k) (c - k)) (xs.drop k) := by
  have hc : n ≤ c := by obtain ⟨_, _, e, h2, _⟩ := h; injection e with _ _ e3; omega
  have hl : (xs.drop k).length = n - k := by rw [List.length_drop, hn]
  refine ⟨_, c - k, by rw [hl], by rw [hl]; omega, fun hne => ?_⟩
  have hkn : k < n := by
    apply Classical.byContradiction
    intro e
    exact hne (List.drop_eq_nil_of_le (by omega))
  obtain ⟨g', o', e1, hg, hcell⟩ := h.at hn hkn
  injection e1 with e2
  injection e2 with e3 e4
  subst e3
  refine ⟨g, off, rfl, hg, fun j hj => ?_⟩
  rw [hl] at hj
  have := hcell (k + j) (by omega)
  rw [← e4] at this
  rw [ho hkn, show k + j = 0 + (k + j) by omega, this]
  simp [List.getD_eq_getElem?_getD]
theorem ints_case {w : World} {B : Nat} {v : Value} {xs : List Int} (h : Ints w B v xs) : (v = .slice none 0 0 ∧ xs = []) ∨ ∃ g cap, v = .slice (some ⟨g, 0, none⟩) xs.length cap ∧ xs.length ≤ cap := by
  rcases h.2 with ⟨rfl, h2⟩ | ⟨g, cap, cur, rfl, _, _, h3, _⟩
  · exact .inl ⟨rfl, List.length_eq_zero_iff.1 h2⟩
  · exact .inr ⟨g, cap, rfl, h3⟩
set_option maxRecDepth 100000 in
/-- append(s, src...) of ints, at one step of a region that draws its order. -/
theorem step_ints {ops : Array Oper} {o : Oper} {a : Act} {w : World} {K : Act → World → Prop} {Q : Exit → Act → World → Prop} {E : Prop} {B : Nat} {v : Value} {xs ys : List Int}
    (hg : o.guard = none) (s x : Operand) (hop : o.op = Op.call { callee := Callee.builtin Builtin.append, args := #[s, x], argTypes := #[24, 24] })
    (hown : Ints w B v xs) (hs : a.eval s = v) (g p m c : Nat) (hx : a.eval x = .slice (some ⟨g, p, none⟩) m c) (hu : Reads w (.slice (some ⟨g, p, none⟩) m c) ys) (hm : ys.length = m) (hlen : xs.length + ys.length ≤ 1000000) (hB : B ≤ w.heap.size)
    (hK : ∀ v' w', Ints w' B v' (xs ++ ys) → Below B w w' → (∀ q j u, some q ≠ v.ownBlock → w.cell? ⟨q, j, none⟩ = some u → w'.cell? ⟨q, j, none⟩ = some u) → K (a.put o.dst v') w') :
    if Region.wanted o (yielded ops a.tmps) = true then Oper.wp Tryd.prog o a w K Q else E := by
  have hw : Region.wanted o (yielded ops a.tmps) = true := by simp [Region.wanted, hg]
  rw [if_pos hw]
  obtain ⟨i0, hi, hz0, hz1, hz2⟩ := info_parts info3
  have hc : ∀ j u, (ys.map (Value.int .i64))[j]? = some u → w.cell? ((⟨g, p, none⟩ : Addr).add j) = some u := by
    intro j z hj
    rw [List.getElem?_map, Option.map_eq_some_iff] at hj
    obtain ⟨y, hy, rfl⟩ := hj
    obtain ⟨hj1, hj2⟩ := List.getElem?_eq_some_iff.1 hy
    obtain ⟨_, _, e0, _, hcl⟩ := hu
    obtain ⟨g', p', e1, _, hcell⟩ := hcl (fun e => by rw [e] at hj1; simp at hj1)
    have e2 : some (⟨g, p, none⟩ : Addr) = some ⟨g', p', none⟩ := by injection e0 with e3; rw [e3]; exact e1
    cases e2
    have := hcell j hj1
    rw [show (⟨g, p, none⟩ : Addr).add j = ⟨g, p + j, none⟩ from by simp [Addr.add], this, List.getD_eq_getElem?_getD, hy]; rfl
  obtain ⟨v', w', hrun, r1, r2, _⟩ := run_append_own (P := Tryd.prog) w B 24 o.type 3 i0 (.int .i64 0) 1 8 Tryd.underlying24 hi hz0 hz1 hz2 rfl (by decide) v xs.length (xs.map (Value.int .i64)) hown ⟨g, p, none⟩ m c (ys.map (Value.int .i64)) (by simp [hm]) hc
    (by intro z hz; rw [List.mem_map] at hz; obtain ⟨y, _, rfl⟩ := hz; rfl) (by unfold maxLen; omega) (by omega) hB
  unfold Oper.wp
  simp [execOp, hop, resolve, invoke, builtin, hs, hx, hrun, Result.andThen]
  refine hK v' w' ?_ ?_ ?_
  · unfold Ints; simpa [hm] using r1
  · exact (Below.refl B w).grown r2 hB (fun k hk => (World.ownsRow.lt hown k hk).1)
  · intro q j u hq hcq
    have hlt : q < w.heap.size := by have := World.block_lt_of_cell? w _ hcq; simpa using this
    have := r2.block q hlt hq
    rw [← hcq]
    simp only [World.cell?, this]
set_option maxRecDepth 100000 in
/-- append(s, nil...) of ints. -/
theorem step_nil {ops : Array Oper} {o : Oper} {a : Act} {w : World} {K : Act → World → Prop} {Q : Exit → Act → World → Prop} {E : Prop} {B : Nat} {v : Value} {xs : List Int}
    (hg : o.guard = none) (s x : Operand) (hop : o.op = Op.call { callee := Callee.builtin Builtin.append, args := #[s, x], argTypes := #[24, 24] })
    (hown : Ints w B v xs) (hs : a.eval s = v) (hx : a.eval x = .slice none 0 0)
    (hK : K (a.put o.dst v) w) :
    if Region.wanted o (yielded ops a.tmps) = true then Oper.wp Tryd.prog o a w K Q else E := by
  have hw : Region.wanted o (yielded ops a.tmps) = true := by simp [Region.wanted, hg]
  rw [if_pos hw]
  obtain ⟨i0, hi, hz0, hz1, hz2⟩ := info_parts info3
  have hrun := run_append_owned_none (P := Tryd.prog) (w := w) B 24 o.type 3 i0 1 Tryd.underlying24 hi v xs.length (xs.map (Value.int .i64)) hown
  unfold Oper.wp
  simp [execOp, hop, resolve, invoke, builtin, hs, hx, hrun, Result.andThen]
  exact hK
end Go.Proofs.YtpcjigdmfchbdaaDoor
