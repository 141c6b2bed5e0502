import Derived.Test.YtccmabckmpelcaaTb
namespace Go.Proofs.Ytccmabckmpelcaa
open Go.RowKit

/-- append(s, row) of one row: the block is the table's own, or a new one. -/
theorem app_runT (w : World) {B : Nat} {v u : Value} {vs : List Value} (hown : w.ownsRow B 22 1 v vs.length vs) (hlen : vs.length ≤ 1000000) (hB : B ≤ w.heap.size) (ad : Addr) (hc : w.cell? ad = some u) (hone : u.oneCell' = true) :
    ∃ v' w', (Builtin.append_ #[23, 23] 23 #[v, .slice (some ad) 1 1]).run Try.prog w = .ok v' w' ∧ w'.ownsRow B 22 1 v' (vs ++ [u]).length (vs ++ [u]) ∧ w.grownBy w' v.ownBlock ∧ (v'.ownBlock = v.ownBlock ∨ v'.ownBlock = some w.heap.size) := by
  obtain ⟨i0, hi, hz0, hz1, hz2⟩ := info_parts info22
  have hnews : ∀ j z, ([u] : List Value)[j]? = some z → w.cell? (ad.add j) = some z := by
    intro j z hj
    cases j with
    | zero => simp at hj; subst hj; simpa [Addr.add] using hc
    | succ j => simp at hj
  have hones : ∀ z ∈ [u], z.oneCell' = true := by intro z hz; simp at hz; subst hz; exact hone
  obtain ⟨v', w', hr, h2, h3, _⟩ := run_append_own (P := Try.prog) w B 23 23 22 i0 (.slice none 0 0) 1 24 Try.underlying23 hi hz0 hz1 hz2 rfl (by decide) v vs.length vs hown ad 1 1 [u] rfl hnews hones (by unfold maxLen; omega) (by omega) hB
  refine ⟨v', w', hr, by simpa using h2, h3, ?_⟩
  rcases hown.2 with ⟨rfl, h0⟩ | ⟨g, cap, cur, rfl, hbg, hg, hnc, hcm, hcs, htake⟩
  · have hr2 := run_append_nil (P := Try.prog) w 23 23 22 i0 (.slice none 0 0) Try.underlying23 hi hz0 ad 1 1 [u] (by rw [hz1]; rfl) hnews (by omega) (by omega) (by rw [hz2]; omega)
    rw [hr] at hr2
    simp only [Result.ok.injEq] at hr2
    right; rw [hr2.1]; rfl
  · by_cases hroom : vs.length + 1 ≤ cap
    · have hr2 := run_append_room (P := Try.prog) w 23 23 22 i0 Try.underlying23 hi g vs.length cap cur hg ad 1 1 [u] (by rw [hz1]; rfl) hnews hones hroom (by rw [hz1, hcs]; simp; omega)
      rw [hr] at hr2
      simp only [Result.ok.injEq] at hr2
      left; rw [hr2.1]; rfl
    · have holds : ∀ j z, vs[j]? = some z → w.cell? ((⟨g, 0, none⟩ : Addr).add j) = some z := World.ownsRow.cells (g := g) hown rfl
      have hr2 := run_append_grow (P := Try.prog) w 23 23 22 i0 (.slice none 0 0) Try.underlying23 hi hz0 ⟨g, 0, none⟩ vs.length cap vs (by rw [hz1]; simp) holds ad 1 1 [u] (by rw [hz1]; rfl) hnews (by omega) (by omega) (growslice_fits (by omega) (by rw [hz2]; omega))
      rw [hr] at hr2
      simp only [Result.ok.injEq] at hr2
      right; rw [hr2.1]; rfl
/-- A row of ints and a table lie in different blocks. -/
theorem ints_not_table {w : World} {B B' : Nat} {u v : Value} {zs : List Int} {vs : List Value} {n : Nat} (hz : Ints w B u zs) (hv : w.ownsRow B' 22 1 v n vs) : u.ownBlock = none ∨ u.ownBlock ≠ v.ownBlock := by
  rcases hz.2 with ⟨rfl, _⟩ | ⟨g, cap, cur, rfl, _, hg, _⟩
  · exact .inl rfl
  · right
    intro e
    rcases hv.2 with ⟨rfl, _⟩ | ⟨g', cap', cur', rfl, _, hg', _⟩
    · simp [Value.ownBlock] at e
    · simp only [Value.ownBlock, Option.some.injEq] at e
      subst e
      rw [hg] at hg'
      simp at hg'
theorem app_rowD {ops : Array Oper} {rest : List Oper} {o : Oper} {a : Act} {Q : Exit → Act → World → Prop} {w : World} {B : Nat} {v u : Value} {xss : List (List Int)} {ys : List Int}
    (hown : OwnG w B v xss) (hu : Ints w B u ys) (hlen : xss.length ≤ 1000000) (hB : B ≤ w.heap.size) (hgd : o.guard = none) (s x : Operand) (hty : o.type = 23)
    (ho : o.op = .call { callee := .builtin .append, args := #[s, x], argTypes := #[23, 23] }) (hs : a.eval s = v) (hx : a.eval x = .slice (some ⟨w.heap.size, 0, none⟩) 1 1)
    (h : ∀ v' w', OwnG w' B v' (xss ++ [ys]) → Below B w w' → (∀ u' zs, Ints w B u' zs → Ints w' B u' zs) → (∀ u' zss, OwnG w B u' zss → Dis u' v → OwnG w' B u' zss ∧ Dis u' v') → wpList Try.prog ops Q rest (a.put o.dst v') w') : wpList Try.prog ops Q (o :: rest) a (w.alloc (.cells #[u] 22)) := by
  obtain ⟨vs, hv, hvl, hin⟩ := hown
  have hone : u.oneCell' = true := by obtain ⟨ao, c, rfl, _⟩ := hu.shape; rfl
  refine wpList_plain hgd fun K hK => ?_
  have hb := below_alloc1 w (.cells #[u] 22)
  obtain ⟨v', w', hr, h2, h3, h4⟩ := app_runT (w.alloc (.cells #[u] 22)) (own_below hv hb) (by omega) (by simp; omega) ⟨w.heap.size, 0, none⟩ (by rw [World.cell?_alloc_at (hn := rfl)]; rfl) hone
  unfold Oper.wp execOp
  simp only [ho, resolve, invoke, builtin, Sem.run_bind, Sem.run_pure, Result.andThen_ok, List.map_toArray, List.map_cons, List.map_nil, hs, hx, hty, hr]
  have hkeep : ∀ u' zs, Ints w B u' zs → Ints w' B u' zs := fun u' zs hz => World.ownsRow.kept (hz.alloc _) h3 (ints_not_table hz hv)
  refine hK _ _ (h v' w' ⟨vs ++ [u], h2, by simp [hvl], fun j hj => ?_⟩ (((Below.refl B w).alloc hB _).grown h3 (by simp; omega) (fun k hk => (World.ownsRow.lt hv k hk).1)) hkeep (fun u' zss hz hd => ?_))
  · simp at hj
    by_cases e : j < vs.length
    · have := hkeep _ _ (hin j e)
      rw [List.getD_eq_getElem?_getD, List.getElem?_append_left e, ← List.getD_eq_getElem?_getD, List.getD_eq_getElem?_getD (l := xss ++ [ys]), List.getElem?_append_left (by omega), ← List.getD_eq_getElem?_getD]
      exact this
    · have : j = vs.length := by omega
      subst this
      have := hkeep _ _ hu
      rw [List.getD_eq_getElem?_getD, List.getElem?_append_right (Nat.le_refl _), List.getD_eq_getElem?_getD, List.getElem?_append_right (by omega), hvl]
      simpa using this
  · obtain ⟨us, z1, z2, z3⟩ := hz
    refine ⟨⟨us, World.ownsRow.kept (own_below z1 hb) h3 ?_, z2, fun j hj => hkeep _ _ (z3 j hj)⟩, fun k hk e => ?_⟩
    · cases hk : u'.ownBlock with
      | none => exact .inl rfl
      | some k => exact .inr (fun e => hd k hk e.symm)
    · rcases h4 with h4 | h4
      · exact hd k hk (by rw [← h4]; exact e)
      · rw [h4] at e
        have := (World.ownsRow.lt z1 k hk).2
        simp at e; omega
end Go.Proofs.Ytccmabckmpelcaa
