import Derived.Test.YtjkbhdlbomcbeaaF
import Derived.Lib.SliceRun
namespace Go.Proofs.Ytjkbhdlbomcbeaa
open Go.RowKit Shf

theorem ReadsJ.flat {w : World} {v : Value} {js : List J} (h : ReadsJ w v js) (hne : js ≠ []) : FlatR w 4 v js.length (flat encJ js) := by
  obtain ⟨ao, c, rfl, hc, h⟩ := h
  refine ⟨flat_len encJ_len js, ao, c, rfl, hc, fun e => ?_, fun _ => ?_⟩
  · obtain ⟨g, hg, _⟩ := h hne
    rw [e] at hg; cases hg
  · obtain ⟨g, hg, h1, h2⟩ := h hne
    exact ⟨g, 0, hg, h1, fun j u hj => by rw [Nat.zero_add]; exact h2 j u hj⟩
theorem nil22 (W : World) (a : Option Addr) (n c n' c' : Nat) : (binOp .eql 22 (.slice a n c) (.slice none n' c')).run Try.prog W = .ok (.bool a.isNone) W := Lib.run_eql_slice_nil W _ _ a n c n' c' Try.underlying22
/-- append(s, src...) of structs, at the model's operation. -/
theorem app_flat {ops : Array Oper} {rest : List Oper} {o : Oper} {a : Act} {Q : Exit → Act → World → Prop} {w : World} {B m n z bytes : Nat} {t e : TypeId} {i0 : TypeInfo} {zv : Value} (ht : Try.prog.underlying t = some (.slice e)) (hi : Try.prog.info? e = some i0) (hz0 : i0.zero = some zv) (hz1 : i0.size = z) (hz2 : i0.bytes = bytes) (hzc : zv.cells.size = z) (hz : 0 < z) (hby : bytes ≤ 100)
    {v : Value} {ad : Addr} {c : Nat} {xs ys : List Value} (hown : w.ownsRow B e z v n xs) (hx : FlatR w z (.slice (some ad) m c) m ys) (h1 : ∀ u ∈ ys, u.oneCell' = true) (hlen : n + m ≤ 1000000) (hB : B ≤ w.heap.size) (hgd : o.guard = none) (s x : Operand)
    (ho : o.op = .call { callee := .builtin .append, args := #[s, x], argTypes := #[t, t] }) (hs : a.eval s = v) (hxv : a.eval x = .slice (some ad) m c)
    (h : ∀ v' w', w'.ownsRow B e z v' (n + m) (xs ++ ys) → Below B w w' → wpList Try.prog ops Q rest (a.put o.dst v') w') : wpList Try.prog ops Q (o :: rest) a w := by
  obtain ⟨h0, ao, c', e1, hc, hnone, hcl⟩ := hx
  obtain ⟨rfl, rfl⟩ : some ad = ao ∧ c = c' := by injection e1 with a _ b; exact ⟨a, b⟩
  refine wpList_append_own _ hgd s x t ho B e i0 zv z bytes ht hi hz0 hz1 hz2 hzc hz v n xs hs hown ad m c ys hxv h0 ?_ h1 (by unfold maxLen; omega) (Nat.le_trans (Nat.mul_le_mul hlen hby) (by omega)) hB ?_
  · intro j u hj
    by_cases hm : m = 0
    · subst hm
      have := (List.getElem?_eq_some_iff.1 hj).1
      rw [h0] at this; omega
    · obtain ⟨g, o, e1, _, hcell⟩ := hcl hm
      obtain rfl : ad = ⟨g, o, none⟩ := by injection e1
      rw [show (⟨g, o, none⟩ : Addr).add j = ⟨g, o + j, none⟩ from by simp [Addr.add]]
      exact hcell j u hj
  · intro v' w' h2 h3 _
    exact h v' w' h2 ((Below.refl B w).grown h3 hB (fun k hk => (World.ownsRow.lt hown k hk).1))
/-- A copy of the jobs. -/
def CloneEnd (w : World) (js : List J) (e : Ending) (w' : World) : Prop := ∃ v', e = .returned v' ∧ OwnJ w' w.heap.size v' js ∧ Below w.heap.size w w'
set_option maxHeartbeats 4000000 in
set_option maxRecDepth 100000 in
theorem clone63 {w : World} {v : Value} {js : List J} (h : ReadsJ w v js) (hne : js ≠ []) (hl : js.length ≤ 7) : Calls Try.prog 63 #[v] w (CloneEnd w js) := by
  have hf := h.flat hne
  obtain ⟨a, n, c, rfl, hn0⟩ : ∃ a n c, v = .slice (some a) n c ∧ n = js.length := by
    obtain ⟨ao, c, rfl, hc, h⟩ := h
    obtain ⟨g, rfl, _⟩ := h hne
    exact ⟨_, _, c, rfl, rfl⟩
  rw [← hn0] at hf
  obtain ⟨iJ, hiJ, hJ0, hJ1, hJ2⟩ := info_parts info56
  have hb1 := Lib.hid (below_alloc1 w (.cells #[] 56))
  have hlit := lit_own w w.heap.size w.heap.size 4 56 (Nat.le_refl _) rfl
  have hf' := Lib.hid (hf.below hb1.out)
  have hlit' := Lib.hid hlit
  have hn' := Lib.hid hn0
  clear h hf hlit hn0
  have hq := nil22 w (some a) n c 0 0
  go_enter Try.func63, Try.ntmps63
  go_wp2_with (at_builtin; refine app_flat Try.underlying22 hiJ hJ0 hJ1 hJ2 rfl (by decide) (by decide) hlit'.out hf'.out (one_flatJ js) (by have := hn'.out; omega) (by simp) rfl _ _ rfl rfl rfl ?_; intro v' w' hown hbw; have hown := Lib.hid hown; have hbw := Lib.hid (hb1.out.trans hbw))
  go_ret
  refine ⟨_, rfl, ?_, hbw.out⟩
  have := hown.out
  rw [List.nil_append, Nat.zero_add, hn'.out] at this
  exact this
end Go.Proofs.Ytjkbhdlbomcbeaa
