import Derived.Test.YtccmabckmpelcaaI
namespace Go.Proofs.Ytccmabckmpelcaa
open Go.RowKit

def part {α : Type} (l : List α) (a b : Nat) : List α := (l.drop a).take (b - a)
theorem part_len {α : Type} (l : List α) (a b : Nat) (h : b ≤ l.length) : (part l a b).length = b - a := by unfold part; rw [List.length_take, List.length_drop]; omega
theorem part_get {α : Type} (l : List α) (a b j : Nat) (h : j < b - a) (d : α) : (part l a b).getD j d = l.getD (a + j) d := by
  unfold part
  rw [List.getD_eq_getElem?_getD, List.getElem?_take, if_pos h, List.getElem?_drop, List.getD_eq_getElem?_getD]

theorem Reads.part {w : World} {ao : Option Addr} {c : Nat} {xs : List Int} {n : Nat} (hn : xs.length = n) (h : Reads w (.slice ao n c) xs) {a b : Nat} (hab : a < b) (hb : b ≤ n) :
    ∃ g o, ao = some ⟨g, o, none⟩ ∧ Reads w (.slice (some ⟨g, o + a, none⟩) (b - a) (c - a)) (part xs a b) := by
  subst hn
  obtain ⟨ao', c', e, hc, h⟩ := h
  have e1 : ao = ao' ∧ c = c' := by cases e; exact ⟨rfl, rfl⟩
  obtain ⟨rfl, rfl⟩ := e1
  obtain ⟨g, o, rfl, hg, hcell⟩ := h (fun e => by rw [e] at hb; simp at hb; omega)
  refine ⟨g, o, rfl, _, c - a, by rw [part_len _ _ _ hb], by rw [part_len _ _ _ hb]; omega, fun _ => ⟨g, o + a, rfl, hg, fun j hj => ?_⟩⟩
  rw [part_len _ _ _ hb] at hj
  rw [show o + a + j = o + (a + j) from by omega, hcell (a + j) (by omega), part_get _ _ _ _ hj]
theorem ReadsG.part {w : World} {ao : Option Addr} {c : Nat} {xs : List (List Int)} {n : Nat} (hn : xs.length = n) (h : ReadsG w (.slice ao n c) xs) {a b : Nat} (hab : a < b) (hb : b ≤ n) :
    ∃ g o, ao = some ⟨g, o, none⟩ ∧ ReadsG w (.slice (some ⟨g, o + a, none⟩) (b - a) (c - a)) (part xs a b) := by
  subst hn
  obtain ⟨ao', c', e, hc, h⟩ := h
  have e1 : ao = ao' ∧ c = c' := by cases e; exact ⟨rfl, rfl⟩
  obtain ⟨rfl, rfl⟩ := e1
  obtain ⟨g, o, rfl, hg, hcell⟩ := h (fun e => by rw [e] at hb; simp at hb; omega)
  refine ⟨g, o, rfl, _, c - a, by rw [part_len _ _ _ hb], by rw [part_len _ _ _ hb]; omega, fun _ => ⟨g, o + a, rfl, hg, fun j hj => ?_⟩⟩
  rw [part_len _ _ _ hb] at hj
  obtain ⟨u, h1, h2⟩ := hcell (a + j) (by omega)
  exact ⟨u, by rw [show o + a + j = o + (a + j) from by omega]; exact h1, by rw [part_get _ _ _ _ hj]; exact h2⟩

theorem info57 : (Try.prog.info? 57).map (·.size) = some 2 := by kernel_rfl

set_option maxHeartbeats 2000000 in
set_option maxRecDepth 100000 in
theorem part47 {w : World} {u v : Value} {fs : List Int} {gs : List (List Int)} (hf : Reads w u fs) (hg : ReadsG w v gs) (hfl : fs.length = gs.length) (a b : Nat) (hab : a < b) (hb : b ≤ fs.length) :
    Calls Try.prog 47 #[.agg #[u, v], .int .i64 a, .int .i64 b] w fun e w' => ∃ u' v', e = .returned (.agg #[u', v']) ∧ Reads w' u' (part fs a b) ∧ ReadsG w' v' (part gs a b) ∧ Below w.heap.size w w' := by
  obtain ⟨n, hn⟩ : ∃ n, n = fs.length := ⟨_, rfl⟩
  have hf' := Lib.hid hf
  have hg' := Lib.hid hg
  obtain ⟨fo, fc, rfl, hfc, _⟩ := hf
  obtain ⟨go, gc, rfl, hgc, _⟩ := hg
  rw [← hn] at hf' hfc hb ⊢
  rw [← hfl, ← hn] at hg' hgc ⊢
  obtain ⟨g1, o1, rfl, hr1⟩ := hf'.out.part hn.symm hab hb
  obtain ⟨g2, o2, rfl, hr2⟩ := hg'.out.part (hfl.symm.trans hn.symm) hab hb
  have hr1' := Lib.hid hr1
  have hr2' := Lib.hid hr2
  clear hr1 hr2 hf' hg' hn hfl
  have e1 : (b : Int) - a = ((b - a : Nat) : Int) := by omega
  have e2 : a < fc := by omega
  have e3 : a < gc := by omega
  have e4 : b ≤ fc := by omega
  have e5 : b ≤ gc := by omega
  go_enter Try.func47, Try.ntmps47
  go_wp2_with fail
  go_region
  all_goals
    go_wp2_with fail
    (try simp only [Exit.inBlock, Exit.then])
    refine bodyPost_ret (results_cell_row rfl _ _ (w.heap.size + 1) 57 _ (0, 0) _ rfl (heap_alloc2_new w _ _) Try.underlying57 rfl info57) rfl ⟨_, _, rfl, ?_⟩
    have hb : Below w.heap.size w ((w.alloc (Obj.cells #[Value.slice (some { block := g1, off := o1 }) n fc, Value.slice (some { block := g2, off := o2 }) n gc] 57)).alloc (Obj.cells #[Value.slice (some { block := g1, off := o1 + a }) (b - a) (fc - a), Value.slice (some { block := g2, off := o2 + a }) (b - a) (gc - a)] 57)).drew := (((Below.refl _ _).alloc (Nat.le_refl _) _).alloc (by simp) _).drew
    exact ⟨hr1'.out.below hb, hr2'.out.below hb, hb⟩
end Go.Proofs.Ytccmabckmpelcaa
