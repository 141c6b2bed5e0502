import Derived.Test.YtbemlfppekpmjaaD
import Derived.Test.YtbemlfppekpmjaaE
/-! Copies of computations; letters are delivered. -/
namespace Go.Proofs.Ytbemlfppekpmjaa
open Go.RowKit Rng
theorem nil82 (W : World) (a : Option Addr) (n c n' c' : Nat) : (binOp .eql 82 (.slice a n c) (.slice none n' c')).run Try.prog W = .ok (.bool a.isNone) W := Lib.run_eql_slice_nil W _ _ a n c n' c' Try.underlying82
theorem nil60 (W : World) (a : Option Addr) (n c n' c' : Nat) : (binOp .eql 60 (.slice a n c) (.slice none n' c')).run Try.prog W = .ok (.bool a.isNone) W := Lib.run_eql_slice_nil W _ _ a n c n' c' Try.underlying60
/-- A copy. -/
def CopyEnd (w : World) (e z n : Nat) (xs : List Value) (ev : Ending) (w' : World) : Prop := ∃ v', ev = .returned v' ∧ w'.ownsRow w.heap.size e z v' n xs ∧ Below w.heap.size w w'
set_option maxHeartbeats 4000000 in
set_option maxRecDepth 100000 in
theorem clone72 {w : World} {v : Value} {n : Nat} {ls : List Lt} (h : FlatR w 3 v n (flat encL ls)) (hl : n ≤ 1000) : Calls Try.prog 72 #[v] w (CopyEnd w 69 3 n (flat encL ls)) := by
  have h' := Lib.hid h
  obtain ⟨h0, ao, c, rfl, hc, hnone, hcl⟩ := h
  cases ao with
  | none =>
    obtain rfl := hnone rfl
    obtain rfl : n = 0 := by omega
    have e0 : flat encL ls = [] := List.length_eq_zero_iff.1 (by omega)
    rw [e0]
    clear hcl hnone h0 hc h' hl e0
    have hq := nil60 w none 0 0 0 0
    go_enter Try.func72, Try.ntmps72
    go_wp2
    go_ret
    exact ⟨_, rfl, World.ownsRow_nil _ _ _ _, Below.refl _ _⟩
  | some a =>
    obtain ⟨i0, hi, hz0, hz1, hz2⟩ := info_parts info69
    have hb1 := Lib.hid (below_alloc1 w (.cells #[] 69))
    have hlit := Lib.hid (lit_own w w.heap.size w.heap.size 3 69 (Nat.le_refl _) rfl)
    have hf := Lib.hid (h'.out.below hb1.out)
    clear hcl hnone h0 hc
    have hq := nil60 w (some a) n c 0 0
    go_enter Try.func72, Try.ntmps72
    go_wp2_with (at_builtin; refine app_flat Try.underlying60 hi hz0 hz1 hz2 rfl (by decide) (by decide) hlit.out hf.out (one_flatL ls) (by omega) (by simp) rfl _ _ rfl rfl rfl ?_; intro v' w' hown hg hb; have hown := Lib.hid hown; have hbw := Lib.hid (hb1.out.grown hg (by simp) (fun k hk => (World.ownsRow.lt hlit.out k hk).1)); clear hg hb)
    go_ret
    refine ⟨_, rfl, ?_, hbw.out⟩
    have := hown.out
    rw [List.nil_append, Nat.zero_add] at this
    exact this
set_option maxHeartbeats 4000000 in
set_option maxRecDepth 100000 in
theorem clone71 {w : World} {v : Value} {n : Nat} {ls : List Hd} (h : FlatR w 3 v n (flat encH ls)) (hl : n ≤ 1000) : Calls Try.prog 71 #[v] w (CopyEnd w 98 3 n (flat encH ls)) := by
  have h' := Lib.hid h
  obtain ⟨h0, ao, c, rfl, hc, hnone, hcl⟩ := h
  cases ao with
  | none =>
    obtain rfl := hnone rfl
    obtain rfl : n = 0 := by omega
    have e0 : flat encH ls = [] := List.length_eq_zero_iff.1 (by omega)
    rw [e0]
    clear hcl hnone h0 hc h' hl e0
    have hq := nil82 w none 0 0 0 0
    go_enter Try.func71, Try.ntmps71
    go_wp2
    go_ret
    exact ⟨_, rfl, World.ownsRow_nil _ _ _ _, Below.refl _ _⟩
  | some a =>
    obtain ⟨i0, hi, hz0, hz1, hz2⟩ := info_parts info98
    have hb1 := Lib.hid (below_alloc1 w (.cells #[] 98))
    have hlit := Lib.hid (lit_own w w.heap.size w.heap.size 3 98 (Nat.le_refl _) rfl)
    have hf := Lib.hid (h'.out.below hb1.out)
    clear hcl hnone h0 hc
    have hq := nil82 w (some a) n c 0 0
    go_enter Try.func71, Try.ntmps71
    go_wp2_with (at_builtin; refine app_flat Try.underlying82 hi hz0 hz1 hz2 rfl (by decide) (by decide) hlit.out hf.out (one_flatH ls) (by omega) (by simp) rfl _ _ rfl rfl rfl ?_; intro v' w' hown hg hb; have hown := Lib.hid hown; have hbw := Lib.hid (hb1.out.grown hg (by simp) (fun k hk => (World.ownsRow.lt hlit.out k hk).1)); clear hg hb)
    go_ret
    refine ⟨_, rfl, ?_, hbw.out⟩
    have := hown.out
    rw [List.nil_append, Nat.zero_add] at this
    exact this
/-- What is on the way, as a copy. -/
def FlEnd (w : World) (ls : List Lt) (ev : Ending) (w' : World) : Prop := ∃ v', ev = .returned v' ∧ OwnL w' w.heap.size v' ls ∧ Below w.heap.size w w'
set_option maxHeartbeats 4000000 in
set_option maxRecDepth 100000 in
theorem flight37 {w : World} {B b h c : Nat} {fv : Value} {S : WS} (k : WkAt w B b h c fv S) (hl : S.fl.length ≤ 1000) : Calls Try.prog 37 #[.pointer (some ⟨b, 0, none⟩)] w (FlEnd w S.fl) := by
  have c0 := k.c0
  have c2 := k.c2
  have ht := Lib.hid (there61 c0)
  have hcl := Lib.hid (clone72 (own_flatR k.fl) hl)
  obtain ⟨ao, fc, rfl, -⟩ := k.flv
  obtain ⟨m, hm⟩ : ∃ m, m = S.fl.length := ⟨_, rfl⟩
  rw [← hm] at c2 hcl
  have hm' := Lib.hid hm
  clear k hl hm
  go_enter Try.func37, Try.ntmps37
  go_wp2_with (first
    | (go_at_call 61; refine ht.out.mono ?_; rintro e wj ⟨rfl, rfl⟩)
    | (go_at_call 72; refine hcl.out.mono ?_; rintro e wj ⟨v', rfl, ho, hb⟩; have ho := Lib.hid ho; have hb := Lib.hid hb))
  go_ret
  exact ⟨_, rfl, by unfold OwnL; rw [← hm'.out]; exact ho.out, hb.out⟩
/-- A new computation. -/
def NewW (w : World) (S : WS) (e : Ending) (w' : World) : Prop := ∃ b h c fv, e = .returned (.pointer (some ⟨b, 0, none⟩)) ∧ WkAt w' w.heap.size b h c fv S ∧ Below w.heap.size w w'
set_option maxHeartbeats 4000000 in
set_option maxRecDepth 100000 in
theorem new52 {w : World} {B h c : Nat} {fv : Value} {S : WS} (hh : OwnH w B (.slice (some ⟨h, 0, none⟩) S.n c) S.hs) (hf : OwnL w B fv S.fl) (hne : fv.ownBlock ≠ some h) :
    Calls Try.prog 52 #[.slice (some ⟨h, 0, none⟩) S.n c, fv] w (fun e w' => e = .returned (.pointer (some ⟨w.heap.size, 0, none⟩)) ∧ (B ≤ w.heap.size → WkAt w' B w.heap.size h c fv S) ∧ Below w.heap.size w w') := by
  obtain ⟨ao, fc, rfl, -⟩ := own_cells hf
  have hh' := Lib.hid hh
  have hf' := Lib.hid hf
  have hne' := Lib.hid hne
  obtain ⟨m, hm⟩ : ∃ m, m = S.fl.length := ⟨_, rfl⟩
  obtain ⟨n, hn⟩ : ∃ n, n = S.n := ⟨_, rfl⟩
  rw [← hm] at hf' hne' ⊢
  rw [← hn] at hh' ⊢
  have hm' := Lib.hid hm
  have hn' := Lib.hid hn
  clear hh hf hne hm hn
  go_enter Try.func52, Try.ntmps52
  go_wp2
  go_ret
  refine ⟨rfl, fun hB => ?_, below_alloc1 _ _⟩
  have hbl := below_alloc1 w (.cells #[.pointer (some ⟨w.heap.size, 0, none⟩), .slice (some ⟨h, 0, none⟩) n c, .slice ao m fc] 84)
  have hg := heap_alloc_new w (.cells #[.pointer (some ⟨w.heap.size, 0, none⟩), .slice (some ⟨h, 0, none⟩) n c, .slice ao m fc] 84)
  have hhl := World.ownsRow.lt hh'.out h rfl
  refine ⟨hB, by simp, cell_of_row _ _ 0 _ _ _ hg, ?_, cell_of_row _ _ 2 _ _ _ hg, fun j => frozen_of_row _ _ j _ _ hg, ?_, own_below hf'.out hbl, by omega, fun e => ?_, hne'.out⟩
  · rw [← hn'.out]; exact cell_of_row _ _ 1 _ _ _ hg
  · rw [← hn'.out]; exact own_below hh'.out hbl
  · have := (World.ownsRow.lt hf'.out _ e).2
    omega
end Go.Proofs.Ytbemlfppekpmjaa
