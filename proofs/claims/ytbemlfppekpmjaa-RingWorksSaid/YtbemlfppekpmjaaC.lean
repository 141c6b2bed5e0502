import Derived.Test.YtbemlfppekpmjaaB
/-! Letters are sent, workers are released. -/
namespace Go.Proofs.Ytbemlfppekpmjaa
open Go.RowKit Rng
/-- A computation is changed. -/
def WkEnd (w : World) (B b h c : Nat) (fv : Value) (S : WS) (ev : Value) (e : Ending) (w' : World) : Prop := e = .returned ev ∧ ∃ fv', WkAt w' B b h c fv' S ∧ Frm (WkP b h fv) (WkP b h fv') w w'
theorem frm_app {w w1 : World} {B b h : Nat} {fv fv' : Value} (hb : Below B w w1) (hk : ∀ g, g < w.heap.size → fv.ownBlock ≠ some g → w1.heap[g]? = w.heap[g]?) (ho : ∀ g, fv'.ownBlock = some g → fv.ownBlock = some g ∨ w.heap.size ≤ g) : Frm (WkP b h fv) (WkP b h fv') w w1 :=
  ⟨hb.os, hb.tape, hb.output, hb.size, fun k hk' hn => hk k hk' (fun e => hn (.inr (.inr e))), fun k hk' => by
    rcases hk' with rfl | rfl | e
    · exact .inl (.inl rfl)
    · exact .inl (.inr (.inl rfl))
    · rcases ho k e with e2 | e2
      · exact .inl (.inr (.inr e2))
      · exact .inr e2⟩
set_option maxHeartbeats 4000000 in
set_option maxRecDepth 100000 in
theorem ack80 {w : World} {B b h c : Nat} {fv : Value} {S : WS} (k : WkAt w B b h c fv S) (hl : S.fl.length ≤ 1000) (f t : Nat) :
    Calls Try.prog 80 #[.pointer (some ⟨b, 0, none⟩), .int .i64 f, .int .i64 t] w (WkEnd w B b h c fv (S.put ⟨f, t, true⟩) (.tuple #[])) := by
  obtain ⟨i0, hi, hz0, hz1, hz2⟩ := info_parts info69
  have k' := Lib.hid k
  have hB := Lib.hid (Nat.le_trans k.Bb (Nat.le_of_lt k.bw))
  have c2 := k.c2
  obtain ⟨ao, fc, rfl, -⟩ := k.flv
  have hO := Lib.hid k.fl
  obtain ⟨n, hn⟩ : ∃ n, n = S.fl.length := ⟨_, rfl⟩
  rw [← hn] at c2 hl hO k' ⊢
  have hn' := Lib.hid hn
  clear k hn
  go_enter Try.func80, Try.ntmps80
  go_wp2_with (
    at_builtin; refine app_one (n := n) (v := .slice ao n fc) Try.underlying60 hi hz0 hz1 hz2 rfl (by decide) (by decide) (by have := hO.out; unfold OwnL at this; rw [← hn'.out] at this; exact this) rfl (by intro u hu; exact one_flatL [⟨f, t, true⟩] u (by simpa [flat, encL] using hu)) (by omega) hB.out rfl _ _ rfl rfl rfl ?_; intro v1 w1 hO1 hb1 hk1 ho1 hs1
    have hc1 := (cell_block (p := ⟨b, 2, none⟩) (hk1 b k'.out.bw k'.out.bf)).trans c2
    have hf1 := (frozen_block (p := ⟨b, 2, none⟩) (hk1 b k'.out.bw k'.out.bf)).trans (k'.out.fz 2)
    have hb1' := Lib.hid hb1
    have hk1' := Lib.hid hk1
    have ho1' := Lib.hid ho1
    have hs1' := Lib.hid hs1
    have hO1' := Lib.hid hO1
    obtain ⟨g1, c1, rfl⟩ : ∃ g c, v1 = .slice (some ⟨g, 0, none⟩) (n + 1) c := by
      obtain ⟨ao, c, e, hc, h⟩ := own_cells hO1
      obtain ⟨g, rfl, _⟩ := h (by omega)
      exact ⟨g, c, e⟩
    clear hO1 hb1 hk1 ho1 hs1)
  refine bodyPost_ret (results_none rfl _ _ _) rfl ?_
  refine ⟨rfl, .slice (some ⟨g1, 0, none⟩) (n + 1) c1, ?_, ?_⟩
  · exact k'.out.setF hs1'.out hk1'.out (by unfold OwnL; rw [List.length_append, flat_app, ← hn'.out]; exact hO1'.out) ho1'.out
  · exact (frm_app hb1'.out hk1'.out ho1'.out).set (.inl rfl)
set_option maxHeartbeats 4000000 in
set_option maxRecDepth 100000 in
theorem rel66 {w : World} {B b h c : Nat} {fv : Value} {S : WS} (k : WkAt w B b h c fv S) (hl : S.fl.length ≤ 1000) {i : Nat} (hi : i < S.n) (hp : i = 0 ∨ (S.hd i).par ≠ 0) :
    Calls Try.prog 66 #[.pointer (some ⟨b, 0, none⟩), .int .i64 i] w (WkEnd w B b h c fv (S.rel i) (.tuple #[])) := by
  have k' := Lib.hid k
  have c1 := k.c1
  have hnc := k.nc
  obtain ⟨k0, k1, k2, fzh⟩ := k.hand hi
  obtain ⟨n, hn⟩ : ∃ n, n = S.n := ⟨_, rfl⟩
  rw [← hn] at c1 hi hnc
  have hn' := Lib.hid hn
  have hin : (i : Int) < (n : Int) := by omega
  obtain ⟨⟨x, p, o⟩, hx⟩ : ∃ a, a = S.hd i := ⟨_, rfl⟩
  rw [← hx] at k0 k1 k2 hp
  simp only at k0 k1 k2 hp
  have hx' := Lib.hid hx
  have hi' := Lib.hid hi
  by_cases c : i = 0 ∨ x = true ∨ o ≠ 0
  · have hS : S.rel i = S := by unfold WS.rel; rw [if_pos (by rw [← hx]; exact c)]
    rw [hS]
    clear k hn hx fzh hS hi
    by_cases h0 : i = 0
    · subst h0
      go_enter Try.func66, Try.ntmps66
      go_wp2
      refine bodyPost_ret (results_none rfl _ _ _) rfl ?_
      exact ⟨rfl, _, k'.out, Frm.refl _ _⟩
    · have h1 : ((i : Int) == 0) = false := by simpa using h0
      by_cases hx0 : x = true
      · subst hx0
        clear c hp
        go_enter Try.func66, Try.ntmps66
        go_wp2
        refine bodyPost_ret (results_none rfl _ _ _) rfl ?_
        exact ⟨rfl, _, k'.out, Frm.refl _ _⟩
      · obtain rfl : x = false := by simpa using hx0
        have ho : 0 < o := by
          have := c.resolve_left h0
          simp at this; omega
        clear c hp
        go_enter Try.func66, Try.ntmps66
        go_wp2
        refine bodyPost_ret (results_none rfl _ _ _) rfl ?_
        exact ⟨rfl, _, k'.out, Frm.refl _ _⟩
  · have hS : S.rel i = (S.put ⟨i, p - 1, true⟩).set i ⟨x, 0, o⟩ := by unfold WS.rel; rw [← hx, if_neg c]
    rw [hS]
    have h0 : i ≠ 0 := fun e => c (.inl e)
    obtain rfl : x = false := by
      cases x with
      | false => rfl
      | true => exact absurd (.inr (.inl rfl)) c
    obtain rfl : o = 0 := by
      cases o with
      | zero => rfl
      | succ o => exact absurd (.inr (.inr (by omega))) c
    have h1 : ((i : Int) == 0) = false := by simpa using h0
    have hp1 := hp.resolve_left h0
    obtain ⟨q, rfl⟩ : ∃ q, p = q + 1 := ⟨p - 1, by omega⟩
    rw [show (((q + 1 : Nat) : Int) - 1) = (q : Int) by omega] at k1
    simp only [Nat.add_sub_cancel]
    have hak := Lib.hid (ack80 k hl i q)
    clear k hn hx fzh hS hi hp hp1 c
    go_enter Try.func66, Try.ntmps66
    go_wp2_with (go_at_call 80; refine hak.out.mono ?_; rintro e wj ⟨rfl, fv1, ka, fr⟩
                 have ka' := Lib.hid ka
                 have fr' := Lib.hid fr
                 obtain ⟨-, y1, -, yf⟩ := ka.hand (i := i) (by simpa [hn'.out] using hi'.out)
                 have y1f := yf (i * 3 + 1)
                 rw [hd_put, ← hx'.out] at y1
                 clear hak ka fr yf)
    refine bodyPost_ret (results_none rfl _ _ _) rfl ?_
    refine ⟨rfl, _, ?_, fr'.out.set (.inr (.inl rfl))⟩
    refine ka'.out.setH (i := i) (f := 1) (by simpa [hn'.out] using hi'.out) (by omega) ?_
    rw [hd_put, ← hx'.out]; rfl
end Go.Proofs.Ytbemlfppekpmjaa
