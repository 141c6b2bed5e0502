import Derived.Test.YtbemlfppekpmjaaQb
import Derived.Test.YtbemlfppekpmjaaQc
namespace Go.Proofs.Ytbemlfppekpmjaa
open Go.RowKit Rng
theorem tl_get {S : WS} {i : Nat} (h : i < S.n) : (tl S)[i]? = some (S.eng i, S.hd i) := by
  rw [List.getElem?_eq_getElem (by rw [tl_len]; exact h), tl_at S h]
theorem TkAt.frm {w w' : World} {B b h c : Nat} {fv : Value} {S : WS} {P P' : Nat → Prop} (k : TkAt w B b h c fv S) (hb : Frm P P' w w') (hd : ∀ i, WkP b h fv i → ¬ P i) : TkAt w' B b h c fv S :=
  k.keep hb.size (fun i hi => hb.block i (k.pos i hi).2 (hd i hi))
set_option maxHeartbeats 2000000 in
set_option maxRecDepth 100000 in
theorem leave68 {w : World} {B b h c : Nat} {fv : Value} {S : WS} (k : TkAt w B b h c fv S) (hl : S.fl.length ≤ 1000) {i : Nat} (hi : i < S.n) (hp : i = 0 ∨ (S.hd i).par ≠ 0) :
    Calls Try.prog 68 #[.pointer (some ⟨b, 0, none⟩), .int .i64 i] w (TkEnd w B b h c fv (S.rel i) (.tuple #[])) := by
  have k' := Lib.hid k
  have c0 := k.c0
  have hnc := k.nc
  obtain ⟨k0, k1, k2, k3, fzh⟩ := k.hand hi
  have hlv := fun d => leaves67 (d := d) k hi
  have hi' := Lib.hid hi
  have he : S.eng i = true := by
    unfold WS.eng
    rcases hp with e | e
    · simp [e]
    · simp [e]
  obtain ⟨n, hn⟩ : ∃ n, n = S.n := ⟨_, rfl⟩
  rw [← hn] at c0 hi hnc
  have hn' := Lib.hid hn
  have hin : (i : Int) < (n : Int) := by omega
  obtain ⟨⟨x, p, o⟩, hx⟩ : ∃ a, a = S.hd i := ⟨_, rfl⟩
  rw [← hx] at k0 k2 k3 hp
  rw [he] at k1
  simp only at k0 k2 k3 hp
  have hx' := Lib.hid hx
  have he' := Lib.hid he
  by_cases hw : x = true
  · subst hw
    have hS : S.rel i = S := by unfold WS.rel; rw [if_pos (.inr (.inl (by rw [← hx])))]
    rw [hS]
    clear k hn hx hlv hS fzh he
    go_enter Try.func68, Try.ntmps68
    go_wp2
    refine bodyPost_ret (results_none rfl _ _ _) rfl ?_
    exact ⟨rfl, _, k'.out, Frm.refl _ _⟩
  · obtain rfl : x = false := by simpa using hw
    by_cases cnd : i = 0 ∨ o ≠ 0
    · have hS : S.rel i = S := by unfold WS.rel; rw [if_pos (by rw [← hx]; rcases cnd with e | e; exact .inl e; exact .inr (.inr e))]
      have hl2 := Lib.hid (hlv false (by unfold leavesB; rw [← hx, he]; rcases cnd with e | e <;> simp [e]))
      rw [hS]
      clear k hn hx hlv hS fzh he
      go_enter Try.func68, Try.ntmps68
      go_wp2_with (go_at_call 67; refine hl2.out.mono ?_; rintro e wj ⟨rfl, rfl⟩)
      refine bodyPost_ret (results_none rfl _ _ _) rfl ?_
      exact ⟨rfl, _, k'.out, Frm.refl _ _⟩
    · have h0 : i ≠ 0 := fun e => cnd (.inl e)
      obtain rfl : o = 0 := by
        cases o with
        | zero => rfl
        | succ o => exact absurd (.inr (by omega)) cnd
      have hS : S.rel i = (S.put ⟨i, p - 1, true⟩).set i ⟨false, 0, 0⟩ := by unfold WS.rel; rw [← hx, if_neg (by simp; exact h0)]
      have hl2 := Lib.hid (hlv true (by unfold leavesB; rw [← hx, he]; simp [h0]))
      have hp1 := hp.resolve_left h0
      obtain ⟨q, rfl⟩ : ∃ q, p = q + 1 := ⟨p - 1, by omega⟩
      rw [show (((q + 1 : Nat) : Int) - 1) = (q : Int) by omega] at k2
      rw [hS]
      simp only [Nat.add_sub_cancel]
      have hpu := Lib.hid (put65 k.row hl ⟨i, q, true⟩)
      clear k hn hx hlv hS fzh he hp hp1 cnd
      go_enter Try.func68, Try.ntmps68
      go_wp2_with (first
        | (go_at_call 67; refine hl2.out.mono ?_; rintro e wj ⟨rfl, rfl⟩)
        | (go_at_call 65; refine hpu.out.mono ?_; rintro e wj ⟨rfl, fv1, kr, fr⟩
           have kr' := Lib.hid kr
           have fr' := Lib.hid fr
           have z0 := kr.c0
           rw [← hn'.out] at z0
           have k1' := Lib.hid (kr.setT (i := i) (f := 1) (x := (S.eng i, S.hd i)) (a := (false, S.hd i)) (u := .bool false) (tl_get hi'.out) (by omega) rfl)
           obtain ⟨y1, y2, yf1, yf2⟩ : wj.cell? ⟨h, i * 4 + 1, none⟩ = some (.bool true) ∧ wj.cell? ⟨h, i * 4 + 2, none⟩ = some (.int .i64 q) ∧ wj.frozen? ⟨h, i * 4 + 1, none⟩ = false ∧ wj.frozen? ⟨h, i * 4 + 2, none⟩ = false := by
             have ka : TkAt wj B b h c fv1 (S.put ⟨i, q, true⟩) := kr.at rfl (tl_congr rfl fun _ _ => rfl) rfl
             obtain ⟨-, a1, a2, -, af⟩ := ka.hand (i := i) hi'.out
             have e1 : (S.put ⟨i, q, true⟩).eng i = true := he'.out
             rw [e1] at a1
             rw [hd_put, ← hx'.out] at a2
             refine ⟨a1, ?_, af _, af _⟩
             rw [a2]
             show some (Value.int .i64 (((q + 1 : Nat) : Int) - 1)) = _
             rw [show (((q + 1 : Nat) : Int) - 1) = (q : Int) by omega]
           clear kr fr hpu hl2))
      go_region
      all_goals
        refine bodyPost_ret (results_none rfl _ _ _) rfl ?_
        refine ⟨rfl, fv1, ?_, ((fr'.out.drew.set (.inr (.inl rfl))).set (.inr (.inl rfl)))⟩
        have k2' := k1'.out.drew
        have k3' := kr'.out.drew.setT (i := i) (f := 1) (x := (S.eng i, S.hd i)) (a := (false, S.hd i)) (u := .bool false) (tl_get hi'.out) (by omega) rfl
        have k4' := k3'.setT (i := i) (f := 2) (x := (false, S.hd i)) (a := (false, ⟨false, 0, 0⟩)) (u := .int .i64 (-1)) (by rw [List.getElem?_set_self (by rw [tl_len]; exact hi'.out)]) (by omega) (by rw [← hx'.out]; rfl)
        refine k4'.at (by simp) ?_ rfl
        rw [List.set_set, tl_set _ _ (by simpa using hi'.out)]
        have e1 : tl (S.put ⟨i, q, true⟩) = tl S := tl_congr rfl fun _ _ => rfl
        rw [e1, show (i == 0) = false by simpa using h0]
        rfl
end Go.Proofs.Ytbemlfppekpmjaa
