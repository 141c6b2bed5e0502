import Derived.Test.YtbemlfppekpmjaaQd
namespace Go.Proofs.Ytbemlfppekpmjaa
open Go.RowKit Rng
set_option maxHeartbeats 2000000 in
set_option maxRecDepth 100000 in
theorem send28 {w : World} {B b h c : Nat} {fv : Value} {S : WS} (k : TkAt w B b h c fv S) (hv : Inv S) (f t : Int) :
    Calls Try.prog 28 #[.pointer (some ⟨b, 0, none⟩), .int .i64 f, .int .i64 t] w (TkEnd w B b h c fv (sendE S f t).2 (.int .i64 (sendE S f t).1)) := by
  have k' := Lib.hid k
  have c0 := k.c0
  have c1 := k.c1
  have hnc := k.nc
  have hfl := hv.room
  have hn10 := hv.n10
  have hex := fun i d => exists64 (d := d) k.row (by omega) i
  obtain ⟨ao, fc, rfl, -⟩ := k.flv
  unfold sendE
  cases e1 : inB f S.n with
  | false =>
    have h1 := Lib.hid (hex f false e1)
    rw [Bool.false_and, if_pos rfl]
    clear hex k hv e1
    go_enter Try.func28, Try.ntmps28
    go_wp2_with (go_at_call 64; refine h1.out.mono ?_; rintro e wj ⟨rfl, rfl⟩)
    go_ret
    exact ⟨rfl, _, k'.out, Frm.refl _ _⟩
  | true =>
    have h1 := Lib.hid (hex f true e1)
    rw [Bool.true_and]
    cases e2 : inB t S.n with
    | false =>
      have h2 := Lib.hid (hex t false e2)
      rw [if_pos rfl]
      clear hex k hv e1 e2
      go_enter Try.func28, Try.ntmps28
      go_wp2_with (first
        | (go_at_call 64; refine h1.out.mono ?_; clear h1; rintro e wj ⟨rfl, rfl⟩)
        | (go_at_call 64; refine h2.out.mono ?_; rintro e wj ⟨rfl, rfl⟩))
      go_ret
      exact ⟨rfl, _, k'.out, Frm.refl _ _⟩
    | true =>
      have h2 := Lib.hid (hex t true e2)
      rw [if_neg (by simp)]
      obtain ⟨i, rfl, hin⟩ := inB_nat e1
      obtain ⟨j, rfl, hjn⟩ := inB_nat e2
      simp only [Int.toNat_natCast]
      obtain ⟨k0, -, -, k3, fzh⟩ := k.hand hin
      have hole := owed_le hv hin
      have hin' := Lib.hid hin
      obtain ⟨m, hm⟩ : ∃ m, m = S.fl.length := ⟨_, rfl⟩
      rw [← hm] at c1 hfl k' ⊢
      have hm' := Lib.hid hm
      obtain ⟨n, hn⟩ : ∃ n, n = S.n := ⟨_, rfl⟩
      rw [← hn] at c0 hin hjn hnc
      have hn' := Lib.hid hn
      have hii : (i : Int) < (n : Int) := by omega
      cases e3 : (S.hd i).wk with
      | false =>
        rw [e3] at k0
        rw [if_pos rfl]
        clear hex k hv e1 e2 hn fzh e3 hm k3
        go_enter Try.func28, Try.ntmps28
        go_wp2_with (first
          | (go_at_call 64; refine h1.out.mono ?_; clear h1; rintro e wj ⟨rfl, rfl⟩)
          | (go_at_call 64; refine h2.out.mono ?_; rintro e wj ⟨rfl, rfl⟩))
        go_ret
        exact ⟨rfl, _, k'.out, Frm.refl _ _⟩
      | true =>
        rw [e3] at k0
        rw [if_neg (by simp)]
        by_cases e4 : 200 ≤ m
        · rw [if_pos e4]
          clear hex k hv e1 e2 hn fzh e3 hm k3
          go_enter Try.func28, Try.ntmps28
          go_wp2_with (first
            | (go_at_call 64; refine h1.out.mono ?_; clear h1; rintro e wj ⟨rfl, rfl⟩)
            | (go_at_call 64; refine h2.out.mono ?_; rintro e wj ⟨rfl, rfl⟩))
          go_ret
          exact ⟨rfl, _, k'.out, Frm.refl _ _⟩
        · rw [if_neg e4]
          obtain ⟨o, ho⟩ : ∃ o, o = (S.hd i).owed := ⟨_, rfl⟩
          rw [← ho] at k3 hole
          have ho' := Lib.hid ho
          have fz3 := fzh (i * 4 + 3)
          have k1 := Lib.hid (k'.out.row.setT (i := i) (f := 3) (x := (S.eng i, S.hd i)) (a := (S.eng i, ⟨(S.hd i).wk, (S.hd i).par, (S.hd i).owed + 1⟩)) (u := .int .i64 ((o : Int) + 1)) (tl_get hin'.out) (by omega) (by
            rw [ho'.out]
            show [_, _, _, Value.int .i64 (((S.hd i).owed + 1 : Nat) : Int)] = _
            rw [show (((S.hd i).owed + 1 : Nat) : Int) = ((S.hd i).owed : Int) + 1 by omega]; rfl))
          have fr1 := Lib.hid ((Frm.refl (WkP b h (.slice ao m fc)) w).set (g := h) (k := i * 4 + 3) (u := .int .i64 ((o : Int) + 1)) (.inr (.inl rfl)))
          have hpu := Lib.hid (put65 k1.out (by omega) ⟨i, j, false⟩)
          have hm4 : m < 200 := by omega
          clear hex k hv e1 e2 hn fzh e3 hm e4 ho
          go_enter Try.func28, Try.ntmps28
          go_wp2_with (first
            | (go_at_call 64; refine h1.out.mono ?_; clear h1; rintro e wj ⟨rfl, rfl⟩)
            | (go_at_call 64; refine h2.out.mono ?_; rintro e wj ⟨rfl, rfl⟩)
            | (go_at_call 65; refine hpu.out.mono ?_; rintro e wj ⟨rfl, fv1, kr, fr⟩; have kr' := Lib.hid kr; have fr' := Lib.hid fr; clear kr fr))
          go_ret
          refine ⟨rfl, fv1, ?_, fr1.out.trans fr'.out⟩
          refine kr'.out.at (by simp [WS.send]) ?_ rfl
          have e1 : tl (S.send i j) = tl (S.set i ⟨(S.hd i).wk, (S.hd i).par, (S.hd i).owed + 1⟩) := tl_congr rfl fun _ _ => rfl
          rw [e1, tl_set _ _ hin'.out]; rfl
set_option maxHeartbeats 2000000 in
set_option maxRecDepth 100000 in
theorem idle30 {w : World} {B b h c : Nat} {fv : Value} {S : WS} (k : TkAt w B b h c fv S) (hv : Inv S) (x : Int) :
    Calls Try.prog 30 #[.pointer (some ⟨b, 0, none⟩), .int .i64 x] w (TkEnd w B b h c fv (idleE S x).2 (.int .i64 (idleE S x).1)) := by
  have k' := Lib.hid k
  have c0 := k.c0
  have c1 := k.c1
  have hnc := k.nc
  have hfl := hv.room
  have hn10 := hv.n10
  have hex := fun d => exists64 (d := d) k.row (by omega) x
  obtain ⟨ao, fc, rfl, -⟩ := k.flv
  unfold idleE
  cases e1 : inB x S.n with
  | false =>
    have h1 := Lib.hid (hex false e1)
    rw [if_pos rfl]
    clear hex k hv e1
    go_enter Try.func30, Try.ntmps30
    go_wp2_with (go_at_call 64; refine h1.out.mono ?_; rintro e wj ⟨rfl, rfl⟩)
    go_ret
    exact ⟨rfl, _, k'.out, Frm.refl _ _⟩
  | true =>
    have h1 := Lib.hid (hex true e1)
    rw [if_neg (by simp)]
    obtain ⟨i, rfl, hin⟩ := inB_nat e1
    simp only [Int.toNat_natCast]
    obtain ⟨k0, -, -, -, fzh⟩ := k.hand hin
    have fz0 := fzh (i * 4)
    have hin' := Lib.hid hin
    have hlv := fun d => leaves67 (d := d) k hin
    obtain ⟨m, hm⟩ : ∃ m, m = S.fl.length := ⟨_, rfl⟩
    rw [← hm] at c1 hfl k' ⊢
    have hm' := Lib.hid hm
    obtain ⟨n, hn⟩ : ∃ n, n = S.n := ⟨_, rfl⟩
    rw [← hn] at c0 hin hnc
    have hii : (i : Int) < (n : Int) := by omega
    cases e3 : (S.hd i).wk with
    | false =>
      rw [e3] at k0
      rw [if_pos rfl]
      clear hex k hv e1 hn fzh e3 hm hlv
      go_enter Try.func30, Try.ntmps30
      go_wp2_with (go_at_call 64; refine h1.out.mono ?_; rintro e wj ⟨rfl, rfl⟩)
      go_ret
      exact ⟨rfl, _, k'.out, Frm.refl _ _⟩
    | true =>
      rw [e3] at k0
      rw [if_neg (by simp)]
      have hE := hv.wkE i hin'.out e3
      have he : S.eng i = true := by
        unfold WS.eng
        rcases hE with e | e
        · simp [e]
        · simp [e]
      have hlb : leavesB S i = (!(i == 0) && decide ((S.hd i).owed = 0)) := by unfold leavesB; rw [he, Bool.and_true]
      have kS := Lib.hid (show TkAt (w.setCell ⟨h, i * 4, none⟩ (.bool false)) B b h c (.slice ao m fc) (S.set i ⟨false, (S.hd i).par, (S.hd i).owed⟩) from
        (k'.out.row.setT (i := i) (f := 0) (x := (S.eng i, S.hd i)) (a := (S.eng i, ⟨false, (S.hd i).par, (S.hd i).owed⟩)) (u := .bool false) (tl_get hin'.out) (by omega) rfl).at (by simp) (by rw [tl_set _ _ hin'.out]; rfl) rfl)
      have hrel := Lib.hid (leave68 kS.out (by simpa using (show S.fl.length ≤ 1000 by omega)) (i := i) (by simpa using hin'.out) (by rw [hd_set _ _ _ _ hin'.out, if_pos rfl]; exact hE))
      have hfr := Lib.hid ((Frm.refl (WkP b h (.slice ao m fc)) w).set (g := h) (k := i * 4) (u := .bool false) (.inr (.inl rfl)))
      by_cases cnd : (i : Int) ≠ 0 ∧ (S.hd i).owed = 0 ∧ 200 ≤ m
      · rw [if_pos cnd]
        have h2 := Lib.hid (hlv true (by rw [hlb]; have := cnd.1; have := cnd.2.1; simp; omega))
        have h3 := cnd.2.2
        clear hex k hv e1 hn fzh e3 hm hlv hE he hlb cnd
        go_enter Try.func30, Try.ntmps30
        go_wp2_with (first
          | (go_at_call 64; refine h1.out.mono ?_; rintro e wj ⟨rfl, rfl⟩)
          | (go_at_call 67; refine h2.out.mono ?_; rintro e wj ⟨rfl, rfl⟩))
        go_ret
        exact ⟨rfl, _, k'.out, Frm.refl _ _⟩
      · rw [if_neg cnd]
        cases hb : leavesB S i with
        | true =>
          have h2 := Lib.hid (hlv true hb)
          have h3 : ¬ 200 ≤ m := fun e => by
            rw [hlb] at hb
            simp at hb
            exact cnd ⟨by omega, hb.2, e⟩
          clear hex k hv e1 hn fzh e3 hm hlv hE he hlb cnd hb
          go_enter Try.func30, Try.ntmps30
          go_wp2_with (first
            | (go_at_call 64; refine h1.out.mono ?_; rintro e wj ⟨rfl, rfl⟩)
            | (go_at_call 67; refine h2.out.mono ?_; rintro e wj ⟨rfl, rfl⟩)
            | (go_at_call 68; refine hrel.out.mono ?_; rintro e wj ⟨rfl, fv1, ka, fr⟩; have ka' := Lib.hid ka; have fr' := Lib.hid fr; clear ka fr))
          go_ret
          exact ⟨rfl, fv1, ka'.out, hfr.out.trans fr'.out⟩
        | false =>
          have h2 := Lib.hid (hlv false hb)
          clear hex k hv e1 hn fzh e3 hm hlv hE he hlb cnd hb
          go_enter Try.func30, Try.ntmps30
          go_wp2_with (first
            | (go_at_call 64; refine h1.out.mono ?_; rintro e wj ⟨rfl, rfl⟩)
            | (go_at_call 67; refine h2.out.mono ?_; rintro e wj ⟨rfl, rfl⟩)
            | (go_at_call 68; refine hrel.out.mono ?_; rintro e wj ⟨rfl, fv1, ka, fr⟩; have ka' := Lib.hid ka; have fr' := Lib.hid fr; clear ka fr))
          go_ret
          exact ⟨rfl, fv1, ka'.out, hfr.out.trans fr'.out⟩
end Go.Proofs.Ytbemlfppekpmjaa
