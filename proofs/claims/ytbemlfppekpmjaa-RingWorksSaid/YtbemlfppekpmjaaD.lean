import Derived.Test.YtbemlfppekpmjaaC
/-! Tasks are sent; workers become idle. -/
namespace Go.Proofs.Ytbemlfppekpmjaa
open Go.RowKit Rng
theorem owed_le {S : WS} (h : Inv S) {i : Nat} (hi : i < S.n) : (S.hd i).owed ≤ 410 := by
  have h1 := h.due i hi
  have h2 : S.tk i ≤ S.fl.length := List.countP_le_length
  have h3 : S.ak i ≤ S.fl.length := List.countP_le_length
  have h4 : S.kids i ≤ S.n := List.countP_le_length
  have h5 := h.room
  have h6 := h.n10
  omega
def sendE (S : WS) (f t : Int) : Int × WS :=
  if (inB f S.n && inB t S.n) = false then (1, S) else if (S.hd f.toNat).wk = false then (5, S) else if 200 ≤ S.fl.length then (7, S) else (0, S.send f.toNat t.toNat)
def idleE (S : WS) (i : Int) : Int × WS :=
  if inB i S.n = false then (1, S) else if (S.hd i.toNat).wk = false then (5, S) else if i ≠ 0 ∧ (S.hd i.toNat).owed = 0 ∧ 200 ≤ S.fl.length then (7, S) else (0, S.idle i.toNat)
theorem inB_nat {i : Int} {n : Nat} (h : inB i n = true) : ∃ j : Nat, i = j ∧ j < n := by
  have h1 : 0 ≤ i ∧ i < n := by simpa [inB] using h
  exact ⟨i.toNat, by omega, by omega⟩
set_option maxHeartbeats 4000000 in
set_option maxRecDepth 100000 in
theorem send27 {w : World} {B b h c : Nat} {fv : Value} {S : WS} (k : WkAt w B b h c fv S) (hv : Inv S) (f t : Int) :
    Calls Try.prog 27 #[.pointer (some ⟨b, 0, none⟩), .int .i64 f, .int .i64 t] w (WkEnd w B b h c fv (sendE S f t).2 (.int .i64 (sendE S f t).1)) := by
  obtain ⟨i0, hi, hz0, hz1, hz2⟩ := info_parts info69
  have k' := Lib.hid k
  have hB := Lib.hid (Nat.le_trans k.Bb (Nat.le_of_lt k.bw))
  have c0 := k.c0
  have c1 := k.c1
  have c2 := k.c2
  have hnc := k.nc
  have hfl := hv.room
  have ht := Lib.hid (there61 c0)
  have hhf := has62 k f
  have hht := has62 k t
  have hfu := full63 k
  unfold sendE
  cases e1 : inB f S.n with
  | false =>
    rw [e1] at hhf
    rw [Bool.false_and, if_pos rfl]
    have hhf' := Lib.hid hhf
    clear hhf hht hfu k hv e1
    go_enter Try.func27, Try.ntmps27
    go_wp2_with (first
                 | (go_at_call 61; refine ht.out.mono ?_; rintro e wj ⟨rfl, rfl⟩)
                 | (go_at_call 62; refine hhf'.out.mono ?_; rintro e wj ⟨rfl, rfl⟩))
    go_ret
    exact ⟨rfl, _, k'.out, Frm.refl _ _⟩
  | true =>
    rw [e1] at hhf
    rw [Bool.true_and]
    have hhf' := Lib.hid hhf
    cases e2 : inB t S.n with
    | false =>
      rw [e2] at hht
      rw [if_pos rfl]
      have hht' := Lib.hid hht
      clear hhf hht hfu k hv e1 e2
      go_enter Try.func27, Try.ntmps27
      go_wp2_with (first
                   | (go_at_call 61; refine ht.out.mono ?_; rintro e wj ⟨rfl, rfl⟩)
                   | (go_at_call 62; first
                                     | (refine hhf'.out.mono ?_; clear hhf'; rintro e wj ⟨rfl, rfl⟩)
                                     | (refine hht'.out.mono ?_; rintro e wj ⟨rfl, rfl⟩)))
      go_ret
      exact ⟨rfl, _, k'.out, Frm.refl _ _⟩
    | true =>
      rw [e2] at hht
      rw [if_neg (by simp)]
      have hht' := Lib.hid hht
      obtain ⟨i, rfl, hin⟩ := inB_nat e1
      obtain ⟨j, rfl, hjn⟩ := inB_nat e2
      simp only [Int.toNat_natCast]
      obtain ⟨k0, k1, k2, fzh⟩ := k.hand hin
      have hole := owed_le hv hin
      have hin' := Lib.hid hin
      obtain ⟨n, hn⟩ : ∃ n, n = S.n := ⟨_, rfl⟩
      rw [← hn] at c1 hin hjn hnc
      have hii : (i : Int) < (n : Int) := by omega
      cases e3 : (S.hd i).wk with
      | false =>
        rw [e3] at k0
        rw [if_pos rfl]
        clear hhf hht hfu k hv e1 e2 hn k1 k2 fzh e3
        go_enter Try.func27, Try.ntmps27
        go_wp2_with (first
                   | (go_at_call 61; refine ht.out.mono ?_; rintro e wj ⟨rfl, rfl⟩)
                   | (go_at_call 62; first
                                     | (refine hhf'.out.mono ?_; clear hhf'; rintro e wj ⟨rfl, rfl⟩)
                                     | (refine hht'.out.mono ?_; rintro e wj ⟨rfl, rfl⟩)))
        go_ret
        exact ⟨rfl, _, k'.out, Frm.refl _ _⟩
      | true =>
        rw [e3] at k0
        rw [if_neg (by simp)]
        by_cases e4 : 200 ≤ S.fl.length
        · rw [if_pos e4]
          rw [decide_eq_true e4] at hfu
          have hfu' := Lib.hid hfu
          clear hhf hht hfu k hv e1 e2 hn k1 k2 fzh e3
          go_enter Try.func27, Try.ntmps27
          go_wp2_with (first
                   | (go_at_call 61; refine ht.out.mono ?_; rintro e wj ⟨rfl, rfl⟩)
                   | (go_at_call 63; refine hfu'.out.mono ?_; rintro e wj ⟨rfl, rfl⟩)
                   | (go_at_call 62; first
                                     | (refine hhf'.out.mono ?_; clear hhf'; rintro e wj ⟨rfl, rfl⟩)
                                     | (refine hht'.out.mono ?_; rintro e wj ⟨rfl, rfl⟩)))
          go_ret
          exact ⟨rfl, _, k'.out, Frm.refl _ _⟩
        · rw [if_neg e4]
          rw [decide_eq_false e4] at hfu
          have hfu' := Lib.hid hfu
          obtain ⟨ao, fc, rfl, -⟩ := k.flv
          have hO := Lib.hid k.fl
          obtain ⟨m, hm⟩ : ∃ m, m = S.fl.length := ⟨_, rfl⟩
          rw [← hm] at c2 hfl hO k'
          have hm' := Lib.hid hm
          have hbh := k.bh
          have hbh2 : ¬ h = b := fun e => hbh e.symm
          obtain ⟨o, ho⟩ : ∃ o, o = (S.hd i).owed := ⟨_, rfl⟩
          rw [← ho] at k2 hole
          have ho' := Lib.hid ho
          have e3' := Lib.hid e3
          have hhw := Lib.hid (k.pos h (.inr (.inl rfl))).2
          clear hhf hht hfu k hv e1 e2 hn k1 e3 hm e4 ho
          go_enter Try.func27, Try.ntmps27
          go_wp2_with (first
                   | (go_at_call 61; refine ht.out.mono ?_; rintro e wj ⟨rfl, rfl⟩)
                   | (go_at_call 63; refine hfu'.out.mono ?_; rintro e wj ⟨rfl, rfl⟩)
                   | (go_at_call 62; first
                                     | (refine hhf'.out.mono ?_; clear hhf'; rintro e wj ⟨rfl, rfl⟩)
                                     | (refine hht'.out.mono ?_; rintro e wj ⟨rfl, rfl⟩))
                   | (at_builtin; refine app_one (n := m) (v := .slice ao m fc) Try.underlying60 hi hz0 hz1 hz2 rfl (by decide) (by decide) (by have := hO.out; unfold OwnL at this; rw [← hm'.out] at this; exact this) rfl (by intro u hu; exact one_flatL [⟨i, j, false⟩] u (by simpa [flat, encL] using hu)) (by omega) hB.out rfl _ _ rfl rfl rfl ?_; intro v1 w1 hO1 hb1 hk1 ho1 hs1
                      have hc1 := (cell_block (p := ⟨b, 2, none⟩) (hk1 b k'.out.bw k'.out.bf)).trans c2
                      have hc0 := (cell_block (p := ⟨b, 1, none⟩) (hk1 b k'.out.bw k'.out.bf)).trans c1
                      have hf1 := (frozen_block (p := ⟨b, 2, none⟩) (hk1 b k'.out.bw k'.out.bf)).trans (k'.out.fz 2)
                      have hd1 := (cell_block (p := ⟨h, i * 3 + 2, none⟩) (hk1 h hhw.out k'.out.hf)).trans k2
                      have hd2 := (frozen_block (p := ⟨h, i * 3 + 2, none⟩) (hk1 h hhw.out k'.out.hf)).trans (fzh _)
                      have hb1' := Lib.hid hb1
                      have hk1' := Lib.hid hk1
                      have ho1' := Lib.hid ho1
                      have hs1' := Lib.hid hs1
                      have hO1' := Lib.hid hO1
                      obtain ⟨g1, c1, rfl⟩ : ∃ g c, v1 = .slice (some ⟨g, 0, none⟩) (m + 1) c := by
                        obtain ⟨ao, c, e, hc, h⟩ := own_cells hO1
                        obtain ⟨g, rfl, _⟩ := h (by omega)
                        exact ⟨g, c, e⟩
                      clear hO1 hb1 hk1 ho1 hs1))
          go_ret
          refine ⟨rfl, .slice (some ⟨g1, 0, none⟩) (m + 1) c1, ?_, ?_⟩
          · have kk := k'.out.setF (fv' := .slice (some ⟨g1, 0, none⟩) (m + 1) c1) (fl' := S.fl ++ [⟨i, j, false⟩]) hs1'.out hk1'.out (by unfold OwnL; rw [List.length_append, flat_app, ← hm'.out]; exact hO1'.out) ho1'.out
            have := kk.setH (i := i) (f := 2) (a := ⟨(S.hd i).wk, (S.hd i).par, (S.hd i).owed + 1⟩) (u := .int .i64 ((o : Int) + 1)) hin'.out (by omega) (by rw [ho'.out]; rfl)
            exact this
          · rw [← hm'.out]; exact ((frm_app hb1'.out hk1'.out ho1'.out).set (.inl rfl)).set (.inr (.inl rfl))
set_option maxHeartbeats 4000000 in
set_option maxRecDepth 100000 in
theorem idle29 {w : World} {B b h c : Nat} {fv : Value} {S : WS} (k : WkAt w B b h c fv S) (hv : Inv S) (x : Int) :
    Calls Try.prog 29 #[.pointer (some ⟨b, 0, none⟩), .int .i64 x] w (WkEnd w B b h c fv (idleE S x).2 (.int .i64 (idleE S x).1)) := by
  have k' := Lib.hid k
  have c0 := k.c0
  have c1 := k.c1
  have hnc := k.nc
  have hfl := hv.room
  have ht := Lib.hid (there61 c0)
  have hhf := has62 k x
  have hfu := Lib.hid (full63 k)
  unfold idleE
  cases e1 : inB x S.n with
  | false =>
    rw [e1] at hhf
    rw [if_pos rfl]
    have hhf' := Lib.hid hhf
    clear hhf k hv e1
    go_enter Try.func29, Try.ntmps29
    go_wp2_with (first
                 | (go_at_call 61; refine ht.out.mono ?_; rintro e wj ⟨rfl, rfl⟩)
                 | (go_at_call 62; refine hhf'.out.mono ?_; rintro e wj ⟨rfl, rfl⟩))
    go_ret
    exact ⟨rfl, _, k'.out, Frm.refl _ _⟩
  | true =>
    rw [e1] at hhf
    rw [if_neg (by simp)]
    have hhf' := Lib.hid hhf
    obtain ⟨i, rfl, hin⟩ := inB_nat e1
    simp only [Int.toNat_natCast]
    obtain ⟨k0, k1, k2, fzh⟩ := k.hand hin
    have fz0 := fzh (i * 3)
    have hin' := Lib.hid hin
    obtain ⟨n, hn⟩ : ∃ n, n = S.n := ⟨_, rfl⟩
    rw [← hn] at c1 hin hnc
    have hii : (i : Int) < (n : Int) := by omega
    cases e3 : (S.hd i).wk with
    | false =>
      rw [e3] at k0
      rw [if_pos rfl]
      clear hhf hfu k hv e1 hn k1 k2 fzh e3
      go_enter Try.func29, Try.ntmps29
      go_wp2_with (first
                 | (go_at_call 61; refine ht.out.mono ?_; rintro e wj ⟨rfl, rfl⟩)
                 | (go_at_call 62; refine hhf'.out.mono ?_; rintro e wj ⟨rfl, rfl⟩))
      go_ret
      exact ⟨rfl, _, k'.out, Frm.refl _ _⟩
    | true =>
      rw [e3] at k0
      rw [if_neg (by simp)]
      have hE := hv.wkE i hin'.out e3
      have kS := Lib.hid (show WkAt (w.setCell ⟨h, i * 3, none⟩ (.bool false)) B b h c fv (S.set i ⟨false, (S.hd i).par, (S.hd i).owed⟩) from k.setH (i := i) (f := 0) hin'.out (by omega) rfl)
      have hrel := Lib.hid (rel66 kS.out (by simpa using Nat.le_trans hfl (by omega)) (i := i) (by simpa using hin'.out) (by rw [hd_set _ _ _ _ hin'.out, if_pos rfl]; exact hE))
      have hfr := Lib.hid ((Frm.refl (WkP b h fv) w).set (g := h) (k := i * 3) (u := .bool false) (.inr (.inl rfl)))
      obtain ⟨o, ho⟩ : ∃ o, o = (S.hd i).owed := ⟨_, rfl⟩
      rw [← ho] at k2
      by_cases c : (i : Int) ≠ 0 ∧ (S.hd i).owed = 0 ∧ 200 ≤ S.fl.length
      · rw [if_pos c]
        obtain ⟨c0', c1', c2'⟩ := c
        rw [← ho] at c1'
        subst c1'
        have h1 : ((i : Int) == 0) = false := by simpa using c0'
        have hfu2 := Lib.hid (show Calls Try.prog 63 #[.pointer (some ⟨b, 0, none⟩)] w fun e w' => e = .returned (.bool true) ∧ w = w' by have := hfu.out; rw [decide_eq_true c2'] at this; exact this)
        clear hhf k hv e1 hn k1 fzh e3 hE ho hfu
        go_enter Try.func29, Try.ntmps29
        go_wp2_with (first
                 | (go_at_call 61; refine ht.out.mono ?_; rintro e wj ⟨rfl, rfl⟩)
                 | (go_at_call 63; refine hfu2.out.mono ?_; rintro e wj ⟨rfl, rfl⟩)
                 | (go_at_call 62; refine hhf'.out.mono ?_; rintro e wj ⟨rfl, rfl⟩))
        go_ret
        exact ⟨rfl, _, k'.out, Frm.refl _ _⟩
      · rw [if_neg c]
        by_cases h0 : i = 0
        · subst h0
          clear hhf k hv e1 hn k1 fzh e3 hE ho hfu c
          go_enter Try.func29, Try.ntmps29
          go_wp2_with (first
                 | (go_at_call 61; refine ht.out.mono ?_; rintro e wj ⟨rfl, rfl⟩)
                 | (go_at_call 62; refine hhf'.out.mono ?_; rintro e wj ⟨rfl, rfl⟩)
                 | (go_at_call 66; refine hrel.out.mono ?_; rintro e wj ⟨rfl, fv1, ka, fr⟩; have ka' := Lib.hid ka; have fr' := Lib.hid fr; clear ka fr))
          go_ret
          exact ⟨rfl, fv1, ka'.out, hfr.out.trans fr'.out⟩
        · have h1 : ((i : Int) == 0) = false := by simpa using h0
          by_cases h2 : o = 0
          · subst h2
            have h4 : ¬ 200 ≤ S.fl.length := fun e => c ⟨by omega, ho.symm, e⟩
            have hfu2 := Lib.hid (show Calls Try.prog 63 #[.pointer (some ⟨b, 0, none⟩)] w fun e w' => e = .returned (.bool false) ∧ w = w' by have := hfu.out; rw [decide_eq_false h4] at this; exact this)
            clear hhf k hv e1 hn k1 fzh e3 hE ho hfu c h4
            go_enter Try.func29, Try.ntmps29
            go_wp2_with (first
                 | (go_at_call 61; refine ht.out.mono ?_; rintro e wj ⟨rfl, rfl⟩)
                 | (go_at_call 62; refine hhf'.out.mono ?_; rintro e wj ⟨rfl, rfl⟩)
                 | (go_at_call 63; refine hfu2.out.mono ?_; rintro e wj ⟨rfl, rfl⟩)
                 | (go_at_call 66; refine hrel.out.mono ?_; rintro e wj ⟨rfl, fv1, ka, fr⟩; have ka' := Lib.hid ka; have fr' := Lib.hid fr; clear ka fr))
            go_ret
            exact ⟨rfl, fv1, ka'.out, hfr.out.trans fr'.out⟩
          · have h3 : ((o : Int) == 0) = false := by simpa using h2
            clear hhf k hv e1 hn k1 fzh e3 hE ho hfu c
            go_enter Try.func29, Try.ntmps29
            go_wp2_with (first
                 | (go_at_call 61; refine ht.out.mono ?_; rintro e wj ⟨rfl, rfl⟩)
                 | (go_at_call 62; refine hhf'.out.mono ?_; rintro e wj ⟨rfl, rfl⟩)
                 | (go_at_call 66; refine hrel.out.mono ?_; rintro e wj ⟨rfl, fv1, ka, fr⟩; have ka' := Lib.hid ka; have fr' := Lib.hid fr; clear ka fr))
            go_ret
            exact ⟨rfl, fv1, ka'.out, hfr.out.trans fr'.out⟩
end Go.Proofs.Ytbemlfppekpmjaa
