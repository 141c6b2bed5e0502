import Derived.Test.YtjkbhdlbomcbeaaZh
import Derived.Test.YtjkbhdlbomcbeaaYa
namespace Go.Proofs.Ytjkbhdlbomcbeaa
open Go.RowKit Go.Shelf Shf

theorem over26' {w : World} {v : Value} {P : Int} {js : List J} {os : List (Int × Int)} (h : ShV w v P js os) (h7 : js.length ≤ 7) (h21 : os.length ≤ 21) {f t err : Int} (ha : OverAns P js os f t err) :
    Calls Try.prog 26 #[v] w fun e w' => e = .returned (.tuple #[.int .i64 f, .int .i64 t, .int .i64 err]) ∧ Below w.heap.size w w' := by
  refine (overfull26 h h7 h21).mono ?_
  rintro e w' ⟨f', t', err', rfl, hb, hB⟩
  refine ⟨?_, hB⟩
  have key : f' = f ∧ t' = t ∧ err' = err := by
    rcases ha with ⟨g0, rfl, rfl, rfl⟩ | ⟨g0, ⟨g1, rfl, rfl, rfl⟩ | ⟨g1, rfl⟩⟩ <;> rcases hb with ⟨k0, rfl, rfl, rfl⟩ | ⟨k0, ⟨k1, rfl, rfl, rfl⟩ | ⟨k1, rfl⟩⟩
    · exact ⟨rfl, rfl, rfl⟩
    · rw [g0] at k0; cases k0
    · rw [g0] at k0; cases k0
    · rw [g0] at k0; cases k0
    · exact ⟨rfl, rfl, rfl⟩
    · have := (over_only g1 k1).2.2; cases this
    · rw [g0] at k0; cases k0
    · have := (over_only g1 k1).2.2; cases this
    · have := over_only g1 k1; exact ⟨this.1.symm, this.2.1.symm, rfl⟩
  rw [key.1, key.2.1, key.2.2]
theorem refOver28' {w : World} {v : Value} {P : Int} {js : List J} {os : List (Int × Int)} (h : ShV w v P js os) (h7 : js.length ≤ 7) (hP : 1 ≤ P ∧ P ≤ 20) (hj : ∀ i, i < js.length → JobIn (js.getD i J0)) {f t : Int} {ok : Bool} (ho : OverIs P js f t ok) :
    Calls Try.prog 28 #[v] w fun e w' => e = .returned (.tuple #[.int .i64 f, .int .i64 t, .bool ok]) ∧ Below w.heap.size w w' := by
  refine (refOverfull28 h h7 hP hj).mono ?_
  rintro e w' ⟨f', t', ok', rfl, hb, hB⟩
  have := over_only ho hb
  exact ⟨by rw [this.1, this.2.1, this.2.2], hB⟩
theorem over_some (P : Int) (js : List J) : (∃ f t, OverIs P js f t true) ∨ OverIs P js 0 0 false := by
  by_cases h : ∃ a b : Nat, a < b ∧ b ≤ 24 ∧ ovB P js a b = true
  · have hd : ∀ n : Nat, (∃ a b : Nat, a * 25 + b ≤ n ∧ a < b ∧ b ≤ 24 ∧ ovB P js a b = true) → ∃ f t, OverIs P js f t true := by
      intro n
      induction n with
      | zero => rintro ⟨a, b, h0, h1, _⟩; omega
      | succ n ih =>
        intro hn
        by_cases hs : ∃ a b : Nat, a * 25 + b ≤ n ∧ a < b ∧ b ≤ 24 ∧ ovB P js a b = true
        · exact ih hs
        · obtain ⟨a, b, h0, h1, h2, h3⟩ := hn
          refine ⟨a, b, .inl ⟨rfl, a, b, rfl, rfl, h1, h2, h3, fun x y g1 g2 g3 => ?_⟩⟩
          cases hc : ovB P js x y with
          | false => rfl
          | true => exact absurd ⟨x, y, by omega, g1, g2, hc⟩ hs
    obtain ⟨a, b, h1, h2, h3⟩ := h
    exact .inl (hd (a * 25 + b) ⟨a, b, Nat.le_refl _, h1, h2, h3⟩)
  · refine .inr (.inr ⟨rfl, rfl, rfl, fun x y g1 g2 _ => ?_⟩)
    cases hc : ovB P js x y with
    | false => rfl
    | true => exact absurd ⟨x, y, g1, g2, hc⟩ h
set_option maxHeartbeats 8000000 in
set_option maxRecDepth 100000 in
theorem walk5 {w : World} {v : Value} {P : Int} {js : List J} {os : List (Int × Int)} (h : InSh w v P js os) (a b : Int) :
    Calls Try.prog 5 #[v, .int .i64 a, .int .i64 b] w fun e w' => e = .returned (.bool true) ∧ Below w.heap.size w w' := by
  have hfw := fun (W : World) (hb : Below w.heap.size w W) => few15 (w := W) (v := v) (P := P) (js := js) (os := os) (by
    obtain ⟨jv, ov, e, h1, h2, h3, h4⟩ := h
    exact ⟨jv, ov, e, h1.below hb, h2.below hb, h3, h4⟩)
  obtain ⟨jv, ov, rfl, hj, ho, hjm, hom⟩ := h
  obtain ⟨ja, jn, jc, rfl⟩ : ∃ a n c, jv = .slice a n c := by obtain ⟨_, a, c, e, _⟩ := hj; exact ⟨_, _, _, e⟩
  obtain ⟨oa, om, oc, rfl⟩ : ∃ a n c, ov = .slice a n c := by obtain ⟨_, a, c, e, _⟩ := ho; exact ⟨_, _, _, e⟩
  obtain ⟨js', hjs⟩ : ∃ x, x = js.take 7 := ⟨_, rfl⟩
  obtain ⟨os', hos⟩ : ∃ x, x = os.take 21 := ⟨_, rfl⟩
  rw [← hjs, ← hos] at hfw
  have h7 := Lib.hid (show js'.length ≤ 7 by rw [hjs, List.length_take]; omega)
  have h21 := Lib.hid (show os'.length ≤ 21 by rw [hos, List.length_take]; omega)
  have hb0 := Lib.hid (below_alloc1 w (.cells #[.int .i64 P, .slice ja jn jc, .slice oa om oc] 25))
  have hf0 := Lib.hid (hfw _ hb0.out)
  clear hfw hj ho hjm hom hjs hos
  go_enter Try.func5, Try.ntmps5
  go_upto_region 2 with (go_at_call 15; refine (hf0.out).mono ?_; rintro e w1 ⟨jv', ov', rfl, oj, oo, hb1⟩; obtain ⟨ja', jl, jc', rfl, -⟩ := own_len oj; obtain ⟨oa', ol, oc', rfl, -⟩ := own_len oo)
  obtain ⟨W4, hW4⟩ : ∃ W4, W4 = w1.alloc (Obj.cells #[Value.int IntKind.i64 P, Value.slice ja' jl jc', Value.slice oa' ol oc'] 25) := ⟨_, rfl⟩
  have hT := Lib.hid (show Three W4 w1.heap.size (.int .i64 P) (.slice ja' jl jc') (.slice oa' ol oc') by rw [hW4]; exact Three.new w1 _ _ _ 25)
  have hz := Lib.hid (show w1.heap.size < W4.heap.size by rw [hW4]; simp)
  have hb1W := (show Below w1.heap.size w1 W4 by rw [hW4]; exact below_alloc1 w1 _)
  have hbW := Lib.hid (below_call (below_call hb0.out hb1) hb1W)
  have hsh := Lib.hid (fun (W : World) (hb : Below W4.heap.size W4 W) => (show ShV W (.agg #[.int .i64 P, .slice ja' jl jc', .slice oa' ol oc']) P js' os' from ⟨_, _, rfl, oj.reads.below (below_call hb1W hb), oo.reads.below (below_call hb1W hb)⟩))
  rw [← hW4]
  obtain ⟨⟨y0, y1, y2⟩, -⟩ := hT.out
  clear hW4 hb1 hb1W oj oo
  cases hv : validB P js' os' with
  | false =>
    have hO := Lib.hid (over26' (hsh.out W4 (Below.refl _ _)) h7.out h21.out (f := 0) (t := 0) (err := 1) (.inl ⟨hv, rfl, rfl, rfl⟩))
    have hN := Lib.hid (fun (W : World) (hb : Below W4.heap.size W4 W) => needs27 (hsh.out W hb) h7.out h21.out a b (n := 0) (err := 1) (.inl ⟨hv, rfl, rfl⟩))
    have hV := Lib.hid (fun (W : World) (hb : Below W4.heap.size W4 W) => valid17' (hsh.out W hb) h7.out h21.out hv)
    clear hv
    go_wp2_with (
      first
      | (go_at_call 26; refine (hO.out).mono ?_; rintro e w5 ⟨rfl, hbw5⟩
         have hbw5' := Lib.hid (below_call (Below.refl _ _) hbw5)
         obtain ⟨⟨y0, y1, y2⟩, -⟩ := hT.out.keep hbw5'.out hz.out
         have hN5 := Lib.hid (hN.out _ hbw5'.out)
         clear hbw5)
      | (go_at_call 27; refine (hN5.out).mono ?_; rintro e w6 ⟨rfl, hbw6⟩
         have hbw6' := Lib.hid (below_call hbw5'.out hbw6)
         obtain ⟨⟨y0, y1, y2⟩, -⟩ := hT.out.keep hbw6'.out hz.out
         have hV6 := Lib.hid (hV.out _ hbw6'.out)
         clear hbw6)
      | (go_at_call 17; refine (hV6.out).mono ?_; rintro e w7 ⟨rfl, hbw7⟩
         have hbw7' := Lib.hid (below_call hbw6'.out hbw7)
         obtain ⟨⟨y0, y1, y2⟩, -⟩ := hT.out.keep hbw7'.out hz.out
         have hL := Lib.hid (lives18 (w := w7))
         clear hbw7)
      | (go_at_call 18; refine (hL.out).mono ?_; rintro e w9 ⟨rfl, hbw9⟩
         have hbw9' := Lib.hid (below_call hbw7'.out hbw9)
         obtain ⟨⟨y0, y1, y2⟩, -⟩ := hT.out.keep hbw9'.out hz.out
         clear hbw9))
    go_ret
    exact ⟨rfl, below_call hbW.out hbw9'.out⟩
  | true =>
    rcases over_some P js' with ⟨f, t, ho⟩ | ho
    · skip
      by_cases i1 : a < 0
      · have d1 : decide (a < 0) = true := by simpa using i1
        have hO := Lib.hid (over26' (hsh.out W4 (Below.refl _ _)) h7.out h21.out (f := f) (t := t) (err := 0) (.inr ⟨hv, .inr ⟨ho, rfl⟩⟩))
        have hN := Lib.hid (fun (W : World) (hb : Below W4.heap.size W4 W) => needs27 (hsh.out W hb) h7.out h21.out a b (n := 0) (err := 1) (.inr ⟨hv, .inl ⟨by cases hc : intB a b with | false => rfl | true => exact absurd (intB_iff.1 hc) (by omega), rfl, rfl⟩⟩))
        have hV := Lib.hid (fun (W : World) (hb : Below W4.heap.size W4 W) => valid17' (hsh.out W hb) h7.out h21.out hv)
        have hR := Lib.hid (fun (W : World) (hb : Below W4.heap.size W4 W) => refOver28' (hsh.out W hb) h7.out (valid_sh hv).1.loose.power (valid_jobs hv) ho)
        clear ho
        clear hv
        go_wp2_with (
          first
          | (go_at_call 26; refine (hO.out).mono ?_; rintro e w5 ⟨rfl, hbw5⟩
             have hbw5' := Lib.hid (below_call (Below.refl _ _) hbw5)
             obtain ⟨⟨y0, y1, y2⟩, -⟩ := hT.out.keep hbw5'.out hz.out
             have hN5 := Lib.hid (hN.out _ hbw5'.out)
             clear hbw5)
          | (go_at_call 27; refine (hN5.out).mono ?_; rintro e w6 ⟨rfl, hbw6⟩
             have hbw6' := Lib.hid (below_call hbw5'.out hbw6)
             obtain ⟨⟨y0, y1, y2⟩, -⟩ := hT.out.keep hbw6'.out hz.out
             have hV6 := Lib.hid (hV.out _ hbw6'.out)
             clear hbw6)
          | (go_at_call 17; refine (hV6.out).mono ?_; rintro e w7 ⟨rfl, hbw7⟩
             have hbw7' := Lib.hid (below_call hbw6'.out hbw7)
             obtain ⟨⟨y0, y1, y2⟩, -⟩ := hT.out.keep hbw7'.out hz.out
             have hR7 := Lib.hid (hR.out _ hbw7'.out)
             clear hbw7)
          | (go_at_call 28; refine (hR7.out).mono ?_; rintro e w8 ⟨rfl, hbw8⟩
             have hbw8' := Lib.hid (below_call hbw7'.out hbw8)
             obtain ⟨⟨y0, y1, y2⟩, -⟩ := hT.out.keep hbw8'.out hz.out
             have hL := Lib.hid (lives18 (w := w8))
             clear hbw8)
          | (go_at_call 18; refine (hL.out).mono ?_; rintro e w9 ⟨rfl, hbw9⟩
             have hbw9' := Lib.hid (below_call hbw8'.out hbw9)
             obtain ⟨⟨y0, y1, y2⟩, -⟩ := hT.out.keep hbw9'.out hz.out
             clear hbw9))
        go_ret
        exact ⟨rfl, below_call hbW.out hbw9'.out⟩
      · by_cases i2 : b ≤ a
        · have d1 : decide (a < 0) = false := by simpa using i1
          have hO := Lib.hid (over26' (hsh.out W4 (Below.refl _ _)) h7.out h21.out (f := f) (t := t) (err := 0) (.inr ⟨hv, .inr ⟨ho, rfl⟩⟩))
          have hN := Lib.hid (fun (W : World) (hb : Below W4.heap.size W4 W) => needs27 (hsh.out W hb) h7.out h21.out a b (n := 0) (err := 1) (.inr ⟨hv, .inl ⟨by cases hc : intB a b with | false => rfl | true => exact absurd (intB_iff.1 hc) (by omega), rfl, rfl⟩⟩))
          have hV := Lib.hid (fun (W : World) (hb : Below W4.heap.size W4 W) => valid17' (hsh.out W hb) h7.out h21.out hv)
          have hR := Lib.hid (fun (W : World) (hb : Below W4.heap.size W4 W) => refOver28' (hsh.out W hb) h7.out (valid_sh hv).1.loose.power (valid_jobs hv) ho)
          clear ho
          clear hv
          go_wp2_with (
            first
            | (go_at_call 26; refine (hO.out).mono ?_; rintro e w5 ⟨rfl, hbw5⟩
               have hbw5' := Lib.hid (below_call (Below.refl _ _) hbw5)
               obtain ⟨⟨y0, y1, y2⟩, -⟩ := hT.out.keep hbw5'.out hz.out
               have hN5 := Lib.hid (hN.out _ hbw5'.out)
               clear hbw5)
            | (go_at_call 27; refine (hN5.out).mono ?_; rintro e w6 ⟨rfl, hbw6⟩
               have hbw6' := Lib.hid (below_call hbw5'.out hbw6)
               obtain ⟨⟨y0, y1, y2⟩, -⟩ := hT.out.keep hbw6'.out hz.out
               have hV6 := Lib.hid (hV.out _ hbw6'.out)
               clear hbw6)
            | (go_at_call 17; refine (hV6.out).mono ?_; rintro e w7 ⟨rfl, hbw7⟩
               have hbw7' := Lib.hid (below_call hbw6'.out hbw7)
               obtain ⟨⟨y0, y1, y2⟩, -⟩ := hT.out.keep hbw7'.out hz.out
               have hR7 := Lib.hid (hR.out _ hbw7'.out)
               clear hbw7)
            | (go_at_call 28; refine (hR7.out).mono ?_; rintro e w8 ⟨rfl, hbw8⟩
               have hbw8' := Lib.hid (below_call hbw7'.out hbw8)
               obtain ⟨⟨y0, y1, y2⟩, -⟩ := hT.out.keep hbw8'.out hz.out
               have hL := Lib.hid (lives18 (w := w8))
               clear hbw8)
            | (go_at_call 18; refine (hL.out).mono ?_; rintro e w9 ⟨rfl, hbw9⟩
               have hbw9' := Lib.hid (below_call hbw8'.out hbw9)
               obtain ⟨⟨y0, y1, y2⟩, -⟩ := hT.out.keep hbw9'.out hz.out
               clear hbw9))
          go_ret
          exact ⟨rfl, below_call hbW.out hbw9'.out⟩
        · by_cases i3 : 24 < b
          · have d1 : decide (a < 0) = false := by simpa using i1
            have d2 : decide (b ≤ a) = false := by simpa using i2
            have hO := Lib.hid (over26' (hsh.out W4 (Below.refl _ _)) h7.out h21.out (f := f) (t := t) (err := 0) (.inr ⟨hv, .inr ⟨ho, rfl⟩⟩))
            have hN := Lib.hid (fun (W : World) (hb : Below W4.heap.size W4 W) => needs27 (hsh.out W hb) h7.out h21.out a b (n := 0) (err := 1) (.inr ⟨hv, .inl ⟨by cases hc : intB a b with | false => rfl | true => exact absurd (intB_iff.1 hc) (by omega), rfl, rfl⟩⟩))
            have hV := Lib.hid (fun (W : World) (hb : Below W4.heap.size W4 W) => valid17' (hsh.out W hb) h7.out h21.out hv)
            have hR := Lib.hid (fun (W : World) (hb : Below W4.heap.size W4 W) => refOver28' (hsh.out W hb) h7.out (valid_sh hv).1.loose.power (valid_jobs hv) ho)
            clear ho
            clear hv
            go_wp2_with (
              first
              | (go_at_call 26; refine (hO.out).mono ?_; rintro e w5 ⟨rfl, hbw5⟩
                 have hbw5' := Lib.hid (below_call (Below.refl _ _) hbw5)
                 obtain ⟨⟨y0, y1, y2⟩, -⟩ := hT.out.keep hbw5'.out hz.out
                 have hN5 := Lib.hid (hN.out _ hbw5'.out)
                 clear hbw5)
              | (go_at_call 27; refine (hN5.out).mono ?_; rintro e w6 ⟨rfl, hbw6⟩
                 have hbw6' := Lib.hid (below_call hbw5'.out hbw6)
                 obtain ⟨⟨y0, y1, y2⟩, -⟩ := hT.out.keep hbw6'.out hz.out
                 have hV6 := Lib.hid (hV.out _ hbw6'.out)
                 clear hbw6)
              | (go_at_call 17; refine (hV6.out).mono ?_; rintro e w7 ⟨rfl, hbw7⟩
                 have hbw7' := Lib.hid (below_call hbw6'.out hbw7)
                 obtain ⟨⟨y0, y1, y2⟩, -⟩ := hT.out.keep hbw7'.out hz.out
                 have hR7 := Lib.hid (hR.out _ hbw7'.out)
                 clear hbw7)
              | (go_at_call 28; refine (hR7.out).mono ?_; rintro e w8 ⟨rfl, hbw8⟩
                 have hbw8' := Lib.hid (below_call hbw7'.out hbw8)
                 obtain ⟨⟨y0, y1, y2⟩, -⟩ := hT.out.keep hbw8'.out hz.out
                 have hL := Lib.hid (lives18 (w := w8))
                 clear hbw8)
              | (go_at_call 18; refine (hL.out).mono ?_; rintro e w9 ⟨rfl, hbw9⟩
                 have hbw9' := Lib.hid (below_call hbw8'.out hbw9)
                 obtain ⟨⟨y0, y1, y2⟩, -⟩ := hT.out.keep hbw9'.out hz.out
                 clear hbw9))
            go_ret
            exact ⟨rfl, below_call hbW.out hbw9'.out⟩
          · have hi : 0 ≤ a ∧ a < b ∧ b ≤ 24 := by omega
            clear i1 i2 i3
            have d1 : decide (a < 0) = false := by simp; omega
            have d2 : decide (b ≤ a) = false := by simp; omega
            have d3 : decide (24 < b) = false := by simp; omega
            have hO := Lib.hid (over26' (hsh.out W4 (Below.refl _ _)) h7.out h21.out (f := f) (t := t) (err := 0) (.inr ⟨hv, .inr ⟨ho, rfl⟩⟩))
            obtain ⟨z, hz1⟩ : ∃ z, z = needS js' a b js'.length := ⟨_, rfl⟩
            have hN := Lib.hid (fun (W : World) (hb : Below W4.heap.size W4 W) => needs27 (hsh.out W hb) h7.out h21.out a b (n := z) (err := 0) (.inr ⟨hv, .inr ⟨intB_iff.2 hi, hz1, rfl⟩⟩))
            have hM := Lib.hid (fun (W : World) (hb : Below W4.heap.size W4 W) => (show Calls Try.prog 29 #[.agg #[.int .i64 P, .slice ja' jl jc', .slice oa' ol oc'], .int .i64 a, .int .i64 b] W fun e w' => e = .returned (.int .i64 z) ∧ Below W.heap.size W w' from by rw [hz1]; exact refNeeds29 (hsh.out W hb) h7.out (valid_jobs hv) (by omega) (by omega) (by omega)))
            obtain ⟨i1, i2, i3⟩ := hi
            clear hz1
            have hV := Lib.hid (fun (W : World) (hb : Below W4.heap.size W4 W) => valid17' (hsh.out W hb) h7.out h21.out hv)
            have hR := Lib.hid (fun (W : World) (hb : Below W4.heap.size W4 W) => refOver28' (hsh.out W hb) h7.out (valid_sh hv).1.loose.power (valid_jobs hv) ho)
            clear ho
            clear hv
            go_wp2_with (
              first
              | (go_at_call 26; refine (hO.out).mono ?_; rintro e w5 ⟨rfl, hbw5⟩
                 have hbw5' := Lib.hid (below_call (Below.refl _ _) hbw5)
                 obtain ⟨⟨y0, y1, y2⟩, -⟩ := hT.out.keep hbw5'.out hz.out
                 have hN5 := Lib.hid (hN.out _ hbw5'.out)
                 clear hbw5)
              | (go_at_call 27; refine (hN5.out).mono ?_; rintro e w6 ⟨rfl, hbw6⟩
                 have hbw6' := Lib.hid (below_call hbw5'.out hbw6)
                 obtain ⟨⟨y0, y1, y2⟩, -⟩ := hT.out.keep hbw6'.out hz.out
                 have hV6 := Lib.hid (hV.out _ hbw6'.out)
                 clear hbw6)
              | (go_at_call 17; refine (hV6.out).mono ?_; rintro e w7 ⟨rfl, hbw7⟩
                 have hbw7' := Lib.hid (below_call hbw6'.out hbw7)
                 obtain ⟨⟨y0, y1, y2⟩, -⟩ := hT.out.keep hbw7'.out hz.out
                 have hR7 := Lib.hid (hR.out _ hbw7'.out)
                 clear hbw7)
              | (go_at_call 28; refine (hR7.out).mono ?_; rintro e w8 ⟨rfl, hbw8⟩
                 have hbw8' := Lib.hid (below_call hbw7'.out hbw8)
                 obtain ⟨⟨y0, y1, y2⟩, -⟩ := hT.out.keep hbw8'.out hz.out
                 have hL := Lib.hid (lives18 (w := w8))
                 clear hbw8)
              | (go_at_call 18; refine (hL.out).mono ?_; rintro e w9 ⟨rfl, hbw9⟩
                 have hbw9' := Lib.hid (below_call hbw8'.out hbw9)
                 obtain ⟨⟨y0, y1, y2⟩, -⟩ := hT.out.keep hbw9'.out hz.out
                 have hM9 := Lib.hid (hM.out _ hbw9'.out)
                 clear hbw9)
              | (go_at_call 29; refine (hM9.out).mono ?_; rintro e wa ⟨rfl, hbwa⟩
                 have hbwa' := Lib.hid (below_call hbw9'.out hbwa)
                 obtain ⟨⟨y0, y1, y2⟩, -⟩ := hT.out.keep hbwa'.out hz.out
                 clear hbwa))
            go_ret
            exact ⟨rfl, below_call hbW.out hbwa'.out⟩
    · skip
      by_cases i1 : a < 0
      · have d1 : decide (a < 0) = true := by simpa using i1
        have hO := Lib.hid (over26' (hsh.out W4 (Below.refl _ _)) h7.out h21.out (f := 0) (t := 0) (err := 5) (.inr ⟨hv, .inl ⟨ho, rfl, rfl, rfl⟩⟩))
        have hN := Lib.hid (fun (W : World) (hb : Below W4.heap.size W4 W) => needs27 (hsh.out W hb) h7.out h21.out a b (n := 0) (err := 1) (.inr ⟨hv, .inl ⟨by cases hc : intB a b with | false => rfl | true => exact absurd (intB_iff.1 hc) (by omega), rfl, rfl⟩⟩))
        have hV := Lib.hid (fun (W : World) (hb : Below W4.heap.size W4 W) => valid17' (hsh.out W hb) h7.out h21.out hv)
        have hR := Lib.hid (fun (W : World) (hb : Below W4.heap.size W4 W) => refOver28' (hsh.out W hb) h7.out (valid_sh hv).1.loose.power (valid_jobs hv) ho)
        clear ho
        clear hv
        go_wp2_with (
          first
          | (go_at_call 26; refine (hO.out).mono ?_; rintro e w5 ⟨rfl, hbw5⟩
             have hbw5' := Lib.hid (below_call (Below.refl _ _) hbw5)
             obtain ⟨⟨y0, y1, y2⟩, -⟩ := hT.out.keep hbw5'.out hz.out
             have hN5 := Lib.hid (hN.out _ hbw5'.out)
             clear hbw5)
          | (go_at_call 27; refine (hN5.out).mono ?_; rintro e w6 ⟨rfl, hbw6⟩
             have hbw6' := Lib.hid (below_call hbw5'.out hbw6)
             obtain ⟨⟨y0, y1, y2⟩, -⟩ := hT.out.keep hbw6'.out hz.out
             have hV6 := Lib.hid (hV.out _ hbw6'.out)
             clear hbw6)
          | (go_at_call 17; refine (hV6.out).mono ?_; rintro e w7 ⟨rfl, hbw7⟩
             have hbw7' := Lib.hid (below_call hbw6'.out hbw7)
             obtain ⟨⟨y0, y1, y2⟩, -⟩ := hT.out.keep hbw7'.out hz.out
             have hR7 := Lib.hid (hR.out _ hbw7'.out)
             clear hbw7)
          | (go_at_call 28; refine (hR7.out).mono ?_; rintro e w8 ⟨rfl, hbw8⟩
             have hbw8' := Lib.hid (below_call hbw7'.out hbw8)
             obtain ⟨⟨y0, y1, y2⟩, -⟩ := hT.out.keep hbw8'.out hz.out
             have hL := Lib.hid (lives18 (w := w8))
             clear hbw8)
          | (go_at_call 18; refine (hL.out).mono ?_; rintro e w9 ⟨rfl, hbw9⟩
             have hbw9' := Lib.hid (below_call hbw8'.out hbw9)
             obtain ⟨⟨y0, y1, y2⟩, -⟩ := hT.out.keep hbw9'.out hz.out
             clear hbw9))
        go_ret
        exact ⟨rfl, below_call hbW.out hbw9'.out⟩
      · by_cases i2 : b ≤ a
        · have d1 : decide (a < 0) = false := by simpa using i1
          have hO := Lib.hid (over26' (hsh.out W4 (Below.refl _ _)) h7.out h21.out (f := 0) (t := 0) (err := 5) (.inr ⟨hv, .inl ⟨ho, rfl, rfl, rfl⟩⟩))
          have hN := Lib.hid (fun (W : World) (hb : Below W4.heap.size W4 W) => needs27 (hsh.out W hb) h7.out h21.out a b (n := 0) (err := 1) (.inr ⟨hv, .inl ⟨by cases hc : intB a b with | false => rfl | true => exact absurd (intB_iff.1 hc) (by omega), rfl, rfl⟩⟩))
          have hV := Lib.hid (fun (W : World) (hb : Below W4.heap.size W4 W) => valid17' (hsh.out W hb) h7.out h21.out hv)
          have hR := Lib.hid (fun (W : World) (hb : Below W4.heap.size W4 W) => refOver28' (hsh.out W hb) h7.out (valid_sh hv).1.loose.power (valid_jobs hv) ho)
          clear ho
          clear hv
          go_wp2_with (
            first
            | (go_at_call 26; refine (hO.out).mono ?_; rintro e w5 ⟨rfl, hbw5⟩
               have hbw5' := Lib.hid (below_call (Below.refl _ _) hbw5)
               obtain ⟨⟨y0, y1, y2⟩, -⟩ := hT.out.keep hbw5'.out hz.out
               have hN5 := Lib.hid (hN.out _ hbw5'.out)
               clear hbw5)
            | (go_at_call 27; refine (hN5.out).mono ?_; rintro e w6 ⟨rfl, hbw6⟩
               have hbw6' := Lib.hid (below_call hbw5'.out hbw6)
               obtain ⟨⟨y0, y1, y2⟩, -⟩ := hT.out.keep hbw6'.out hz.out
               have hV6 := Lib.hid (hV.out _ hbw6'.out)
               clear hbw6)
            | (go_at_call 17; refine (hV6.out).mono ?_; rintro e w7 ⟨rfl, hbw7⟩
               have hbw7' := Lib.hid (below_call hbw6'.out hbw7)
               obtain ⟨⟨y0, y1, y2⟩, -⟩ := hT.out.keep hbw7'.out hz.out
               have hR7 := Lib.hid (hR.out _ hbw7'.out)
               clear hbw7)
            | (go_at_call 28; refine (hR7.out).mono ?_; rintro e w8 ⟨rfl, hbw8⟩
               have hbw8' := Lib.hid (below_call hbw7'.out hbw8)
               obtain ⟨⟨y0, y1, y2⟩, -⟩ := hT.out.keep hbw8'.out hz.out
               have hL := Lib.hid (lives18 (w := w8))
               clear hbw8)
            | (go_at_call 18; refine (hL.out).mono ?_; rintro e w9 ⟨rfl, hbw9⟩
               have hbw9' := Lib.hid (below_call hbw8'.out hbw9)
               obtain ⟨⟨y0, y1, y2⟩, -⟩ := hT.out.keep hbw9'.out hz.out
               clear hbw9))
          go_ret
          exact ⟨rfl, below_call hbW.out hbw9'.out⟩
        · by_cases i3 : 24 < b
          · have d1 : decide (a < 0) = false := by simpa using i1
            have d2 : decide (b ≤ a) = false := by simpa using i2
            have hO := Lib.hid (over26' (hsh.out W4 (Below.refl _ _)) h7.out h21.out (f := 0) (t := 0) (err := 5) (.inr ⟨hv, .inl ⟨ho, rfl, rfl, rfl⟩⟩))
            have hN := Lib.hid (fun (W : World) (hb : Below W4.heap.size W4 W) => needs27 (hsh.out W hb) h7.out h21.out a b (n := 0) (err := 1) (.inr ⟨hv, .inl ⟨by cases hc : intB a b with | false => rfl | true => exact absurd (intB_iff.1 hc) (by omega), rfl, rfl⟩⟩))
            have hV := Lib.hid (fun (W : World) (hb : Below W4.heap.size W4 W) => valid17' (hsh.out W hb) h7.out h21.out hv)
            have hR := Lib.hid (fun (W : World) (hb : Below W4.heap.size W4 W) => refOver28' (hsh.out W hb) h7.out (valid_sh hv).1.loose.power (valid_jobs hv) ho)
            clear ho
            clear hv
            go_wp2_with (
              first
              | (go_at_call 26; refine (hO.out).mono ?_; rintro e w5 ⟨rfl, hbw5⟩
                 have hbw5' := Lib.hid (below_call (Below.refl _ _) hbw5)
                 obtain ⟨⟨y0, y1, y2⟩, -⟩ := hT.out.keep hbw5'.out hz.out
                 have hN5 := Lib.hid (hN.out _ hbw5'.out)
                 clear hbw5)
              | (go_at_call 27; refine (hN5.out).mono ?_; rintro e w6 ⟨rfl, hbw6⟩
                 have hbw6' := Lib.hid (below_call hbw5'.out hbw6)
                 obtain ⟨⟨y0, y1, y2⟩, -⟩ := hT.out.keep hbw6'.out hz.out
                 have hV6 := Lib.hid (hV.out _ hbw6'.out)
                 clear hbw6)
              | (go_at_call 17; refine (hV6.out).mono ?_; rintro e w7 ⟨rfl, hbw7⟩
                 have hbw7' := Lib.hid (below_call hbw6'.out hbw7)
                 obtain ⟨⟨y0, y1, y2⟩, -⟩ := hT.out.keep hbw7'.out hz.out
                 have hR7 := Lib.hid (hR.out _ hbw7'.out)
                 clear hbw7)
              | (go_at_call 28; refine (hR7.out).mono ?_; rintro e w8 ⟨rfl, hbw8⟩
                 have hbw8' := Lib.hid (below_call hbw7'.out hbw8)
                 obtain ⟨⟨y0, y1, y2⟩, -⟩ := hT.out.keep hbw8'.out hz.out
                 have hL := Lib.hid (lives18 (w := w8))
                 clear hbw8)
              | (go_at_call 18; refine (hL.out).mono ?_; rintro e w9 ⟨rfl, hbw9⟩
                 have hbw9' := Lib.hid (below_call hbw8'.out hbw9)
                 obtain ⟨⟨y0, y1, y2⟩, -⟩ := hT.out.keep hbw9'.out hz.out
                 clear hbw9))
            go_ret
            exact ⟨rfl, below_call hbW.out hbw9'.out⟩
          · have hi : 0 ≤ a ∧ a < b ∧ b ≤ 24 := by omega
            clear i1 i2 i3
            have d1 : decide (a < 0) = false := by simp; omega
            have d2 : decide (b ≤ a) = false := by simp; omega
            have d3 : decide (24 < b) = false := by simp; omega
            have hO := Lib.hid (over26' (hsh.out W4 (Below.refl _ _)) h7.out h21.out (f := 0) (t := 0) (err := 5) (.inr ⟨hv, .inl ⟨ho, rfl, rfl, rfl⟩⟩))
            obtain ⟨z, hz1⟩ : ∃ z, z = needS js' a b js'.length := ⟨_, rfl⟩
            have hN := Lib.hid (fun (W : World) (hb : Below W4.heap.size W4 W) => needs27 (hsh.out W hb) h7.out h21.out a b (n := z) (err := 0) (.inr ⟨hv, .inr ⟨intB_iff.2 hi, hz1, rfl⟩⟩))
            have hM := Lib.hid (fun (W : World) (hb : Below W4.heap.size W4 W) => (show Calls Try.prog 29 #[.agg #[.int .i64 P, .slice ja' jl jc', .slice oa' ol oc'], .int .i64 a, .int .i64 b] W fun e w' => e = .returned (.int .i64 z) ∧ Below W.heap.size W w' from by rw [hz1]; exact refNeeds29 (hsh.out W hb) h7.out (valid_jobs hv) (by omega) (by omega) (by omega)))
            obtain ⟨i1, i2, i3⟩ := hi
            clear hz1
            have hV := Lib.hid (fun (W : World) (hb : Below W4.heap.size W4 W) => valid17' (hsh.out W hb) h7.out h21.out hv)
            have hR := Lib.hid (fun (W : World) (hb : Below W4.heap.size W4 W) => refOver28' (hsh.out W hb) h7.out (valid_sh hv).1.loose.power (valid_jobs hv) ho)
            clear ho
            clear hv
            go_wp2_with (
              first
              | (go_at_call 26; refine (hO.out).mono ?_; rintro e w5 ⟨rfl, hbw5⟩
                 have hbw5' := Lib.hid (below_call (Below.refl _ _) hbw5)
                 obtain ⟨⟨y0, y1, y2⟩, -⟩ := hT.out.keep hbw5'.out hz.out
                 have hN5 := Lib.hid (hN.out _ hbw5'.out)
                 clear hbw5)
              | (go_at_call 27; refine (hN5.out).mono ?_; rintro e w6 ⟨rfl, hbw6⟩
                 have hbw6' := Lib.hid (below_call hbw5'.out hbw6)
                 obtain ⟨⟨y0, y1, y2⟩, -⟩ := hT.out.keep hbw6'.out hz.out
                 have hV6 := Lib.hid (hV.out _ hbw6'.out)
                 clear hbw6)
              | (go_at_call 17; refine (hV6.out).mono ?_; rintro e w7 ⟨rfl, hbw7⟩
                 have hbw7' := Lib.hid (below_call hbw6'.out hbw7)
                 obtain ⟨⟨y0, y1, y2⟩, -⟩ := hT.out.keep hbw7'.out hz.out
                 have hR7 := Lib.hid (hR.out _ hbw7'.out)
                 clear hbw7)
              | (go_at_call 28; refine (hR7.out).mono ?_; rintro e w8 ⟨rfl, hbw8⟩
                 have hbw8' := Lib.hid (below_call hbw7'.out hbw8)
                 obtain ⟨⟨y0, y1, y2⟩, -⟩ := hT.out.keep hbw8'.out hz.out
                 have hL := Lib.hid (lives18 (w := w8))
                 clear hbw8)
              | (go_at_call 18; refine (hL.out).mono ?_; rintro e w9 ⟨rfl, hbw9⟩
                 have hbw9' := Lib.hid (below_call hbw8'.out hbw9)
                 obtain ⟨⟨y0, y1, y2⟩, -⟩ := hT.out.keep hbw9'.out hz.out
                 have hM9 := Lib.hid (hM.out _ hbw9'.out)
                 clear hbw9)
              | (go_at_call 29; refine (hM9.out).mono ?_; rintro e wa ⟨rfl, hbwa⟩
                 have hbwa' := Lib.hid (below_call hbw9'.out hbwa)
                 obtain ⟨⟨y0, y1, y2⟩, -⟩ := hT.out.keep hbwa'.out hz.out
                 clear hbwa))
            go_ret
            exact ⟨rfl, below_call hbW.out hbwa'.out⟩
end Go.Proofs.Ytjkbhdlbomcbeaa
