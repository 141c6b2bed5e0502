import Derived.Test.YtjkbhdlbomcbeaaXk
namespace Go.Proofs.Ytjkbhdlbomcbeaa
open Go.RowKit Go.Shelf Shf

theorem jobs2_new (V : World) (a b : J) : ReadsJ (V.alloc (.cells #[.int .i64 a.f, .int .i64 a.t, .int .i64 a.l, .int .i64 a.p, .int .i64 b.f, .int .i64 b.t, .int .i64 b.l, .int .i64 b.p] 56)) (.slice (some ⟨V.heap.size, 0, none⟩) 2 2) [a, b] := by
  refine ⟨_, 2, rfl, by simp, fun _ => ⟨_, rfl, by simp, fun j u hj => ?_⟩⟩
  rw [World.cell?_alloc_at (hn := rfl), ← Array.getElem?_toList]
  exact hj
theorem orders1_new (V : World) (a b : Int) : ReadsO (V.alloc (.cells #[.int .i64 a, .int .i64 b] 78)) (.slice (some ⟨V.heap.size, 0, none⟩) 1 1) [(a, b)] := by
  refine ⟨_, 1, rfl, by simp, fun _ => ⟨_, rfl, by simp, fun j u hj => ?_⟩⟩
  rw [World.cell?_alloc_at (hn := rfl), ← Array.getElem?_toList]
  exact hj
theorem orders_nil (V : World) : ReadsO V (.slice none 0 0) [] := ⟨none, 0, rfl, by simp, fun h => absurd rfl h⟩
def FirstL (w : World) (xs : List Int) (e : Ending) (w' : World) : Prop := ∃ a c, e = .returned (.tuple #[.slice a 2 c, .int .i64 0]) ∧ Reads w' (.slice a 2 c) xs ∧ Below w.heap.size w w'
def ShortL (w : World) (xs : List Int) (e : Ending) (w' : World) : Prop := ∃ a c, e = .returned (.tuple #[.slice a 2 c, .int .i64 4, .int .i64 0]) ∧ Reads w' (.slice a 2 c) xs ∧ Below w.heap.size w w'
theorem firstL {w : World} {v : Value} (h : ShV w v 2 js1 []) : Calls Try.prog 21 #[v] w (FirstL w [0, 2]) := by
  refine (first21 h (by decide) (by decide)).mono ?_
  rintro e w' ⟨u, xs, err, rfl, hI, hb, ha⟩
  obtain ⟨rfl, rfl⟩ := firstIs1 ha
  have hr := hI.shape
  obtain ⟨a, c, rfl, _⟩ := id hr
  exact ⟨a, c, rfl, hr, hb⟩
theorem shortL {w : World} {v : Value} (h : ShV w v 2 js1 []) : Calls Try.prog 22 #[v] w (ShortL w [0, 2]) := by
  refine (short22 h (by decide) (by decide)).mono ?_
  rintro e w' ⟨u, xs, en, err, rfl, hI, hb, ha⟩
  obtain ⟨rfl, rfl, rfl⟩ := shortIs1 ha
  have hr := hI.shape
  obtain ⟨a, c, rfl, _⟩ := id hr
  exact ⟨a, c, rfl, hr, hb⟩
def RefuseL (w : World) (e : Ending) (w' : World) : Prop := ∃ a c, e = .returned (.tuple #[.slice a 1 c, .int .i64 0]) ∧ ReadsNd w' (.slice a 1 c) [⟨3, (0 : Nat), 0, 0, 0, 0⟩] ∧ Below w.heap.size w w'
theorem refuseL {w : World} {v : Value} (h : ShV w v 1 js2 [(1, 0)]) : Calls Try.prog 30 #[v] w (RefuseL w) := by
  refine (refuseLate30 (k := 0) h (by decide) (by decide) (by decide) (by decide) (by decide) (fun j hj => by omega) none2).mono ?_
  rintro e w' ⟨u, rfl, hO, hb⟩
  have hr := hO.reads
  obtain ⟨a, c, rfl, _⟩ := id hr
  exact ⟨a, c, rfl, hr, hb⟩
theorem provesL {w : World} {v pv : Value} (h : ShV w v 1 js2 [(1, 0)]) (hp : ReadsNd w pv [⟨3, (0 : Nat), 0, 0, 0, 0⟩]) : Calls Try.prog 32 #[v, pv] w fun e w' => e = .returned (.tuple #[.bool true, .int .i64 0]) ∧ Below w.heap.size w w' :=
  provesLate32 (k := 0) h (by decide) (by decide) (by decide) (by decide) (by decide) hp
theorem sameT {w : World} {u v : Value} (hu : Reads w u [0, 2]) (hv : Reads w v [0, 2]) : Calls Try.prog 25 #[u, v] w fun e w' => e = .returned (.bool true) ∧ Below w.heap.size w w' := by
  have := same25 hu hv (by decide)
  exact this
theorem sh1 (w : World) : ShV ((w.alloc (.cells #[.int .i64 0, .int .i64 4, .int .i64 2, .int .i64 2, .int .i64 0, .int .i64 4, .int .i64 2, .int .i64 2] 56)).alloc (.cells #[.int .i64 2, .slice (some ⟨w.heap.size, 0, none⟩) 2 2, .slice none 0 0] 25)) (.agg #[.int .i64 2, .slice (some ⟨w.heap.size, 0, none⟩) 2 2, .slice none 0 0]) 2 js1 [] :=
  ⟨_, _, rfl, (jobs2_new w ⟨0, 4, 2, 2⟩ ⟨0, 4, 2, 2⟩).below (below_alloc1 _ _), orders_nil _⟩
theorem sh2 (V : World) : ShV (((V.alloc (.cells #[.int .i64 0, .int .i64 2, .int .i64 2, .int .i64 1, .int .i64 0, .int .i64 4, .int .i64 2, .int .i64 1] 56)).alloc (.cells #[.int .i64 1, .int .i64 0] 78)).alloc (.cells #[.int .i64 1, .slice (some ⟨V.heap.size, 0, none⟩) 2 2, .slice (some ⟨V.heap.size + 1, 0, none⟩) 1 1] 25)) (.agg #[.int .i64 1, .slice (some ⟨V.heap.size, 0, none⟩) 2 2, .slice (some ⟨V.heap.size + 1, 0, none⟩) 1 1]) 1 js2 [(1, 0)] := by
  have hj := ((jobs2_new V ⟨0, 2, 2, 1⟩ ⟨0, 4, 2, 1⟩).below (below_alloc1 _ (.cells #[.int .i64 1, .int .i64 0] 78))).below (below_alloc1 _ (.cells #[.int .i64 1, .slice (some ⟨V.heap.size, 0, none⟩) 2 2, .slice (some ⟨V.heap.size + 1, 0, none⟩) 1 1] 25))
  have ho := (orders1_new (V.alloc (.cells #[.int .i64 0, .int .i64 2, .int .i64 2, .int .i64 1, .int .i64 0, .int .i64 4, .int .i64 2, .int .i64 1] 56)) 1 0).below (below_alloc1 _ (.cells #[.int .i64 1, .slice (some ⟨V.heap.size, 0, none⟩) 2 2, .slice (some ⟨V.heap.size + 1, 0, none⟩) 1 1] 25))
  rw [World.size_alloc] at ho
  exact ⟨_, _, rfl, hj, ho⟩
theorem sh2b (V : World) : Below V.heap.size V (((V.alloc (.cells #[.int .i64 0, .int .i64 2, .int .i64 2, .int .i64 1, .int .i64 0, .int .i64 4, .int .i64 2, .int .i64 1] 56)).alloc (.cells #[.int .i64 1, .int .i64 0] 78)).alloc (.cells #[.int .i64 1, .slice (some ⟨V.heap.size, 0, none⟩) 2 2, .slice (some ⟨V.heap.size + 1, 0, none⟩) 1 1] 25)) := ((below_alloc1 _ _).alloc (by simp) _).alloc (by simp; omega) _
theorem sh2t (V : World) : Three (((V.alloc (.cells #[.int .i64 0, .int .i64 2, .int .i64 2, .int .i64 1, .int .i64 0, .int .i64 4, .int .i64 2, .int .i64 1] 56)).alloc (.cells #[.int .i64 1, .int .i64 0] 78)).alloc (.cells #[.int .i64 1, .slice (some ⟨V.heap.size, 0, none⟩) 2 2, .slice (some ⟨V.heap.size + 1, 0, none⟩) 1 1] 25)) (V.heap.size + 2) (.int .i64 1) (.slice (some ⟨V.heap.size, 0, none⟩) 2 2) (.slice (some ⟨V.heap.size + 1, 0, none⟩) 1 1) := by
  have h := Three.new ((V.alloc (.cells #[.int .i64 0, .int .i64 2, .int .i64 2, .int .i64 1, .int .i64 0, .int .i64 4, .int .i64 2, .int .i64 1] 56)).alloc (.cells #[.int .i64 1, .int .i64 0] 78)) (.int .i64 1) (.slice (some ⟨V.heap.size, 0, none⟩) 2 2) (.slice (some ⟨V.heap.size + 1, 0, none⟩) 1 1) 25
  rw [World.size_alloc, World.size_alloc] at h
  exact h
theorem sh2s (V : World) : V.heap.size + 2 < (((V.alloc (.cells #[.int .i64 0, .int .i64 2, .int .i64 2, .int .i64 1, .int .i64 0, .int .i64 4, .int .i64 2, .int .i64 1] 56)).alloc (.cells #[.int .i64 1, .int .i64 0] 78)).alloc (.cells #[.int .i64 1, .slice (some ⟨V.heap.size, 0, none⟩) 2 2, .slice (some ⟨V.heap.size + 1, 0, none⟩) 1 1] 25)).heap.size := by rw [World.size_alloc, World.size_alloc, World.size_alloc]; omega
set_option maxHeartbeats 4000000 in
set_option maxRecDepth 100000 in
theorem lives18 {w : World} : Calls Try.prog 18 #[] w fun e w' => e = .returned (.bool true) ∧ Below w.heap.size w w' := by
  have hsh := Lib.hid (sh1 w)
  have ht := Lib.hid (Three.new (w.alloc (.cells #[.int .i64 0, .int .i64 4, .int .i64 2, .int .i64 2, .int .i64 0, .int .i64 4, .int .i64 2, .int .i64 2] 56)) (.int .i64 2) (.slice (some ⟨w.heap.size, 0, none⟩) 2 2) (.slice none 0 0) 25)
  have hb1 := Lib.hid (show Below w.heap.size w ((w.alloc (.cells #[.int .i64 0, .int .i64 4, .int .i64 2, .int .i64 2, .int .i64 0, .int .i64 4, .int .i64 2, .int .i64 2] 56)).alloc (.cells #[.int .i64 2, .slice (some ⟨w.heap.size, 0, none⟩) 2 2, .slice none 0 0] 25)) from (below_alloc1 w _).alloc (by simp) _)
  rw [World.size_alloc] at ht
  go_enter Try.func18, Try.ntmps18
  go_upto_region 2 with fail
  obtain ⟨W1, hW1⟩ : ∃ W1, W1 = (w.alloc (.cells #[.int .i64 0, .int .i64 4, .int .i64 2, .int .i64 2, .int .i64 0, .int .i64 4, .int .i64 2, .int .i64 2] 56)).alloc (.cells #[.int .i64 2, .slice (some ⟨w.heap.size, 0, none⟩) 2 2, .slice none 0 0] 25) := ⟨_, rfl⟩
  have hz1 := Lib.hid (show w.heap.size + 1 < W1.heap.size by rw [hW1, World.size_alloc, World.size_alloc]; omega)
  rw [← hW1] at hsh ht hb1 ⊢
  have hf1 := Lib.hid (firstL hsh.out)
  obtain ⟨⟨x0, x1, x2⟩, -⟩ := ht.out
  clear hW1
  go_wp2_with (
    first
    | (go_at_call 21; refine (hf1.out).mono ?_; rintro e w2 ⟨a1, c1, rfl, hr1, hb2⟩
       have hr1' := Lib.hid hr1
       have hb2' := Lib.hid (below_call hb1.out hb2)
       have ht2 := Lib.hid (ht.out.keep hb2 hz1.out)
       have hz2 := Lib.hid (Nat.lt_of_lt_of_le hz1.out hb2.size)
       obtain ⟨⟨y0, y1, y2⟩, -⟩ := ht2.out
       have hs2 := Lib.hid (shortL (hsh.out.below hb2))
       clear hr1 hb2)
    | (go_at_call 22; refine (hs2.out).mono ?_; rintro e w3 ⟨a2, c2, rfl, hr2, hb3⟩
       have hr2' := Lib.hid (hr2.below (sh2b w3))
       have hr13 := Lib.hid ((hr1'.out.below hb3).below (sh2b w3))
       have hb3' := Lib.hid (below_call (below_call hb2'.out hb3) (sh2b w3))
       have hsh2 := Lib.hid (sh2 w3)
       have ht3 := Lib.hid (sh2t w3)
       have hz3 := Lib.hid (sh2s w3)
       have hrf := Lib.hid (refuseL hsh2.out)
       clear hr2 hb3)
    | (go_at_call 30; refine (hrf.out).mono ?_; rintro e w5 ⟨a3, c3, rfl, hr3, hb5⟩
       have hr25 := Lib.hid (hr2'.out.below hb5)
       have hr15 := Lib.hid (hr13.out.below hb5)
       have hb5' := Lib.hid (below_call hb3'.out hb5)
       obtain ⟨⟨z0, z1, z2⟩, -⟩ := ht3.out.keep hb5 hz3.out
       have hpv := Lib.hid (provesL (hsh2.out.below hb5) hr3)
       clear hr3 hb5)
    | (go_at_call 32; refine (hpv.out).mono ?_; rintro e w6 ⟨rfl, hb6⟩
       have hr26 := Lib.hid (hr25.out.below hb6)
       have hr16 := Lib.hid (hr15.out.below hb6)
       have hb6' := Lib.hid (below_call (below_call hb5'.out hb6) (below_alloc1 w6 (.cells #[.int .i64 0, .int .i64 2] 3)))
       have hsm1 := Lib.hid (sameT (hr16.out.below (below_alloc1 w6 (.cells #[.int .i64 0, .int .i64 2] 3))) (lit2 w6 0 2))
       have hr27 := Lib.hid (hr26.out.below (below_alloc1 w6 (.cells #[.int .i64 0, .int .i64 2] 3)))
       clear hb6)
    | (go_at_call_of 25 (Value.slice a1 2 c1); refine (hsm1.out).mono ?_; rintro e w7 ⟨rfl, hb7⟩
       have hr28 := Lib.hid (hr27.out.below hb7)
       have hb7' := Lib.hid (below_call (below_call hb6'.out hb7) (below_alloc1 w7 (.cells #[.int .i64 0, .int .i64 2] 3)))
       have hsm2 := Lib.hid (sameT (hr28.out.below (below_alloc1 w7 (.cells #[.int .i64 0, .int .i64 2] 3))) (lit2 w7 0 2))
       clear hb7)
    | (go_at_call_of 25 (Value.slice a2 2 c2); refine (hsm2.out).mono ?_; rintro e w8 ⟨rfl, hb8⟩
       have hb8' := Lib.hid (below_call hb7'.out hb8)
       clear hb8))
  go_ret
  exact ⟨rfl, hb8'.out⟩
end Go.Proofs.Ytjkbhdlbomcbeaa
