import Derived.Test.YtbcoaiaocfommaaShD
import Derived.Test.YtbcoaiaocfommaaSi
import Derived.StillTailTactics
import Derived.Shelf.Abstract
import Derived.Test.YtbcoaiaocfommaaBd
namespace Go.Proofs.Ytbcoaiaocfommaa
open Go.RowKit Go.Shelf Go.Sort

def encR (r : RunT) : List Value := [.int .i64 (r.1 : Int), .int .i64 (r.2.1 : Int), .int .i64 (r.2.2 : Int)]
def orI (a b : Int) : Int := if a = 0 then b else a
def cfR (x y : RunT) : Int := orI (Go.Lib.compareInt x.1 y.1) (Go.Lib.compareInt x.2.1 y.2.1)

set_option maxHeartbeats 1000000 in
set_option maxRecDepth 100000 in
theorem or65 (a b : Int) (g : Nat) (w : World) (h0 : w.cell? ⟨g, 0, none⟩ = some (.int .i64 a)) (h1 : w.cell? ⟨g, 1, none⟩ = some (.int .i64 b)) :
    Calls Try.prog 65 #[.slice (some ⟨g, 0, none⟩) 2 2] w fun e w' => e = .returned (.int .i64 (orI a b)) ∧ w' = w := by
  by_cases ha : a = 0
  · subst ha
    by_cases hb : b = 0
    · subst hb
      go_enter Try.func65, Try.ntmps65
      go_wp2
      refine wp_loop_rounds 3 ?_
      repeat (rw [rounds_succ]; go_wp2)
      go_ret
      exact ⟨rfl, rfl⟩
    · have hb1 : (b != 0) = true := by simpa using hb
      have ho := Lib.hid (show orI 0 b = b by unfold orI; rw [if_pos rfl])
      go_enter Try.func65, Try.ntmps65
      go_wp2
      refine wp_loop_rounds 3 ?_
      repeat (rw [rounds_succ]; go_wp2)
      go_ret
      exact ⟨ret_i ho.out.symm, rfl⟩
  · have ha1 : (a != 0) = true := by simpa using ha
    have ho := Lib.hid (show orI a b = a by unfold orI; rw [if_neg ha])
    go_enter Try.func65, Try.ntmps65
    go_wp2
    refine wp_loop_rounds 3 ?_
    repeat (rw [rounds_succ]; go_wp2)
    go_ret
    exact ⟨ret_i ho.out.symm, rfl⟩

theorem cmp66 (x y : Int) (W : World) : Calls Try.prog 66 #[.int .i64 x, .int .i64 y] W fun e w' => e = .returned (.int .i64 (Go.Lib.compareInt x y)) ∧ w' = W := AnyG.cmp_Compare_int Try.cmpInt x y W

set_option maxHeartbeats 1000000 in
set_option maxRecDepth 100000 in
theorem closure64 (x y : RunT) (W : World) : Calls Try.prog 64 #[.agg #[.int .i64 x.1, .int .i64 x.2.1, .int .i64 x.2.2], .agg #[.int .i64 y.1, .int .i64 y.2.1, .int .i64 y.2.2]] W fun e w' => e = .returned (.int .i64 (cfR x y)) ∧ ∃ q os', w' = grow (W.drewN q) os' := by
  unfold cfR
  have c1 := Lib.hid (fun W => cmp66 x.1 y.1 W)
  have c2 := Lib.hid (fun W => cmp66 x.2.1 y.2.1 W)
  obtain ⟨a, ha⟩ : ∃ a, a = Go.Lib.compareInt (x.1 : Int) y.1 := ⟨_, rfl⟩
  obtain ⟨b, hb⟩ : ∃ b, b = Go.Lib.compareInt (x.2.1 : Int) y.2.1 := ⟨_, rfl⟩
  rw [← ha] at c1 ⊢
  rw [← hb] at c2 ⊢
  clear ha hb
  go_enter Try.func64, Try.ntmps64
  go_wp2
  have b0 : ∀ j u, [Value.int .i64 (x.1 : Int), .int .i64 (x.2.1 : Int), .int .i64 (x.2.2 : Int)][j]? = some u → ((W.alloc (.cells #[.int .i64 x.1, .int .i64 x.2.1, .int .i64 x.2.2] 62)).alloc (.cells #[.int .i64 y.1, .int .i64 y.2.1, .int .i64 y.2.2] 62)).cell? ⟨W.heap.size, j, none⟩ = some u := fun j u h => by
    have := cell_three_new W _ _ _ 62 j u h
    have e : (⟨W.heap.size, 0, none⟩ : Addr).add j = ⟨W.heap.size, j, none⟩ := by simp [Addr.add]; exact fun h => h.symm
    rw [e] at this
    exact cell_alloc_e _ this
  have b1 : ∀ j u, [Value.int .i64 (y.1 : Int), .int .i64 (y.2.1 : Int), .int .i64 (y.2.2 : Int)][j]? = some u → ((W.alloc (.cells #[.int .i64 x.1, .int .i64 x.2.1, .int .i64 x.2.2] 62)).alloc (.cells #[.int .i64 y.1, .int .i64 y.2.1, .int .i64 y.2.2] 62)).cell? ⟨W.heap.size + 1, j, none⟩ = some u := fun j u h => by
    have := cell_three_new (W.alloc (.cells #[.int .i64 x.1, .int .i64 x.2.1, .int .i64 x.2.2] 62)) _ _ _ 62 j u h
    have e : (⟨(W.alloc (.cells #[.int .i64 (x.1 : Int), .int .i64 (x.2.1 : Int), .int .i64 (x.2.2 : Int)] 62)).heap.size, 0, none⟩ : Addr).add j = ⟨W.heap.size + 1, j, none⟩ := by simp [Addr.add]; exact fun h => h.symm
    rw [e] at this
    exact this
  have gw : ((W.alloc (.cells #[.int .i64 (x.1 : Int), .int .i64 (x.2.1 : Int), .int .i64 (x.2.2 : Int)] 62)).alloc (.cells #[.int .i64 (y.1 : Int), .int .i64 (y.2.1 : Int), .int .i64 (y.2.2 : Int)] 62)) = grow W #[.cells #[.int .i64 x.1, .int .i64 x.2.1, .int .i64 x.2.2] 62, .cells #[.int .i64 y.1, .int .i64 y.2.1, .int .i64 y.2.2] 62] := by
    rw [alloc_eq_grow, alloc_eq_grow, grow_grow]; rfl
  obtain ⟨W2, hW2⟩ : ∃ W2, W2 = ((W.alloc (.cells #[.int .i64 (x.1 : Int), .int .i64 (x.2.1 : Int), .int .i64 (x.2.2 : Int)] 62)).alloc (.cells #[.int .i64 (y.1 : Int), .int .i64 (y.2.1 : Int), .int .i64 (y.2.2 : Int)] 62)) := ⟨_, rfl⟩
  rw [← hW2] at b0 b1 gw ⊢
  have x0 := b0 0 _ rfl
  have x1 := b0 1 _ rfl
  have y0 := b1 0 _ rfl
  have y1 := b1 1 _ rfl
  have gw' := Lib.hid gw
  clear b0 b1 hW2 gw
  refine wp_region_still_tail 10 (by kernel_rfl) (by kernel_rfl) ?_
  simp only [List.take_succ_cons, List.take_zero, List.drop_succ_cons, List.drop_zero]
  obtain ⟨W3, hW3⟩ : ∃ W3, W3 = W2.drew := ⟨_, rfl⟩
  have x0' : W3.cell? ⟨W.heap.size, 0, none⟩ = some (.int .i64 (x.1 : Int)) := by rw [hW3]; exact x0
  have x1' : W3.cell? ⟨W.heap.size, 1, none⟩ = some (.int .i64 (x.2.1 : Int)) := by rw [hW3]; exact x1
  have y0' : W3.cell? ⟨W.heap.size + 1, 0, none⟩ = some (.int .i64 (y.1 : Int)) := by rw [hW3]; exact y0
  have y1' : W3.cell? ⟨W.heap.size + 1, 1, none⟩ = some (.int .i64 (y.2.1 : Int)) := by rw [hW3]; exact y1
  clear x0 x1 y0 y1
  change wpStill _ _ W2.drew (fun a' => wpList _ _ _ _ a' W2.drew) _ _
  rw [← hW3]
  have hW3' := Lib.hid hW3
  clear hW3
  still_step
  still_step
  still_step
  still_step
  still_call (c1.out _)
  still_step
  still_step
  still_step
  still_step
  still_call (c2.out _)
  refine wpStill_nil ?_
  have z0 : (W3.alloc (.cells #[.int .i64 a, .int .i64 b] 3)).cell? ⟨W3.heap.size, 0, none⟩ = some (.int .i64 a) := by rw [World.cell?_alloc_at _ _ _ _ rfl]; rfl
  have z1 : (W3.alloc (.cells #[.int .i64 a, .int .i64 b] 3)).cell? ⟨W3.heap.size, 1, none⟩ = some (.int .i64 b) := by rw [World.cell?_alloc_at _ _ _ _ rfl]; rfl
  have hor := Lib.hid (or65 a b W3.heap.size _ z0 z1)
  clear z0 z1
  go_wp2_with (go_at_call 65; refine hor.out.mono ?_; rintro e w4 ⟨rfl, rfl⟩)
  go_ret
  refine ⟨rfl, 1, #[.cells #[.int .i64 x.1, .int .i64 x.2.1, .int .i64 x.2.2] 62, .cells #[.int .i64 y.1, .int .i64 y.2.1, .int .i64 y.2.2] 62] ++ #[.cells #[.int .i64 a, .int .i64 b] 3], ?_⟩
  rw [alloc_eq_grow, ← grow_grow]
  congr 1
  rw [hW3'.out, gw'.out]
  rfl

theorem cmpLays64 (blk off size : Nat) (w : World) : CmpLays Try.prog 64 #[] encR 3 cfR blk off size w := fun _ _ _ _ x y => closure64 x y _

theorem ltR (x y : RunT) : ltOf cfR x y = decide (x.1 < y.1 ∨ (x.1 = y.1 ∧ x.2.1 < y.2.1)) := by
  unfold ltOf cfR orI Go.Lib.compareInt
  rw [Bool.eq_iff_iff]
  simp only [decide_eq_true_eq]
  by_cases h1 : (x.1 : Int) < y.1
  · simp [h1]; omega
  · by_cases h2 : (y.1 : Int) < x.1
    · simp [h1, h2]; omega
    · by_cases h3 : (x.2.1 : Int) < y.2.1
      · simp [h1, h2, h3]; omega
      · by_cases h4 : (y.2.1 : Int) < x.2.1
        · simp [h1, h2, h3, h4]; omega
        · simp [h1, h2, h3, h4]; omega
theorem swoR : SWO (ltOf cfR) where
  irrefl x := by rw [ltR]; simp
  trans x y z h1 h2 := by rw [ltR] at *; simp at *; omega
  ntrans x y z h1 h2 := by rw [ltR] at *; simp at *; omega

theorem sort63 (blk cap : Nat) (rs : List RunT) (w : World) (hH : HoldsK encR 3 w blk 0 rs.toArray) (hblk : blk < w.heap.size) (hsz : rs.length < 1000000) :
    Calls Try.prog 63 #[.slice (some ⟨blk, 0, none⟩) rs.length cap, .func (.func 64) #[] #[]] w fun e w' => e = .returned (.tuple #[]) ∧ ∃ d' n os, PermIn 0 rs.length rs.toArray d' ∧ SortedIn (ltOf cfR) 0 rs.length d' ∧ w' = sortWorldK encR 3 w blk 0 n d' os := by
  have eg : ∀ args w, (callFunc 64 args).run Try.prog w = .ok (.enter 64 args) w := enters_of Try.func64 (by kernel_rfl) rfl
  have hcon := AnyQ.slices_SortFunc Try.sortRuns 3 Try.isAgg62 Try.sizeOf62 encR (fun _ => rfl) (fun x v hv => by simp [encR] at hv; rcases hv with rfl | rfl | rfl <;> rfl) cfR swoR 64 #[] blk 0 cap rs.toArray w eg (cmpLays64 blk 0 _ w) hH hblk (by simp; omega)
  have e : rs.toArray.size = rs.length := by simp
  rw [e] at hcon
  exact hcon
#print PermIn
#print SortedIn
#print sortWorldK
#print HoldsK
#check @HoldsK.cells
#print flatK
end Go.Proofs.Ytbcoaiaocfommaa
