import Derived.Test.YtfobdlllghpelaaIa
namespace Go.Proofs.Ytfobdlllghpelaa
open Go.RowKit Go.Shelf Pair
attribute [local go_sem] Oper.semAt_some

theorem bcell {W w1 : World} (hb : Below W.heap.size W w1) : (∀ b o, b < W.heap.size → w1.cell? ⟨b, o, none⟩ = W.cell? ⟨b, o, none⟩) ∧ (∀ b o, b < W.heap.size → w1.frozen? ⟨b, o, none⟩ = W.frozen? ⟨b, o, none⟩) :=
  ⟨fun b o h => hb.cell (p := ⟨b, o, none⟩) h, fun b o h => hb.frozen (p := ⟨b, o, none⟩) h⟩
/-- The number in the box that a slot points to. -/
def boxed (w : World) (p : Value) : Int := match p with
  | .pointer (some ad) => match w.cell? ad with
    | some (.int _ v) => v
    | _ => 0
  | _ => 0
/-- The table is filled for the sets below `F`. -/
def TabAt (w1 w' : World) (B b gA gC n N : Nat) (ok : Nat → Nat → Bool) (al : List Nat) (F bf : Nat) (Ds : List Nat) : Prop :=
  (1 ≤ F ∧ F ≤ N) ∧ Hid (Lst w' B b gA gC n N al (cwT ok n F)) ∧ (w'.cell? ⟨bf, 0, none⟩ = some (.int .u64 (F : Int)) ∧ w'.frozen? ⟨bf, 0, none⟩ = false) ∧ (bf ≠ gC ∧ B ≤ bf ∧ bf < w'.heap.size) ∧ Hid (Below B w1 w') ∧ Hid (Marks w' B Ds)
theorem cwT_same (ok : Nat → Nat → Bool) (n F : Nat) : (cwT ok n F).set F 0 = cwT ok n F := by
  refine List.ext_getElem (by simp) fun i h1 h2 => ?_
  rw [List.getElem_set]
  by_cases e : F = i
  · subst e; simp [cwT]
  · rw [if_neg e]
theorem set_at {xs : List Int} {F : Nat} {y : Int} (h : F < xs.length) : (xs.set F y).getD F 0 = y := by
  rw [List.getD_eq_getElem?_getD, List.getElem?_set_self h]; rfl
theorem set_not {xs : List Int} {F i : Nat} {y : Int} (h : F ≠ i) : (xs.set F y).getD i 0 = xs.getD i 0 := by
  rw [List.getD_eq_getElem?_getD, List.getElem?_set_ne h, ← List.getD_eq_getElem?_getD]
theorem cell_of_box_e {W : World} {B : Nat} {v : Value} {t : TypeId} (h : W.heap[B]? = some (.cells #[v] t (0, 0))) : W.cell? ⟨B, 0, none⟩ = some v ∧ W.frozen? ⟨B, 0, none⟩ = false := by
  constructor <;> simp [World.cell?, World.frozen?, h]
theorem cell_new_e (W : World) (v : Value) (t : TypeId) : (W.alloc (.cells #[v] t)).cell? ⟨W.heap.size, 0, none⟩ = some v ∧ (W.alloc (.cells #[v] t)).frozen? ⟨W.heap.size, 0, none⟩ = false :=
  cell_of_box_e (World.alloc_heap_new W _)
theorem qs {f : FuncId} {args : Array Value} {W : World} {v : Value} (h : Calls Try.prog f args W fun e w' => e = .returned v ∧ W = w') : Calls Try.prog f args W fun e w' => e = .returned v ∧ w' = W := h.mono fun _ _ ⟨a, b⟩ => ⟨a, b.symm⟩
theorem alwL_at {cs : List (List Int)} {lo hi : Int} {n i : Nat} (h : i < n) : (alwL cs lo hi n).getD i 0 = maskTo (okM cs lo hi i) n := by
  simp [alwL, List.getD_eq_getElem?_getD, h]
set_option maxHeartbeats 4000000 in
set_option maxRecDepth 100000 in
theorem newListing70 {w : World} {v : Value} {cs : List (List Int)} {n : Nat} (hv : Sq w v cs n) (hn1 : 1 ≤ n) (hn8 : n ≤ 8) (lo hi : Int) :
    Calls Try.prog 70 #[v, .int .i64 lo, .int .i64 hi] w fun e w' => ∃ gA gC, e = .returned (.agg #[.slice (some ⟨gA, 0, none⟩) n n, .slice (some ⟨gC, 0, none⟩) (2 ^ n) (2 ^ n)]) ∧
      SRow w' w.heap.size gA n (alwL cs lo hi n) ∧ Row w' w.heap.size gC (2 ^ n) (cwT (okM cs lo hi) n (2 ^ n)) ∧ gA ≠ gC ∧ Below w.heap.size w w' := by
  obtain ⟨ao, c, rfl⟩ := hv.val
  have hv' := Lib.hid hv
  have hp : IntKind.i64.wrap ((2 : Int) ^ n) = ((2 ^ n : Nat) : Int) := pow_tab n hn8
  have hN1 := pow_le n hn8
  have hN2 := pow_ge n hn1 hn8
  obtain ⟨N, hN⟩ : ∃ N, N = 2 ^ n := ⟨_, rfl⟩
  rw [← hN] at hp hN1 hN2 ⊢
  have hN' := Lib.hid hN
  clear hN hv
  refine (callsIn_wide (n := 9)).1 ?_
  refine callsIn_of_wp_marks Try.func70 rfl trivial ?_ rfl
  simp only [Try.ntmps70, List.size_toArray, List.length_cons, List.length_nil, Nat.reduceAdd, Nat.reduceSub, Array.replicate_succ, Array.replicate_zero, List.push_toArray, List.append_toArray, List.nil_append, List.cons_append]
  refine wpIn_wide.2 ?_
  go_wp2_with fail
  obtain ⟨w1, hw1⟩ : ∃ w1, w1 = w.alloc (Obj.cells #[Value.slice none 0 0, Value.slice none 0 0] 98) := ⟨_, rfl⟩
  obtain ⟨s, hs⟩ : ∃ s, s = w.heap.size := ⟨_, rfl⟩
  have hb01 : Below s w w1 := by rw [hw1, hs]; exact below_alloc1 w _
  have hs1 : w1.heap.size = s + 1 := by rw [hw1, hs]; simp
  have hblk : w1.heap[s]? = some (.cells #[Value.slice none 0 0, Value.slice none 0 0] 98) := by rw [hw1, hs]; exact heap_alloc_new w _
  rw [← hw1, ← hs]
  have hv1 := Lib.hid (hv'.out.below (w' := w1) (by rw [← hs]; exact hb01))
  obtain ⟨B, hB⟩ : ∃ B, B = s + 1 := ⟨_, rfl⟩
  have hBw := Lib.hid (hB ▸ hs1)
  have hs' := Lib.hid hs
  have hb01' := Lib.hid hb01
  have hblk' := Lib.hid hblk
  have hB' := Lib.hid hB
  clear hw1 hs hb01 hs1 hblk hB
  have hcall := Lib.hid (fun (W : World) (h : Below w1.heap.size w1 W) => allowed62 (hv1.out.below h) hn8 lo hi)
  have hmk := fun (W : World) => make_eq W N (by omega)
  go_upto_region 2 with fail
  go_cut [8] from 14 to 21 (fun p wx => LstAt w1 wx B n N (alwL cs lo hi n) (List.replicate N 0) p)
  case first =>
    refine wp_region_noPanic ?_
    go_region_with (first | (go_at_call 62; refine (hcall.out _ ?_).mono ?_; (first | exact Below.refl _ _ | exact (Below.refl _ _).drew | exact ((Below.refl _ _).drew.alloc (Nat.le_refl _) _) | exact (((Below.refl _ _).drew.alloc (Nat.le_refl _) _).alloc (by simp) _)); rintro e wA ⟨gA, rfl, hA, hbA⟩; obtain ⟨hcA, hfA⟩ := bcell hbA; have hszA := hbA.size; (try simp at hszA); (try (have hz1 : w1.heap.size < wA.heap.size := by omega)); (try (have hz2 : w1.heap.size + 1 < wA.heap.size := by omega)); have hA' := Lib.hid hA; have hbA' := Lib.hid hbA; clear hA hbA))
    all_goals refine NoPanic.normal ?_
    all_goals go_wp2_with fail
    all_goals go_meet
    all_goals
      first
        | with_reducible exact fin1 hBw.out.symm (by omega) hA'.out hbA'.out
        | with_reducible exact fin2 hBw.out.symm (by omega) hA'.out hbA'.out
        | with_reducible exact fin3 hBw.out.symm (by omega) hA'.out hbA'.out
        | with_reducible exact fin4 hBw.out.symm (by omega) hA'.out hbA'.out
        | with_reducible exact fin5 hBw.out.symm (by omega) hA'.out hbA'.out
        | with_reducible exact fin6 hBw.out.symm (by omega) hA'.out hbA'.out
  case rest =>
    obtain ⟨b, gA, gC, rfl, hL, hbx⟩ := hcut
    have c0 := hL.out.cell0
    have c1 := hL.out.cell1
    have hrc := hL.out.2.2.1.cell (j := 0) (by omega)
    have hrf := hL.out.2.2.1.frozen 0
    have hst := Lib.hid (show ∀ W, W = (wc.setCell ⟨gC, 0, none⟩ (.int .i64 1)).alloc (.cells #[.int .u64 1] 91) → TabAt w1 W B b gA gC n N (okM cs lo hi) (alwL cs lo hi n) 1 wc.heap.size [] from fun W hW => by
      have h1 := hL.out.set 0 1
      have h2 := hL.out.2.2.1.lt
      have h3 := hbx.out.size
      have h4 := hBw.out
      rw [show (List.replicate N (0 : Int)).set 0 1 = cwT (okM cs lo hi) n 1 by rw [hN'.out]; exact cwT_one _ _] at h1
      subst hW
      refine ⟨⟨Nat.le_refl _, by omega⟩, Lib.hid (h1.below (below_alloc1 _ _)), ?_, ⟨by omega, by omega, by simp⟩, Lib.hid ((below_set hbx.out (by omega)).alloc (by simp; omega) _), Lib.hid (Marks.nil _ _)⟩
      have e1 : (wc.setCell ⟨gC, 0, none⟩ (.int .i64 1)).heap.size = wc.heap.size := by simp
      rw [← e1]
      exact cell_new_e _ _ _)
    go_wp2_with fail
    obtain ⟨W0, hW0⟩ : ∃ W0, W0 = (wc.setCell ⟨gC, 0, none⟩ (.int .i64 1)).alloc (.cells #[.int .u64 1] 91) := ⟨_, rfl⟩
    have hst := hst.out W0 hW0
    rw [← hW0]
    clear hW0 c0 c1 hrc hrf hL hbx
    obtain ⟨bf0, hbf0⟩ : ∃ bf0, bf0 = wc.heap.size := ⟨_, rfl⟩
    rw [← hbf0] at hst ⊢
    clear hbf0
    have hal := Lib.hid (fun (i : Nat) (h : i < n) => alwL_at (cs := cs) (lo := lo) (hi := hi) h)
    obtain ⟨al, hal2⟩ : ∃ al, al = alwL cs lo hi n := ⟨_, rfl⟩
    rw [← hal2] at hst hal
    have hal3 := Lib.hid hal2
    clear hal2
    have hfst : ∀ W : World, Calls Try.prog 67 #[.int .i64 n] W fun e w' => e = .returned (.int .u64 ((N - 1 : Nat) : Int)) ∧ W = w' := fun W => by
      have := first67 (w := W) hn8; rw [← hN'.out] at this; exact this
    have hfst' := Lib.hid hfst
    clear hfst
    obtain ⟨M, hM⟩ : ∃ M, M = N - 1 := ⟨_, rfl⟩
    rw [← hM] at hfst'
    have hNM : N = M + 1 := by omega
    have hNM' := Lib.hid hNM
    clear hM hNM
    refine wp_loop (fun a' w' => ∃ (F bf : Nat) (Ds : List Nat) (x10 x11 x25 x26 x27 x28 x29 x30 x31 x32 x33 x34 x35 x36 x37 x38 x39 x40 x41 x42 x43 x44 x45 x46 x47 x48 x49 x50 x51 x52 x53 x54 x55 x56 x57 x58 : Value), TabAt w1 w' B b gA gC n N (okM cs lo hi) al F bf Ds ∧ a' = { tmps := #[.slice ao n c, .int .i64 lo, .int .i64 hi, undef, undef, undef, .pointer (some ⟨s, 0, none⟩), .int .i64 n, .pointer (some ⟨b, 0, none⟩), .pointer (some ⟨bf, 0, none⟩), x10, x11, .slice ao n c, .int .i64 n, u14, u15, u16, u17, u18, u19, u20, u21, .pointer (some ⟨b, 1, none⟩), .slice (some ⟨gC, 0, none⟩) N N, .pointer (some ⟨gC, 0, none⟩), x25, x26, x27, x28, x29, x30, x31, x32, x33, x34, x35, x36, x37, x38, x39, x40, x41, x42, x43, x44, x45, x46, x47, x48, x49, x50, x51, x52, x53, x54, x55, x56, x57, x58, undef], defers := Ds.map mark })
      (fun a' w' => 300 - (boxed w' (a'.tmps.getD 9 undef)).toNat) ?_ ?_
    · exact ⟨1, bf0, [], _, _, _, _, _, _, _, _, _, _, _, _, _, _, _, _, _, _, _, _, _, _, _, _, _, _, _, _, _, _, _, _, _, _, _, _, hst, rfl⟩
    rintro a' wr ⟨F, bf, Ds, x10, x11, x25, x26, x27, x28, x29, x30, x31, x32, x33, x34, x35, x36, x37, x38, x39, x40, x41, x42, x43, x44, x45, x46, x47, x48, x49, x50, x51, x52, x53, x54, x55, x56, x57, x58, ⟨⟨hF1, hFN⟩, hL, ⟨cF, fF⟩, ⟨hb1, hb2, hb3⟩, hbw, hmk2⟩, rfl⟩
    obtain ⟨ds, hds⟩ : ∃ ds, ds = Ds.map mark := ⟨_, rfl⟩
    rw [← hds]
    have hds' := Lib.hid hds
    clear hds
    have hbx1 := Lib.hid (show boxed wr (.pointer (some ⟨bf, 0, none⟩)) = (F : Int) by unfold boxed; simp only [cF])
    by_cases hlt : F ≤ M
    · have hlt2 : ((F : Int) ≤ (M : Int)) := by omega
      go_wp2_with fail
      go_quiet ((go_at_call 67; exact Calls.quiet_of_same (qs (hfst'.out _))))
      go_wp2_with fail
      have hb5 := below_drewN (Below.refl wr.heap.size wr) nq
      have hL5 := Lib.hid (hL.out.below hb5)
      have hbw5 := Lib.hid (hbw.out.trans (hb5.mono (by have := hbw.out.size; have := hBw.out; omega)))
      have hmk5 := Lib.hid (hmk2.out.below hb5)
      have cF5 := (hb5.cell (p := ⟨bf, 0, none⟩) hb3).trans cF
      have fF5 := (hb5.frozen (p := ⟨bf, 0, none⟩) hb3).trans fF
      have hb35 := Nat.lt_of_lt_of_le hb3 hb5.size
      obtain ⟨wi, hwi⟩ : ∃ wi, wi = World.drewN wr nq := ⟨_, rfl⟩
      rw [← hwi] at hL5 hbw5 hmk5 cF5 fF5 hb35 ⊢
      clear hwi hL hbw hmk2 cF fF hb3 hb5
      have hF256 : F < 256 := by have := hNM'.out; omega
      have hF8 : F < 2 ^ n := by have := hN'.out; have := hNM'.out; omega
      have hz := szS_sz hF8 hn8
      have hz1 := sz_le n F
      have hz2 : 0 < szS F := by
        rcases Nat.eq_zero_or_pos (szS F) with e | e
        · have := (szS_zero F (by omega)).1 e; omega
        · exact e
      obtain ⟨z, hzq⟩ : ∃ z, z = szS F := ⟨_, rfl⟩
      have hzn : z ≤ n := by omega
      have hz0 : 0 < z := by omega
      have hsz := Lib.hid (fun (W : World) => qs (size64 (w := W) (S := F) (by omega)))
      rw [← hzq] at hsz
      have hzq' := Lib.hid hzq
      clear hz hz1 hz2 hzq
      have c0 := hL5.out.cell0
      have c1 := hL5.out.cell1
      have cA := hL5.out.2.1.cell (j := n - z) (by omega)
      have hA := hal.out (n - z) (by omega)
      obtain ⟨A, hAq⟩ : ∃ A, A = al.getD (n - z) 0 := ⟨_, rfl⟩
      rw [← hAq] at cA hA
      have hA8 : A < 256 := by rw [hA]; exact maskTo_lt (n := 8) _ hn8
      have hA' := Lib.hid hA
      have hand := and_tab (S := F) (T := A) (by omega) hA8
      obtain ⟨C, hC⟩ : ∃ C, C = F &&& A := ⟨_, rfl⟩
      rw [← hC] at hand
      have hC' := Lib.hid hC
      have hC8 : C < 256 := by rw [hC]; exact Nat.lt_of_le_of_lt Nat.and_le_left (by omega)
      have v1 : IntKind.i64.wrap ((n : Int) - (z : Int)) = (n : Int) - (z : Int) := IntWalk.i64_in _ (by omega)
      have v2 : (0 : Int) ≤ (n : Int) - (z : Int) := by omega
      have v3 : ((n : Int) - (z : Int)).toNat = n - z := by omega
      have v4 : (n : Int) - (z : Int) < (n : Int) := by omega
      clear hAq hA hC
      go_quiet ((go_at_call 64; exact Calls.quiet_of_same (hsz.out _)))
      go_wp2_with fail
      have hb6 := below_drewN (Below.refl wi.heap.size wi) nq
      have hL6 := Lib.hid (hL5.out.below hb6)
      have hbw6 := Lib.hid (hbw5.out.trans (hb6.mono (by have := hbw5.out.size; have := hBw.out; omega)))
      have hmk6 := Lib.hid (hmk5.out.below hb6)
      have cF6 := (hb6.cell (p := ⟨bf, 0, none⟩) hb35).trans cF5
      have fF6 := (hb6.frozen (p := ⟨bf, 0, none⟩) hb35).trans fF5
      have hb36 := Nat.lt_of_lt_of_le hb35 hb6.size
      obtain ⟨wj, hwj⟩ : ∃ wj, wj = World.drewN wi nq := ⟨_, rfl⟩
      rw [← hwj] at hL6 hbw6 hmk6 cF6 fF6 hb36 ⊢
      clear hwj hL5 hbw5 hmk5 cF5 fF5 hb35 hb6 c0 c1 cA hand v1 v2 v3 v4
      have hCb : ∀ j, C.testBit j = (F.testBit j && (decide (j < n) && okM cs lo hi (n - z) j)) := fun j => by
        rw [hC'.out, Nat.testBit_and, hA'.out, maskTo_bit]
      have hall := Lib.hid (preS_all (ok := okM cs lo hi) (n := n) (F := F) (C := C) hn8 (by rw [← hzq'.out]; omega) (by rw [← hzq'.out]; exact hCb))
      have hCb' := Lib.hid hCb
      have hwj1 : B ≤ wj.heap.size := by have := hbw6.out.size; have := hBw.out; omega
      have hTl := cwT_len (okM cs lo hi) n F
      have hTl' := Lib.hid (show F < (cwT (okM cs lo hi) n F).length by rw [hTl]; exact hF8)
      clear hCb hTl
      refine wpIn_wide.1 (wpIn_each (n := 9) (by omega) hC8 (by rfl) rfl
        (fun k W => (Hid (Lst W B b gA gC n N al ((cwT (okM cs lo hi) n F).set F ((preS (okM cs lo hi) n F (bl C) k : Nat) : Int))) ∧ (W.cell? ⟨bf, 0, none⟩ = some (.int .u64 (F : Int)) ∧ W.frozen? ⟨bf, 0, none⟩ = false) ∧ Hid (Marks W B Ds) ∧ wj.heap.size ≤ W.heap.size) ∧ Hid (Below B w1 W)) ?hI ?h0
        (fun x => { tmps := #[.slice ao n c, .int .i64 lo, .int .i64 hi, undef, undef, undef, .pointer (some ⟨s, 0, none⟩), .int .i64 n, .pointer (some ⟨b, 0, none⟩), .pointer (some ⟨bf, 0, none⟩), .int .u64 C, .int .i64 x, .slice ao n c, .int .i64 n, u14, u15, u16, u17, u18, u19, u20, u21, .pointer (some ⟨b, 1, none⟩), .slice (some ⟨gC, 0, none⟩) N N, .pointer (some ⟨gC, 0, none⟩), .int .u64 F, .int .i64 n, .int .u64 M, .bool true, x29, x30, .int .u64 F, .pointer (some ⟨b, 0, none⟩), .slice (some ⟨gA, 0, none⟩) n n, .int .i64 n, .int .u64 F, .int .i64 z, .int .i64 ((n : Int) - z), .pointer (some ⟨gA, n - z, none⟩), .int .u64 A, .int .u64 C, .int .u64 C, .func (.func 78) #[.int .u64 C] #[], .int .i64 x, x44, x45, x46, x47, x48, x49, x50, x51, x52, x53, x54, x55, x56, x57, x58, undef], defers := [] }) ?assign ?body ?done)
      case hI =>
        intro k W W' row hs hg hr
        have hr2 : ∀ r, row = some r → ∃ o : Obj, W.heap[r]? = some o ∧ o.isCells = false := fun r e => (hr r e).2
        refine ⟨⟨Lib.hid (hs.1.1.out.kept hg hr2), ⟨cell_kept hs.1.2.1.1 hg hr2, (frozen_kept hs.1.2.1.1 hg hr2).trans hs.1.2.1.2⟩, Lib.hid (hs.1.2.2.1.out.kept (fun D hD => hmk6.out.lt hD) hg (fun r e => (hr r e).1)), Nat.le_trans hs.1.2.2.2 hg.size⟩, Lib.hid (hs.2.out.grown hg (by have := hs.1.2.2.2; omega) (fun r e => by have := (hr r e).1; omega))⟩
      case h0 =>
        refine ⟨⟨Lib.hid ?_, ⟨cF6, fF6⟩, hmk6, Nat.le_refl _⟩, hbw6⟩
        show Lst wj B b gA gC n N al ((cwT (okM cs lo hi) n F).set F 0)
        rw [cwT_same]; exact hL6.out
      case assign =>
        intro l x W K hK
        gi_wp2
        exact hK
      case body =>
        rintro l k x W ⟨⟨hLs, ⟨cf, ff⟩, hmk3, hszW⟩, hbW⟩ hx
        have h1 : 1 ≤ 9 - 1 - 1 := by omega
        obtain ⟨hx8, hxb⟩ := bl_mem hx
        have hxF : F.testBit x = true := by
          have := hCb'.out x
          rw [hxb] at this
          simp only [Bool.true_eq, Bool.and_eq_true] at this
          exact this.1
        obtain ⟨hq1, hq2⟩ := szS_clr F hF256 x hx8 hxF
        have hpre := preS_succ (okM cs lo hi) n F (bl C) k x hx
        have hpb := preS_bd (okM cs lo hi) hn8 F C k
        have hpb2 := preS_bd (okM cs lo hi) hn8 F C (k + 1)
        have c0 := hLs.out.cell0
        have c1 := hLs.out.cell1
        have cT := hLs.out.2.2.1.cell (j := clr F x) (by have := hNM'.out; omega)
        rw [set_not (by omega), cwT_at _ _ _ _ hq2 (by omega), show szS (clr F x) = szS F - 1 by omega] at cT
        have cS := hLs.out.2.2.1.cell (j := F) (by have := hNM'.out; omega)
        rw [set_at hTl'.out] at cS
        have fS := hLs.out.2.2.1.frozen F
        obtain ⟨Y, hY⟩ : ∃ Y, Y = cw (okM cs lo hi) n (szS F - 1) (clr F x) := ⟨_, rfl⟩
        obtain ⟨P, hP⟩ : ∃ P, P = preS (okM cs lo hi) n F (bl C) k := ⟨_, rfl⟩
        rw [← hY] at cT hpre
        rw [← hP] at cS hpre hpb
        rw [hpre] at hpb2
        have hpre' := Lib.hid hpre
        obtain ⟨T, hT⟩ : ∃ T, T = clr F x := ⟨_, rfl⟩
        have hwo := Lib.hid (fun (W : World) => qs (without79 (w := W) hF256 hx8))
        rw [← hT] at cT hq2 hwo
        have hTN : T < N := by have := hNM'.out; omega
        have hFN2 : F < N := by have := hNM'.out; omega
        have s1 : IntKind.i64.wrap ((P : Int) + (Y : Int)) = (P : Int) + (Y : Int) := IntWalk.i64_in _ (by omega)
        have hset := Lib.hid (hLs.out.set F ((P : Int) + (Y : Int)))
        have hbset := Lib.hid (below_set (k := F) (u := .int .i64 ((P : Int) + (Y : Int))) hbW.out (show B ≤ gC from hLs.out.2.2.1.lt.1))
        clear hY hP hpre hT hxF hxb hq1
        gi_wp2_with fail
        refine inRound_still_tail 14 (by kernel_rfl) (by kernel_rfl) (by kernel_rfl) ?_
        simp only [List.take_succ_cons, List.take_zero, List.drop_succ_cons, List.drop_zero]
        change wpStill _ _ W.drew _ _ _
        iterate 9 still_step
        still_call (hwo.out _)
        iterate 4 still_step
        refine wpStill_nil ?_
        go_wp2_with fail
        refine ⟨((KeepsOthers.setCell W _ _).trans (KeepsOthers.drew _)).from _, ⟨⟨Lib.hid ?_, ⟨?_, ?_⟩, Lib.hid ?_, ?_⟩, Lib.hid hbset.out.drew⟩⟩
        · have h5 := hset.out
          rw [List.set_set, show (P : Int) + (Y : Int) = ((preS (okM cs lo hi) n F (bl C) (k + 1) : Nat) : Int) by rw [hpre'.out]; omega] at h5
          rw [show (P : Int) + (Y : Int) = ((preS (okM cs lo hi) n F (bl C) (k + 1) : Nat) : Int) by rw [hpre'.out]; omega]
          exact h5.below (Below.refl _ _).drew
        · show (W.setCell _ _).cell? _ = _
          exact (World.cell?_setCell_other _ _ _ _ (by intro e; simp only [Addr.mk.injEq] at e; exact hb1 e.1.symm)).trans cf
        · show (W.setCell _ _).frozen? _ = _
          rw [World.frozen?_setCell]; exact ff
        · exact (hmk3.out.set _ _).below (Below.refl _ _).drew
        · show wj.heap.size ≤ (W.setCell _ _).heap.size
          simpa using hszW
      case done =>
        rintro D W hD ⟨⟨hLs, ⟨cf, ff⟩, hmk3, hszW⟩, hbW⟩ hK
        have hLs2 := hLs.out
        rw [hall.out, cwT_next] at hLs2
        have hLs3 := Lib.hid hLs2
        have s2 : IntKind.u64.wrap ((F : Int) + 1) = (F : Int) + 1 := IntWalk.u64_in _ (by omega)
        have hmk4 := Lib.hid (hmk3.out.cons (N := wj.heap.size) (fun E hE => hmk6.out.lt hE) hD (by omega) hK)
        have hbx2 := cell_new_e W (.int .u64 ((F : Int) + 1)) 91
        have hbx3 := Lib.hid (show boxed (W.alloc (.cells #[.int .u64 ((F : Int) + 1)] 91)) (.pointer (some ⟨W.heap.size, 0, none⟩)) = (F : Int) + 1 by unfold boxed; simp only [hbx2.1])
        have hfin := Lib.hid (show TabAt w1 (W.alloc (.cells #[.int .u64 ((F : Int) + 1)] 91)) B b gA gC n N (okM cs lo hi) al (F + 1) W.heap.size (D :: Ds) from
          ⟨⟨by omega, by have := hNM'.out; omega⟩, Lib.hid (hLs3.out.below (below_alloc1 _ _)), hbx2, ⟨by have := hLs3.out.2.2.1.lt.2; omega, by omega, by simp⟩, Lib.hid (hbW.out.alloc (by omega) _), Lib.hid (hmk4.out.below (below_alloc1 _ _))⟩)
        clear hLs hLs2 hK hbx2
        go_wp2_with fail
        refine ⟨⟨F + 1, W.heap.size, D :: Ds, _, _, _, _, _, _, _, _, _, _, _, _, _, _, _, _, _, _, _, _, _, _, _, _, _, _, _, _, _, _, _, _, _, _, _, _, hfin.out, by rw [hds'.out]; rfl⟩, ?_⟩
        show 300 - (boxed (W.alloc _) (.pointer _)).toNat < 300 - (boxed wr (.pointer _)).toNat
        rw [hbx3.out, hbx1.out]
        omega
    · have hlt2 : ((F : Int) ≤ (M : Int)) = False := by simp; omega
      have hFN : F = N := by have := hNM'.out; omega
      subst hFN
      have hlt3 : decide ((F : Int) ≤ (M : Int)) = false := by simp; omega
      go_wp2_with fail
      go_quiet ((go_at_call 67; exact Calls.quiet_of_same (qs (hfst'.out _))))
      have hb5 := below_drewN (Below.refl wr.heap.size wr) nq
      have hL5 := Lib.hid (hL.out.below hb5)
      have hbw5 := Lib.hid (hbw.out.trans (hb5.mono (by have := hbw.out.size; have := hBw.out; omega)))
      have hmk5 := Lib.hid (hmk2.out.below hb5)
      obtain ⟨wi, hwi⟩ : ∃ wi, wi = World.drewN wr nq := ⟨_, rfl⟩
      rw [← hwi] at hL5 hbw5 hmk5 ⊢
      clear hwi hL hbw hmk2 cF fF hb3 hb5
      have c0 := hL5.out.cell0
      have c1 := hL5.out.cell1
      have hsB : s < B := by have := hB'.out; omega
      have hq := hbw5.out.block s hsB
      rw [hblk'.out] at hq
      have cs0 : wi.cell? ⟨s, 0, none⟩ = some (.slice none 0 0) := by simp [World.cell?, hq]
      have cs1 : wi.cell? ⟨s, 1, none⟩ = some (.slice none 0 0) := by simp [World.cell?, hq]
      have fs0 : wi.frozen? ⟨s, 0, none⟩ = false := by simp [World.frozen?, hq]
      have fs1 : wi.frozen? ⟨s, 1, none⟩ = false := by simp [World.frozen?, hq]
      clear hq
      go_wp2_with fail
      have hcc := set2_cells (u := .slice (some ⟨gA, 0, none⟩) n n) (v := .slice (some ⟨gC, 0, none⟩) F F) cs0 cs1
      have hgA := hL5.out.2.1.lt
      have hgC := hL5.out.2.2.1.lt
      have hsw := hs'.out
      have hAr : SRow ((wi.setCell ⟨s, 0, none⟩ (.slice (some ⟨gA, 0, none⟩) n n)).setCell ⟨s, 1, none⟩ (.slice (some ⟨gC, 0, none⟩) F F)) w.heap.size gA n (alwL cs lo hi n) := by
        rw [← hal3.out]; exact ((hL5.out.2.1.other (by omega)).other (by omega)).base (by omega)
      have hCr : Row ((wi.setCell ⟨s, 0, none⟩ (.slice (some ⟨gA, 0, none⟩) n n)).setCell ⟨s, 1, none⟩ (.slice (some ⟨gC, 0, none⟩) F F)) w.heap.size gC F (cwT (okM cs lo hi) n F) :=
        ((hL5.out.2.2.1.other (by omega)).other (by omega)).base (by omega)
      have hbr : Below w.heap.size w ((wi.setCell ⟨s, 0, none⟩ (.slice (some ⟨gA, 0, none⟩) n n)).setCell ⟨s, 1, none⟩ (.slice (some ⟨gC, 0, none⟩) F F)) := by
        have h1 := hb01'.out
        rw [hsw] at h1
        have h2 := hbw5.out.mono (show w.heap.size ≤ B by omega)
        exact below_set (below_set (h1.trans h2) (by omega)) (by omega)
      have hmr := (hmk5.out.set ⟨s, 0, none⟩ (.slice (some ⟨gA, 0, none⟩) n n)).set ⟨s, 1, none⟩ (.slice (some ⟨gC, 0, none⟩) F F)
      show LeavesInM _ _ _ _ _ _ _ _ _
      rw [hds'.out]
      refine leaves_marks B (fun W => (W.cell? ⟨s, 0, none⟩ = some (.slice (some ⟨gA, 0, none⟩) n n) ∧ W.cell? ⟨s, 1, none⟩ = some (.slice (some ⟨gC, 0, none⟩) F F)) ∧ SRow W w.heap.size gA n (alwL cs lo hi n) ∧ Row W w.heap.size gC F (cwT (okM cs lo hi) n F) ∧ Below w.heap.size w W) ?_ ?_ Ds _ ⟨hcc, hAr, hCr, hbr⟩ hmr
      · rintro W D ⟨⟨k0, k1⟩, kA, kC, kb⟩ hD hK
        have hg := grownBy_putObj' W D (.deferred none)
        have hr : ∀ r, some D = some r → ∃ o : Obj, W.heap[r]? = some o ∧ o.isCells = false := fun r e => by cases e; exact ⟨_, hK, rfl⟩
        exact ⟨⟨cell_kept k0 hg hr, cell_kept k1 hg hr⟩, kA.kept hg hr, kC.kept hg hr, below_put kb (by omega) hK⟩
      · rintro W ⟨⟨k0, k1⟩, kA, kC, kb⟩
        refine ⟨.agg #[.slice (some ⟨gA, 0, none⟩) n n, .slice (some ⟨gC, 0, none⟩) F F], ?_, gA, gC, rfl, kA, kC, hL5.out.2.2.2.1, kb⟩
        simp [results, Try.results70, go_sem, k0, k1]
end Go.Proofs.Ytfobdlllghpelaa
