import Derived.Test.YtfobdlllghpelaaK
namespace Go.Proofs.Ytfobdlllghpelaa
open Go.RowKit Go.Shelf Pair

theorem SRow.keep {w w' : World} {B C g n : Nat} {xs : List Nat} (h : SRow w B g n xs) (hb : Below C w w') (hg : g < C) : SRow w' B g n xs := by
  refine ⟨⟨h.1.1, ?_⟩, h.2⟩
  rcases h.1.2 with hn | ⟨b, cap, cur, e, hB, hb', rest⟩
  · exact .inl hn
  · have e2 : g = b := by simp only [Value.slice.injEq, Option.some.injEq, Addr.mk.injEq, and_true, true_and] at e; exact e.1
    subst e2
    exact .inr ⟨g, cap, cur, e, hB, by rw [hb.block g hg]; exact hb', rest⟩
theorem Row.keep {w w' : World} {B C g n : Nat} {xs : List Int} (h : Row w B g n xs) (hb : Below C w w') (hg : g < C) : Row w' B g n xs := by
  refine ⟨⟨h.1.1, ?_⟩, h.2⟩
  rcases h.1.2 with hn | ⟨b, cap, cur, e, hB, hb', rest⟩
  · exact .inl hn
  · have e2 : g = b := by simp only [Value.slice.injEq, Option.some.injEq, Addr.mk.injEq, and_true, true_and] at e; exact e.1
    subst e2
    exact .inr ⟨g, cap, cur, e, hB, by rw [hb.block g hg]; exact hb', rest⟩
theorem Stays.refl (B : Nat) (W : World) : Stays B W W := ⟨Nat.le_refl _, fun _ _ _ => rfl⟩
theorem Stays.drew {B : Nat} {W W' : World} (h : Stays B W W') : Stays B W W'.drew := h
theorem Stays.set {B b i : Nat} {W W' : World} {u : Value} (h : Stays B W W') (hb : b < B) : Stays B W (W'.setCell ⟨b, i, none⟩ u) :=
  ⟨by simpa using h.1, fun g hg hl => by rw [heap_setCell_other W' ⟨b, i, none⟩ g _ (by show g ≠ b; omega)]; exact h.2 g hg hl⟩

/-- What the closure of 'at' leans on: the listing in a box, the number in another. -/
structure AtInv (w : World) (b br gA gC n N BA BC : Nat) (al : List Nat) (xs : List Int) (r : Nat) (W : World) : Prop where
  c0 : W.cell? ⟨b, 0, none⟩ = some (.slice (some ⟨gA, 0, none⟩) n n)
  c1 : W.cell? ⟨b, 1, none⟩ = some (.slice (some ⟨gC, 0, none⟩) N N)
  cr : W.cell? ⟨br, 0, none⟩ = some (.int .i64 (r : Int))
  fr : W.frozen? ⟨br, 0, none⟩ = false
  al : SRow W BA gA n al
  co : Row W BC gC N xs
  be : Below w.heap.size w W
  lt : r < 9223372036854775808

def AtPost (w : World) (b br gA gC n N BA BC : Nat) (al : List Nat) (xs : List Int) (B : Nat) (W : World) (d : Bool) (r : Nat) (e : Ending) (W' : World) : Prop :=
  e = .returned (.bool d) ∧ AtInv w b br gA gC n N BA BC al xs r W' ∧ Stays B W W'
theorem AtInv.drew {w W : World} {b br gA gC n N BA BC r : Nat} {al : List Nat} {xs : List Int} (h : AtInv w b br gA gC n N BA BC al xs r W) : AtInv w b br gA gC n N BA BC al xs r W.drew :=
  ⟨h.c0, h.c1, h.cr, h.fr, h.al.below (Below.refl _ _).drew, h.co.below (Below.refl _ _).drew, h.be.drew, h.lt⟩
theorem AtInv.set {w W : World} {b br gA gC n N BA BC r : Nat} {al : List Nat} {xs : List Int} (h : AtInv w b br gA gC n N BA BC al xs r W) (hbr : w.heap.size ≤ br) (hne : br ≠ gA ∧ br ≠ gC ∧ br ≠ b) (q : Nat) (hq : q < 9223372036854775808) :
    AtInv w b br gA gC n N BA BC al xs q (W.setCell ⟨br, 0, none⟩ (.int .i64 (q : Int))) :=
  ⟨(World.cell?_setCell_other _ _ _ _ (by intro e; simp only [Addr.mk.injEq] at e; exact hne.2.2 e.1)).trans h.c0, (World.cell?_setCell_other _ _ _ _ (by intro e; simp only [Addr.mk.injEq] at e; exact hne.2.2 e.1)).trans h.c1,
    World.cell?_setCell_same' _ _ _ (by rw [h.cr]; rfl), by rw [World.frozen?_setCell]; exact h.fr, h.al.other hne.1, h.co.other hne.2.1, below_set h.be hbr, hq⟩

set_option maxHeartbeats 2000000 in
set_option maxRecDepth 100000 in
theorem at86 {w W : World} {b br gA gC n N BA BC r i j T : Nat} {al : List Nat} {xs : List Int} {A Y : Nat} (h : AtInv w b br gA gC n N BA BC al xs r W) (hbr : w.heap.size ≤ br) (hne : br ≠ gA ∧ br ≠ gC ∧ br ≠ b) (B : Nat) (hbrB : br < B)
    (hi : i < n) (hT : T < N) (hA : al.getD i 0 = A) (hA8 : A < 256) (hY : xs.getD T 0 = (Y : Int)) (hY2 : Y ≤ 16777216) :
    Calls Try.prog 86 #[.int .i64 i, .int .i64 j, .int .u64 T, .pointer (some ⟨b, 0, none⟩), .pointer (some ⟨br, 0, none⟩)] W
      (AtPost w b br gA gC n N BA BC al xs B W (A.testBit j && decide (r < Y)) (if A.testBit j && !decide (r < Y) then r - Y else r)) := by
  have h' := Lib.hid h
  obtain ⟨c0, c1, cr, fr, hal, hco, hbe, hlt⟩ := h
  have cA := hal.cell hi
  rw [hA] at cA
  have cY := hco.cell hT
  rw [hY] at cY
  have hh := Lib.hid (fun (w : World) => has87 (w := w) (S := A) (j := j) hA8)
  clear hal hco hbe hA hY
  have hne' := Lib.hid hne
  clear hne
  by_cases hb : A.testBit j = true
  · rw [hb] at hh ⊢
    by_cases hr : r < Y
    · simp only [hr, decide_true, Bool.and_self, Bool.not_true, Bool.and_false, Bool.false_eq_true, if_false]
      clear hb
      go_enter Try.func86, Try.ntmps86
      go_wp2_with (first | (go_at_call 87; refine (hh.out _).mono ?_; rintro e w1 ⟨rfl, rfl⟩))
      go_region
      go_wp2
      go_ret
      exact ⟨rfl, h'.out.drew, (Stays.refl _ _).drew⟩
    · simp only [hr, decide_false, Bool.and_false, Bool.not_false, Bool.and_self, if_true]
      have hset := Lib.hid (h'.out.set hbr hne'.out (r - Y) (by omega))
      have hd : decide ((r : Int) < (Y : Int)) = false := by simp; omega
      have e3 : ((r - Y : Nat) : Int) = (r : Int) - (Y : Int) := by omega
      rw [e3] at hset
      have e4 : IntKind.i64.wrap ((r : Int) - (Y : Int)) = (r : Int) - (Y : Int) := IntWalk.i64_in _ (by omega)
      have hst := Lib.hid ((Stays.refl B W).set (b := br) (i := 0) (u := .int .i64 ((r : Int) - (Y : Int))) hbrB)
      obtain ⟨R, hR⟩ : ∃ R, R = r - Y := ⟨_, rfl⟩
      rw [← hR] at hset ⊢
      clear hb e3 hR
      go_enter Try.func86, Try.ntmps86
      go_wp2_with (first | (go_at_call 87; refine (hh.out _).mono ?_; rintro e w1 ⟨rfl, rfl⟩))
      go_region
      go_wp2
      go_region
      go_wp2
      go_ret
      exact ⟨rfl, hset.out.drew.drew, hst.out.drew.drew⟩
  · have hb : A.testBit j = false := by simpa using hb
    rw [hb] at hh ⊢
    simp only [Bool.false_and, Bool.false_eq_true, if_false]
    clear hb
    go_enter Try.func86, Try.ntmps86
    go_wp2_with (first | (go_at_call 87; refine (hh.out _).mono ?_; rintro e w1 ⟨rfl, rfl⟩))
    go_ret
    exact ⟨rfl, h'.out, Stays.refl _ _⟩

theorem cwT_full (ok : Nat → Nat → Bool) {n S : Nat} (hS : S < 2 ^ n) : (cwT ok n (2 ^ n)).getD S 0 = ((cw ok n (szS S) S : Nat) : Int) := cwT_at ok n (2 ^ n) S hS hS

def AtDone (w : World) (n : Nat) (o : Option (List Nat)) (e : Ending) (w' : World) : Prop := Found w' w.heap.size n o e ∧ Below w.heap.size w w'

set_option maxHeartbeats 2000000 in
set_option maxRecDepth 100000 in
theorem at72_neg {w : World} {gA gC n N : Nat} (r : Int) (hr : r < 0) :
    Calls Try.prog 72 #[.agg #[.slice (some ⟨gA, 0, none⟩) n n, .slice (some ⟨gC, 0, none⟩) N N], .int .i64 r] w (AtDone w n none) := by
  go_enter Try.func72, Try.ntmps72
  go_wp2
  go_ret
  exact ⟨rfl, ((Below.refl _ _).alloc (Nat.le_refl _) _).alloc (by simp) _⟩

set_option maxHeartbeats 4000000 in
set_option maxRecDepth 100000 in
theorem at72 {w : World} {BA BC gA gC n N : Nat} {cs : List (List Int)} {lo hi : Int} (hA : SRow w BA gA n (alwL cs lo hi n)) (hC : Row w BC gC N (cwT (okM cs lo hi) n N)) (hN : N = 2 ^ n) (hn1 : 1 ≤ n) (hn8 : n ≤ 8) (r : Nat) (hr : r < 9223372036854775808) :
    Calls Try.prog 72 #[.agg #[.slice (some ⟨gA, 0, none⟩) n n, .slice (some ⟨gC, 0, none⟩) N N], .int .i64 r] w (AtDone w n ((sufs (okM cs lo hi) n n (2 ^ n - 1))[r]?)) := by
  obtain ⟨wA, hwA⟩ : ∃ wA, wA = (w.alloc (.cells #[.slice (some ⟨gA, 0, none⟩) n n, .slice (some ⟨gC, 0, none⟩) N N] 98)).alloc (.cells #[.int .i64 (r : Int)] 3) := ⟨_, rfl⟩
  have hbA : Below w.heap.size w wA := by rw [hwA]; exact ((Below.refl _ _).alloc (Nat.le_refl _) _).alloc (by simp) _
  have hsA : wA.heap.size = w.heap.size + 2 := by rw [hwA]; simp
  have hc := box2_cells w gA gC n N
  have hb2 := below_alloc1 (w.alloc (box2 gA gC n N)) (.cells #[.int .i64 (r : Int)] 3)
  have hcr := cell_new_e (w.alloc (box2 gA gC n N)) (.int .i64 (r : Int)) 3
  simp only [World.size_alloc] at hcr
  have hinv : AtInv w w.heap.size (w.heap.size + 1) gA gC n N BA BC (alwL cs lo hi n) (cwT (okM cs lo hi) n N) r wA := by
    rw [hwA]
    refine ⟨(hb2.cell (p := ⟨_, 0, none⟩) (by simp)).trans hc.1, (hb2.cell (p := ⟨_, 1, none⟩) (by simp)).trans hc.2, hcr.1, hcr.2, (hA.below (below_alloc1 _ _)).below (below_alloc1 _ _), (hC.below (below_alloc1 _ _)).below (below_alloc1 _ _), by rw [← hwA]; exact hbA, hr⟩
  have hgA := hA.lt.2
  have hgC := hC.lt.2
  have hasks : Asks (decA (okM cs lo hi) n) (nxtA (okM cs lo hi) n) (AtInv w w.heap.size (w.heap.size + 1) gA gC n N BA BC (alwL cs lo hi n) (cwT (okM cs lo hi) n N)) wA.heap.size n 86 #[.pointer (some ⟨w.heap.size, 0, none⟩), .pointer (some ⟨w.heap.size + 1, 0, none⟩)] := by
    intro q W i j T hi' _ hin hj hT hz
    have hk : n - (i + 1) = szS T := by omega
    have hA8 : maskTo (okM cs lo hi i) n < 256 := maskTo_lt (n := 8) _ hn8
    have := at86 (B := wA.heap.size) (j := j) hi' (by omega) ⟨by omega, by omega, by omega⟩ (by omega) hin (T := T) (by rw [hN]; exact hT) (alwL_at hin) hA8 (by rw [hN]; exact cwT_full _ hT) (cw_bd8 _ hn8 (by omega) T)
    refine this.mono ?_
    rintro e W' ⟨rfl, h1, h2⟩
    have e1 : (maskTo (okM cs lo hi i) n).testBit j = okM cs lo hi i j := by rw [maskTo_bit]; simp [hj]
    rw [e1] at h1 ⊢
    refine ⟨?_, ?_, h2⟩
    · unfold decA; rw [hk]
    · unfold nxtA; rw [hk]; exact h1
  have hkeep : ∀ s W W', AtInv w w.heap.size (w.heap.size + 1) gA gC n N BA BC (alwL cs lo hi n) (cwT (okM cs lo hi) n N) s W → Below wA.heap.size W W' → AtInv w w.heap.size (w.heap.size + 1) gA gC n N BA BC (alwL cs lo hi n) (cwT (okM cs lo hi) n N) s W' := fun s W W' h hb =>
    ⟨(hb.cell (p := ⟨_, 0, none⟩) (by show w.heap.size < _; omega)).trans h.c0, (hb.cell (p := ⟨_, 1, none⟩) (by show w.heap.size < _; omega)).trans h.c1, (hb.cell (p := ⟨_, 0, none⟩) (by show w.heap.size + 1 < _; omega)).trans h.cr, (hb.frozen (p := ⟨_, 0, none⟩) (by show w.heap.size + 1 < _; omega)).trans h.fr,
      h.al.keep hb (by omega), h.co.keep hb (by omega), h.be.trans (hb.mono (by omega)), h.lt⟩
  have hs := Lib.hid (search80 hn1 hn8 86 #[.pointer (some ⟨w.heap.size, 0, none⟩), .pointer (some ⟨w.heap.size + 1, 0, none⟩)] (enters_of Try.func86 (by kernel_rfl) rfl) _ hkeep hasks r hinv)
  have hsr := Lib.hid (srchA (okM cs lo hi) n n (2 ^ n - 1) r (Nat.le_refl _) (Or.inl hn1))
  have hbA' := Lib.hid hbA
  have hwA' := Lib.hid hwA
  have hsA' := Lib.hid hsA
  clear hwA hbA hsA hc hb2 hcr hinv hgA hgC hasks hkeep hA hC hN
  rw [hsr.out] at hs
  obtain ⟨o, ho⟩ : ∃ o, o = (sufs (okM cs lo hi) n n (2 ^ n - 1))[r]? := ⟨_, rfl⟩
  rw [← ho] at hs ⊢
  have hr0 : 0 ≤ (r : Int) := by omega
  clear ho hsr
  cases o with
  | none =>
    go_enter Try.func72, Try.ntmps72
    go_wp2_with (first | (go_at_call 80; rw [← hwA'.out]; refine (hs.out).mono ?_; rintro e w2 ⟨s', hi2, rfl⟩))
    go_ret
    exact ⟨rfl, hi2.be⟩
  | some l =>
    go_enter Try.func72, Try.ntmps72
    go_wp2_with (first | (go_at_call 80; rw [← hwA'.out]; refine (hs.out).mono ?_; rintro e w2 ⟨s', hi2, g, rfl, hrow⟩))
    go_ret
    exact ⟨⟨g, rfl, hrow.base (by rw [hsA'.out]; omega)⟩, hi2.be⟩
end Go.Proofs.Ytfobdlllghpelaa
