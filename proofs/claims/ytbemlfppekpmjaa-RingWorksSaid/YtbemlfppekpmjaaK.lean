import Derived.Test.YtbemlfppekpmjaaJ
namespace Go.Proofs.Ytbemlfppekpmjaa
open Go.RowKit Rng
def RepEnd (w : World) (n : Nat) (e : Ending) (w' : World) : Prop := ∃ g, e = .returned (.slice (some ⟨g, 0, none⟩) n n) ∧ OwnH w' w.heap.size (.slice (some ⟨g, 0, none⟩) n n) (List.replicate n H0) ∧ Below w.heap.size w w'
set_option maxHeartbeats 2000000 in
set_option maxRecDepth 100000 in
theorem repeat51 {w : World} {p cx n : Nat} (hx : ∀ j u, (encH H0)[j]? = some u → w.cell? ⟨p, j, none⟩ = some u) (hp : p < w.heap.size) (hn1 : 1 ≤ n) (hn10 : n ≤ 10) :
    Calls Try.prog 51 #[.slice (some ⟨p, 0, none⟩) 1 cx, .int .i64 n] w (RepEnd w n) := by
  have hm := Lib.hid (fun (W : World) => mul76 (w := W) (n : Int) (by omega))
  have hb0 := Lib.hid (Below.refl w.heap.size w)
  have hsz := Lib.hid (Nat.le_refl w.heap.size)
  have hx' := Lib.hid hx
  have hp' := Lib.hid hp
  clear hx hp
  go_enter Try.func51, Try.ntmps51
  go_wp2_with (first
    | (go_at_call 76; refine (hm.out _).mono ?_; rintro e wj ⟨rfl, rfl⟩)
    | (at_make; refine make_hands (B := w.heap.size) n (by omega) hsz.out rfl _ _ rfl rfl rfl ?_; intro w1 hO1 hb1 hs1 hk1
       have hO1' := Lib.hid hO1
       have hb1' := Lib.hid hb1
       clear hO1 hs1 hk1 hb1)
    | (refine wpList_copy_hands (B := w.heap.size) (c := 0) (k := 1) (n := n) rfl _ _ rfl hO1'.out rfl (by omega) (by rw [Nat.sub_zero]; exact Nat.min_eq_left hn1) (ad := ⟨p, 0, none⟩) ?_ rfl rfl ?_
       · intro j u hu
         rw [Addr.add_lit, Nat.zero_add]
         exact (hb1'.out.cell (p := ⟨p, j, none⟩) hp'.out).trans (hx'.out j u (by simpa [flat] using hu))
       intro w2 hw2 hO2
       have hO2' := Lib.hid hO2
       have hb2' := Lib.hid (show Below w.heap.size w w2 by rw [hw2]; exact below_setCells (Nat.le_refl _) _ _ hb1'.out)
       clear hw2 hO2))
  obtain ⟨g, hg⟩ : ∃ g, g = w.heap.size := ⟨_, rfl⟩
  have hO2' := hO2'
  rw [Nat.zero_add] at hO2'
  have hgB := Lib.hid hg
  rw [← hg] at hO2' hb2' ⊢
  clear hg
  go_loopw [8] (fun cv wr => ∃ c : Nat, 1 ≤ c ∧ c ≤ n ∧ cv = .int .i64 c ∧ Hid (OwnH wr g (.slice (some ⟨g, 0, none⟩) n n) (rc n c)) ∧ Hid (Below g w wr)) (fun cv _ => n - (intOf cv).toNat)
  case atStart => exact ⟨1, Nat.le_refl _, hn1, rfl, hO2', hb2'⟩
  case round =>
    obtain ⟨c, hc1, hcn, rfl, hO, hb⟩ := hrel
    by_cases hlt : c < n
    · obtain ⟨k, hk, hk1, hk2, hk3⟩ : ∃ k, Nat.min c (n - c) = k ∧ 1 ≤ k ∧ c + k ≤ n ∧ k ≤ c :=
        ⟨Nat.min c (n - c), rfl, Nat.le_min.2 ⟨hc1, by omega⟩, by show c + min c (n - c) ≤ n; omega, Nat.min_le_left _ _⟩
      have hk' := Lib.hid hk
      clear hk
      have hnc : ¬ n = c := by omega
      have hsrc := Lib.hid (show ∀ j v, (flat encH (List.replicate k H0))[j]? = some v → wr.drew.cell? ((⟨g, 0, none⟩ : Addr).add j) = some v from fun j v hv => by
        have hj := (List.getElem?_eq_some_iff.1 hv).1
        rw [flat_len encH_len, List.length_replicate] at hj
        obtain ⟨_, _, e, _, h⟩ := own_cells hO.out
        obtain ⟨g', e2, _, _, hcl⟩ := h (by rw [rc_len hcn]; omega)
        obtain rfl : g = g' := by
          injection e with e _ _
          rw [← e] at e2; injection e2 with e2; injection e2
        rw [Addr.add_lit, Nat.zero_add]
        refine hcl j v ?_
        rw [← hv]
        unfold rc
        rw [flat_app, List.getElem?_append_left (by rw [flat_len encH_len, List.length_replicate]; omega)]
        have e : j = (j / 3) * 3 + j % 3 := by omega
        rw [e, flat_at encH_len _ (j / 3) (j % 3) (by rw [List.length_replicate]; omega) (by omega), flat_at encH_len _ (j / 3) (j % 3) (by rw [List.length_replicate]; omega) (by omega)]
        simp)
      have hcI : (c : Int) < (n : Int) := by omega
      have hcle : c ≤ n := hcn
      go_wp2_with fail
      go_region_law (refine step_copy_hands (sLen := c) (sCap := n) (dCap := n - c) (p := c * 3) (w := wr.drew) (B := g) (c := c) (k := k) (n := n) rfl (.tmp 41) (.tmp 44) rfl hO.out rfl hk2 hk'.out (ad := ⟨g, 0, none⟩) hsrc.out (by simp [Act.eval, Act.put]) (by simp [Act.eval, Act.put]) ?_; intro w2 hw2 hO2; have hO3 := Lib.hid hO2; have hb3 := Lib.hid (show Below g w w2 by rw [hw2]; exact below_setCells (Nat.le_refl _) _ _ hb.out.drew); clear hw2 hO2)
      go_wp2_with fail
      have hw : IntKind.i64.wrap ((c : Int) + (k : Int)) = ((c + k : Nat) : Int) := by rw [IntWalk.i64_in _ (by omega)]; omega
      refine ⟨⟨.int .i64 (((c + k : Nat)) : Int), .int .i64 c, .slice (some ⟨g, 0, none⟩) n n, .int .i64 n, .bool true, .int .i64 c, .slice (some ⟨g, 0, none⟩) n n, .int .i64 c, .slice (some ⟨g, c * 3, none⟩) (n - c) (n - c), .slice (some ⟨g, 0, none⟩) n n, .int .i64 c, .slice (some ⟨g, 0, none⟩) c n, .int .i64 k, .int .i64 (((c + k : Nat)) : Int), ⟨c + k, by omega, hk2, rfl, hO3, hb3⟩, ?_⟩, ?_⟩
      · rw [← hw]; rfl
      · show n - (intOf (.int .i64 (IntKind.i64.wrap ((c : Int) + (k : Int))))).toNat < n - (intOf (.int .i64 (c : Int))).toNat
        rw [hw]; simp [intOf]; omega
    · obtain rfl : c = n := by omega
      go_wp2_with fail
      go_ret
      refine ⟨g, rfl, ?_, ?_⟩
      · rw [← hgB.out]
        have := hO.out
        unfold rc at this
        rw [Nat.sub_self, List.replicate_zero, List.append_nil] at this
        exact this
      · rw [← hgB.out]; exact hb.out
theorem repl_set {n : Nat} : WS.start n = ⟨(List.replicate n H0).set 0 ⟨true, (H0).par, (H0).owed⟩, []⟩ := rfl
/-- What Begin answers. -/
def BegEnd (w : World) (n : Nat) (e : Ending) (w' : World) : Prop := ∃ b h c, e = .returned (.tuple #[.pointer (some ⟨b, 0, none⟩), .int .i64 0]) ∧ WkAt w' w.heap.size b h c (.slice none 0 0) (WS.start n) ∧ Below w.heap.size w w'
set_option maxHeartbeats 2000000 in
set_option maxRecDepth 100000 in
theorem beginBad {w : World} (n : Int) (h : inB (n - 1) 10 = false) : Calls Try.prog 15 #[.int .i64 n] w fun e w' => e = .returned (.tuple #[.pointer none, .int .i64 1]) ∧ w = w' := by
  by_cases h1 : n < 1
  · go_enter Try.func15, Try.ntmps15
    go_wp2
    go_ret2
    exact ⟨rfl, rfl⟩
  · have h2 : (10 : Int) < n := by simp [inB] at h; omega
    go_enter Try.func15, Try.ntmps15
    go_wp2
    go_ret2
    exact ⟨rfl, rfl⟩
set_option maxHeartbeats 2000000 in
set_option maxRecDepth 100000 in
theorem begin15 {w : World} {n : Nat} (hn1 : 1 ≤ n) (hn10 : n ≤ 10) : Calls Try.prog 15 #[.int .i64 n] w (BegEnd w n) := by
  have hb1 := Lib.hid (below_alloc1 w (.cells #[.bool false, .int .i64 (-1), .int .i64 0] 98))
  have hg := heap_alloc_new w (.cells #[.bool false, .int .i64 (-1), .int .i64 0] 98)
  have hrep := Lib.hid (repeat51 (w := w.alloc (.cells #[.bool false, .int .i64 (-1), .int .i64 0] 98)) (p := w.heap.size) (cx := 1) (n := n) (fun j u hu => by
    have hj := (List.getElem?_eq_some_iff.1 hu).1
    have hj3 : j < 3 := hj
    rcases (show j = 0 ∨ j = 1 ∨ j = 2 by omega) with rfl | rfl | rfl
    · rw [cell_of_row _ _ 0 _ _ _ hg]; rw [← hu]; rfl
    · rw [cell_of_row _ _ 1 _ _ _ hg]; rw [← hu]; rfl
    · rw [cell_of_row _ _ 2 _ _ _ hg]; rw [← hu]; rfl) (by simp) hn1 hn10)
  have hn1I : ¬ ((n : Int) < 1) := by omega
  have hnw := Lib.hid (fun (W : World) (B h c : Nat) (hh : OwnH W B (.slice (some ⟨h, 0, none⟩) n c) (WS.start n).hs) => (by
    have hl : (WS.start n).n = n := by simp [WS.start, WS.n]
    have := new52 (S := WS.start n) (c := c) (fv := .slice none 0 0) (by rw [hl]; exact hh) (World.ownsRow_nil _ _ _ _) (by intro e; cases e)
    rw [hl] at this; exact this : Calls Try.prog 52 #[.slice (some ⟨h, 0, none⟩) n c, .slice none 0 0] W (fun e w' => e = .returned (.pointer (some ⟨W.heap.size, 0, none⟩)) ∧ (B ≤ W.heap.size → WkAt w' B W.heap.size h c (.slice none 0 0) (WS.start n)) ∧ Below W.heap.size W w')))
  clear hg
  go_enter Try.func15, Try.ntmps15
  go_wp2_with (first
    | (go_at_call 51; refine hrep.out.mono ?_; rintro e w1 ⟨g, rfl, hO, hb⟩
       have hb2 := Lib.hid (hb1.out.trans (hb.mono hb1.out.size))
       have hcell : w1.cell? ⟨g, 0, none⟩ = some (.bool false) := by
         obtain ⟨_, _, e, _, h⟩ := own_cells hO
         obtain ⟨g', e2, _, _, hcl⟩ := h (by rw [List.length_replicate]; omega)
         obtain rfl : g = g' := by
           injection e with e _ _
           rw [← e] at e2; injection e2 with e2; injection e2
         refine hcl 0 _ ?_
         have := flat_at encH_len (List.replicate n H0) 0 0 (by rw [List.length_replicate]; omega) (by omega)
         rw [Nat.zero_mul, Nat.zero_add] at this
         rw [this, List.getElem_replicate]; rfl
       have hfz : w1.frozen? ⟨g, 0, none⟩ = false := by
         have := hO
         unfold OwnH at this
         rw [List.length_replicate] at this
         exact World.ownsRow.frozenAt this 0
       have hgl := Lib.hid (World.ownsRow.lt hO g rfl)
       have hS := Lib.hid (show OwnH (w1.setCell ⟨g, 0, none⟩ (.bool true)) (w.heap.size + 1) (.slice (some ⟨g, 0, none⟩) n n) (WS.start n).hs by
         have := OwnH.set (i := 0) (f := 0) (a := ⟨true, 0, 0⟩) (u := .bool true) hO (by rw [List.length_replicate]; omega) (by omega) (by
           rw [show (List.replicate n H0).getD 0 H0 = H0 by rw [List.getD_eq_getElem?_getD, List.getElem?_replicate]; split <;> rfl]; rfl)
         rw [Nat.zero_mul, Nat.zero_add, World.size_alloc] at this
         exact this)
       have hb3 := Lib.hid (below_set (k := 0) (u := .bool true) hb2.out (show w.heap.size ≤ g by have := hgl.out.1; rw [World.size_alloc] at this; omega))
       clear hO hb)
    | (go_at_call 52; refine (hnw.out _ _ _ _ hS.out).mono ?_; rintro e w3 ⟨rfl, kk, hb⟩
       have hb4 := Lib.hid (hb3.out.trans (hb.mono hb3.out.size))
       have hs1 := Lib.hid hgl.out.2
       have kk' := Lib.hid (kk (by have := hgl.out; rw [World.size_alloc] at this; simp; omega))
       clear kk hb))
  go_ret2
  refine ⟨w1.heap.size, g, n, rfl, ?_, hb4.out⟩
  have := kk'.out
  rw [show (w1.setCell ⟨g, 0, none⟩ (.bool true)).heap.size = w1.heap.size by simp] at this
  exact { this with Bb := by have := this.Bb; omega, hn := own_base this.hn (by omega), fl := own_base this.fl (by omega) }
end Go.Proofs.Ytbemlfppekpmjaa
