import Derived.Test.YtfobdlllghpelaaL
namespace Go.Proofs.Ytfobdlllghpelaa
open Go.RowKit Go.Shelf Pair

/-- The least number below `N` at which a test holds; `N` if it holds at none. -/
def Least (p : Nat → Bool) (N m : Nat) : Prop := m ≤ N ∧ (∀ i, i < m → p i = false) ∧ (m < N → p m = true)
def Srchd (p : Nat → Bool) (N : Nat) (w : World) (e : Ending) (w' : World) : Prop := ∃ m : Nat, e = .returned (.int .i64 (m : Int)) ∧ Least p N m ∧ Below w.heap.size w w'

set_option maxHeartbeats 2000000 in
set_option maxRecDepth 100000 in
theorem search75 {w : World} {N : Nat} (hN : N ≤ 1000000) (kf : FuncId) (cap : Array Value) (eg : ∀ args w, (callFunc kf args).run Try.prog w = .ok (.enter kf args) w) (p : Nat → Bool) (hp : ∀ a b, a ≤ b → p a = true → p b = true)
    (hcall : ∀ (W : World) (m : Nat), Below w.heap.size w W → m < N → Calls Try.prog kf (#[.int .i64 m] ++ cap) W fun e W' => e = .returned (.bool (p m)) ∧ Below W.heap.size W W') :
    Calls Try.prog 75 #[.int .i64 N, .func (.func kf) #[] cap] w (Srchd p N w) := by
  have hcall' := Lib.hid hcall
  have hp' := Lib.hid hp
  clear hcall hp
  go_enter Try.func75, Try.ntmps75
  go_wp2
  go_loopw [5, 6] (fun iv jv wr => ∃ (i j : Nat), i ≤ j ∧ j ≤ N ∧ iv = .int .i64 i ∧ jv = .int .i64 j ∧ Hid (∀ x, x < i → p x = false) ∧ Hid (j < N → p j = true) ∧ Hid (Below w.heap.size w wr)) (fun iv jv _ => (intOf jv - intOf iv).toNat)
  case atStart => exact ⟨0, N, Nat.zero_le _, Nat.le_refl _, rfl, rfl, Lib.hid (fun x h => by omega), Lib.hid (fun h => by omega), Lib.hid (Below.refl _ _)⟩
  case round =>
    obtain ⟨i, j, hij, hjN, rfl, rfl, h1, h2, hb⟩ := hrel
    obtain ⟨wo, rfl⟩ : ∃ wo : World, wo = wr := ⟨_, rfl⟩
    by_cases hlt : i < j
    · obtain ⟨h, hh⟩ : ∃ h : Nat, h = (i + j) / 2 := ⟨_, rfl⟩
      have hh2 : ((i : Int) + (j : Int)) / 2 = (h : Int) := by omega
      have hi1 : i ≤ h := by omega
      have hi2 : h < j := by omega
      have hcl := Lib.hid (hcall'.out wo h hb.out (by omega))
      clear hh
      obtain ⟨d, hd⟩ : ∃ d, d = p h := ⟨_, rfl⟩
      rw [← hd] at hcl
      have hd' := Lib.hid hd
      clear hd
      cases d
      · go_wp2_with (first | (refine (hcl.out).mono ?_; rintro e w1 ⟨rfl, hb1⟩))
        go_roundw
        case rel => exact ⟨h + 1, j, by omega, hjN, by go_num, rfl, Lib.hid (fun x hx => by
          cases e : p x with
          | false => rfl
          | true => have := hp'.out x h (by omega) e; rw [← hd'.out] at this; exact absurd this (by decide)), h2, Lib.hid (below_call hb.out hb1)⟩
        case measure => simp [intOf]; omega
      · go_wp2_with (first | (refine (hcl.out).mono ?_; rintro e w1 ⟨rfl, hb1⟩))
        go_roundw
        case rel => exact ⟨i, h, by omega, by omega, rfl, rfl, h1, Lib.hid (fun _ => hd'.out.symm), Lib.hid (below_call hb.out hb1)⟩
        case measure => simp [intOf]; omega
    · obtain rfl : i = j := by omega
      go_wp2
      go_ret
      exact ⟨i, rfl, ⟨hjN, h1.out, h2.out⟩, hb.out⟩

theorem sum_le_sum {f g : Nat → Nat} : ∀ l : List Nat, (∀ j ∈ l, f j ≤ g j) → (l.map f).sum ≤ (l.map g).sum
  | [], _ => Nat.le_refl _
  | a :: l, h => by
    rw [List.map_cons, List.map_cons, List.sum_cons, List.sum_cons]
    have := sum_le_sum l fun j hj => h j (by simp [hj])
    have := h a (by simp)
    omega
theorem cw_mono {ok ok' : Nat → Nat → Bool} (n : Nat) (h : ∀ i j, ok i j = true → ok' i j = true) : ∀ k S, cw ok n k S ≤ cw ok' n k S
  | 0, _ => Nat.le_refl _
  | k + 1, S => by
    rw [cw, cw]
    refine sum_le_sum _ fun j _ => ?_
    by_cases e : (S.testBit j && ok (n - (k + 1)) j) = true
    · have e2 : (S.testBit j && ok' (n - (k + 1)) j) = true := by
        simp only [Bool.and_eq_true] at e ⊢; exact ⟨e.1, h _ _ e.2⟩
      rw [if_pos e, if_pos e2]; exact cw_mono n h k _
    · rw [if_neg e]; exact Nat.zero_le _
theorem okM_mono {cs : List (List Int)} {lo a b : Int} (h : a ≤ b) (i j : Nat) (he : okM cs lo a i j = true) : okM cs lo b i j = true := by
  unfold okM at he ⊢
  simp only [Bool.and_eq_true, decide_eq_true_eq] at he ⊢
  omega
/-- How many pairings there are whose costs are within limits. -/
def waysM (cs : List (List Int)) (lo hi : Int) (n : Nat) : Nat := cw (okM cs lo hi) n n (2 ^ n - 1)
theorem cwT_last (ok : Nat → Nat → Bool) {n : Nat} (hn : n ≤ 8) : (cwT ok n (2 ^ n)).getD (2 ^ n - 1) 0 = ((cw ok n n (2 ^ n - 1) : Nat) : Int) := by
  rw [cwT_full ok (by have := Nat.one_le_two_pow (n := n); omega), szS_full n hn]

/-- The listing of costs within limits. -/
def ListingAt (w w' : World) (cs : List (List Int)) (lo hi : Int) (n N : Nat) (v : Value) : Prop := ∃ gA gC, v = .agg #[.slice (some ⟨gA, 0, none⟩) n n, .slice (some ⟨gC, 0, none⟩) N N] ∧
  SRow w' w.heap.size gA n (alwL cs lo hi n) ∧ Row w' w.heap.size gC N (cwT (okM cs lo hi) n N)
theorem newListing70' {w : World} {v : Value} {cs : List (List Int)} {n N : Nat} (hv : Sq w v cs n) (hn1 : 1 ≤ n) (hn8 : n ≤ 8) (hN : N = 2 ^ n) (lo hi : Int) :
    Calls Try.prog 70 #[v, .int .i64 lo, .int .i64 hi] w fun e w' => ∃ gA gC, e = .returned (.agg #[.slice (some ⟨gA, 0, none⟩) n n, .slice (some ⟨gC, 0, none⟩) N N]) ∧ SRow w' w.heap.size gA n (alwL cs lo hi n) ∧ Row w' w.heap.size gC N (cwT (okM cs lo hi) n N) ∧ Below w.heap.size w w' := by
  subst hN
  refine (newListing70 hv hn1 hn8 lo hi).mono ?_
  rintro e w1 ⟨gA, gC, he, h1, h2, _, h4⟩
  exact ⟨gA, gC, he, h1, h2, h4⟩

set_option maxHeartbeats 2000000 in
set_option maxRecDepth 100000 in
theorem above76 {w : World} {ao : Option Addr} {c n : Nat} {cs : List (List Int)} (hv : Sq w (.slice ao n c) cs n) (hn1 : 1 ≤ n) (hn8 : n ≤ 8) (lo : Int) (bv bl m : Nat) (cv : w.cell? ⟨bv, 0, none⟩ = some (.slice ao n c)) (cl : w.cell? ⟨bl, 0, none⟩ = some (.int .i64 lo)) :
    Calls Try.prog 76 #[.int .i64 m, .pointer (some ⟨bv, 0, none⟩), .pointer (some ⟨bl, 0, none⟩)] w fun e w' => e = .returned (.bool (decide (0 < waysM cs lo m n))) ∧ Below w.heap.size w w' := by
  obtain ⟨N, hN⟩ : ∃ N, N = 2 ^ n := ⟨_, rfl⟩
  have hnl := Lib.hid (newListing70' hv hn1 hn8 hN lo (m : Int))
  have hN2 : 1 ≤ N := by rw [hN]; exact Nat.one_le_two_pow
  have hN3 : N ≤ 256 := by rw [hN]; exact pow_le n hn8
  have hct := Lib.hid (show (cwT (okM cs lo (m : Int)) n N).getD (N - 1) 0 = ((waysM cs lo m n : Nat) : Int) by rw [hN]; exact cwT_last _ hn8)
  clear hN hv
  obtain ⟨Y, hY⟩ : ∃ Y, Y = waysM cs lo m n := ⟨_, rfl⟩
  rw [← hY] at hct ⊢
  clear hY
  go_enter Try.func76, Try.ntmps76
  go_wp2_with (first | (go_at_call 70; refine (hnl.out).mono ?_; rintro e w1 ⟨gA, gC, rfl, hA, hC, hb1⟩) | (go_at_call 71; refine (count71 hC hN2 (by omega)).mono ?_; rw [hct.out]; rintro e w2 ⟨rfl, hb2⟩))
  go_ret
  exact ⟨by first | rfl | exact ret_b (by rw [Bool.eq_iff_iff]; simp), below_call hb1 hb2⟩

/-- The pairing, of those without a cost below `lo`, whose greatest cost is least, if there is one. -/
def AboveIs (cs : List (List Int)) (lo : Int) (n : Nat) (w : World) (e : Ending) (w' : World) : Prop :=
  ∃ (m : Nat) (pv : Value), e = .returned (.tuple #[pv, .int .i64 (m : Int)]) ∧ Least (fun m => decide (0 < waysM cs lo m n)) 1000 m ∧ Found w' w.heap.size n ((sufs (okM cs lo m) n n (2 ^ n - 1))[0]?) (.returned pv) ∧ Below w.heap.size w w'

set_option maxHeartbeats 2000000 in
set_option maxRecDepth 100000 in
theorem above49 {w : World} {v : Value} {cs : List (List Int)} {n : Nat} (hv : Sq w v cs n) (hn1 : 1 ≤ n) (hn8 : n ≤ 8) (lo : Int) :
    Calls Try.prog 49 #[v, .int .i64 lo] w (AboveIs cs lo n w) := by
  obtain ⟨ao, c, rfl⟩ := hv.val
  obtain ⟨wB, hwB⟩ : ∃ wB, wB = (w.alloc (.cells #[.slice ao n c] 22)).alloc (.cells #[.int .i64 lo] 3) := ⟨_, rfl⟩
  have hbB : Below w.heap.size w wB := by rw [hwB]; exact ((Below.refl _ _).alloc (Nat.le_refl _) _).alloc (by simp) _
  have hsB : wB.heap.size = w.heap.size + 2 := by rw [hwB]; simp
  have hc1 := cell_new_e w (.slice ao n c) 22
  have hc2 := cell_new_e (w.alloc (.cells #[.slice ao n c] 22)) (.int .i64 lo) 3
  simp only [World.size_alloc] at hc2
  have c0 : wB.cell? ⟨w.heap.size, 0, none⟩ = some (.slice ao n c) := by rw [hwB]; exact ((below_alloc1 _ _).cell (p := ⟨w.heap.size, 0, none⟩) (by simp)).trans hc1.1
  have c1 : wB.cell? ⟨w.heap.size + 1, 0, none⟩ = some (.int .i64 lo) := by rw [hwB]; exact hc2.1
  have hvB := hv.below hbB
  have hs := Lib.hid (search75 (w := wB) (N := 1000) (by omega) 76 #[.pointer (some ⟨w.heap.size, 0, none⟩), .pointer (some ⟨w.heap.size + 1, 0, none⟩)] (enters_of Try.func76 (by kernel_rfl) rfl) (fun m => decide (0 < waysM cs lo m n))
    (fun a b hab ha => by
      simp only [decide_eq_true_eq] at ha ⊢
      exact Nat.lt_of_lt_of_le ha (cw_mono n (okM_mono (by omega)) n _))
    (fun W m hW _ => above76 (hvB.below hW) hn1 hn8 lo w.heap.size (w.heap.size + 1) m ((hW.cell (p := ⟨_, 0, none⟩) (by show w.heap.size < _; omega)).trans c0) ((hW.cell (p := ⟨_, 0, none⟩) (by show w.heap.size + 1 < _; omega)).trans c1)))
  have hbB' := Lib.hid hbB
  have hwB' := Lib.hid hwB
  have hvB' := Lib.hid hvB
  have c0' := Lib.hid c0
  have c1' := Lib.hid c1
  have hsB' := Lib.hid hsB
  clear hwB hbB hsB hc1 hc2 hvB c0 c1 hv
  obtain ⟨N, hN⟩ : ∃ N, N = 2 ^ n := ⟨_, rfl⟩
  have hN' := Lib.hid hN
  clear hN
  go_enter Try.func49, Try.ntmps49
  go_wp2_with fail
  rw [← hwB'.out]
  refine (hs.out).mono ?_
  rintro e w1 ⟨m, rfl, hm, hb1⟩
  have hm' := Lib.hid hm
  have hb1' := Lib.hid hb1
  have hv1 := Lib.hid (hvB'.out.below hb1)
  have d0 := (hb1.cell (p := ⟨w.heap.size, 0, none⟩) (by rw [hsB'.out]; show w.heap.size < _; omega)).trans c0'.out
  have d1 := (hb1.cell (p := ⟨w.heap.size + 1, 0, none⟩) (by rw [hsB'.out]; show w.heap.size + 1 < _; omega)).trans c1'.out
  clear hm hb1
  go_wp2_with fail
  refine (newListing70' hv1.out hn1 hn8 hN'.out lo (m : Int)).mono ?_
  rintro e w2 ⟨gA, gC, rfl, hA, hC, hb2⟩
  have hat := Lib.hid (at72 hA hC hN'.out hn1 hn8 0 (by omega))
  have hb2' := Lib.hid (below_call hb1'.out hb2)
  clear hA hC hb2 d0 d1
  have hsB2 := hsB'.out
  have hB3 := Lib.hid (show Below w.heap.size w w2 from hbB'.out.trans (hb2'.out.mono (by omega)))
  have hs2 := hB3.out.size
  obtain ⟨o, ho⟩ : ∃ o, o = (sufs (okM cs lo (m : Int)) n n (2 ^ n - 1))[0]? := ⟨_, rfl⟩
  rw [← ho] at hat
  have ho' := Lib.hid ho
  clear ho hsB2
  cases o with
  | none =>
    go_wp2_with fail
    refine (hat.out).mono ?_
    rintro e w3 ⟨rfl, hb3⟩
    go_wp2_with fail
    go_ret2
    exact ⟨m, .slice none 0 0, rfl, hm'.out, by rw [← ho'.out]; rfl, below_call hB3.out hb3⟩
  | some l =>
    go_wp2_with fail
    refine (hat.out).mono ?_
    rintro e w3 ⟨⟨g, rfl, hrow⟩, hb3⟩
    have hrow' := Lib.hid (hrow.base hs2)
    clear hrow
    go_wp2_with fail
    go_ret2
    exact ⟨m, _, rfl, hm'.out, by rw [← ho'.out]; exact ⟨g, rfl, hrow'.out⟩, below_call hB3.out hb3⟩
end Go.Proofs.Ytfobdlllghpelaa
