import Derived.Test.YtfobdlllghpelaaZt
import Derived.Test.YtfobdlllghpelaaZs
namespace Go.Proofs.Ytfobdlllghpelaa
open Go.RowKit Go.Shelf Pair
attribute [local go_sem] Oper.semAt_some

theorem mostR_mono {cs : List (List Int)} {n : Nat} {a b : Int} (h : a ≤ b) : mostR cs a n ≤ mostR cs b n := by
  obtain ⟨A, f, hm, hc⟩ := mostP_is (okR cs a) n n 0 fun _ => false
  unfold mostR
  rw [← hc]
  refine mostP_ge (okR cs b) n n 0 _ A f ⟨fun x h1 h2 h3 => ?_, hm.inj⟩
  obtain ⟨q1, q2, q3⟩ := hm.at_ x h1 h2 h3
  refine ⟨q1, q2, ?_⟩
  unfold okR at q3 ⊢
  simp only [decide_eq_true_eq] at q3 ⊢
  omega
theorem konig_min {cs : List (List Int)} {n : Nat} {lim : Int} {p q : Nat → Bool} (h : cvAll cs lim n ((List.range n).filter p) ((List.range n).filter q) (List.range' 0 n) = true) :
    mostR cs lim n ≤ ((List.range n).filter p).length + ((List.range n).filter q).length := by
  obtain ⟨A, f, hm, hc⟩ := mostP_is (okR cs lim) n n 0 fun _ => false
  rw [cntF_cnt] at hc
  unfold mostR
  rw [← hc, cnt_filter, cnt_filter]
  refine konig_weak (ok := okR cs lim) (f := f) (fun i hi ha => ?_) (fun i i' h1 h2 => hm.inj i i' (by omega) (by omega) (by omega) (by omega)) (fun i j hi hj ho => ?_)
  · obtain ⟨a, _, b⟩ := hm.at_ i (by omega) (by omega) ha
    exact ⟨a, b⟩
  · have := cvAll_iff.1 h i j hi hj (by simpa [okR] using ho)
    simp only [List.mem_filter] at this
    rcases this with h | h
    · exact .inl h.2
    · exact .inr h.2
theorem rises_filter {n : Nat} (p : Nat → Bool) : Rises n ((List.range n).filter p) := by
  have hs : ((List.range n).filter p).Pairwise (· < ·) := List.Pairwise.filter _ List.pairwise_lt_range
  refine ⟨fun i hi => ?_, fun i h0 hi => ?_⟩
  · have : ((List.range n).filter p).getD i 0 ∈ (List.range n).filter p := by
      rw [List.getD_eq_getElem?_getD, List.getElem?_eq_getElem hi]; exact List.getElem_mem hi
    exact List.mem_range.1 (List.mem_filter.1 this).1
  · have := List.pairwise_iff_getElem.1 hs (i - 1) i (by omega) hi (by omega)
    rw [List.getD_eq_getElem?_getD, List.getD_eq_getElem?_getD, List.getElem?_eq_getElem hi, List.getElem?_eq_getElem (by omega : i - 1 < ((List.range n).filter p).length)]
    exact this
def cT (S n k : Nat) : List Nat := (List.range k).filter fun j => S.testBit (n + j)
theorem cT_succ (S n k : Nat) : cT S n (k + 1) = if S.testBit (n + k) then cT S n k ++ [k] else cT S n k := by
  unfold cT
  rw [List.range_succ, List.filter_append]
  by_cases h : S.testBit (n + k) <;> simp [h]
theorem Apart.symm {u v : Value} (h : Apart u v) : Apart v u := fun k a b => h k b a
theorem cT_len (S n k : Nat) : (cT S n k).length ≤ k := by
  have := List.length_filter_le (fun j => S.testBit (n + j)) (List.range k)
  rw [List.length_range] at this
  exact this
theorem odd_tab : ∀ a : Nat, a < 64 → ∀ b : Nat, b < 64 → (bits BinOp.and IntKind.i64 ((64 * a + b : Nat) : Int) 1 == 1) = decide ((64 * a + b) % 2 = 1) := by decide +kernel
theorem odd_bit {x : Nat} (h : x < 4096) : (bits BinOp.and IntKind.i64 (x : Int) 1 == 1) = decide (x % 2 = 1) := by
  have := odd_tab (x / 64) (by omega) (x % 64) (by omega)
  rwa [show 64 * (x / 64) + x % 64 = x by omega] at this
theorem sh12 {S j : Nat} (hS : S < 4096) (_ : j < 12) : (bits BinOp.and IntKind.i64 ((S : Int) / 2 ^ j) 1 == 1) = S.testBit j := by
  have hd : S / 2 ^ j < 4096 := Nat.lt_of_le_of_lt (Nat.div_le_self _ _) hS
  have e : (S : Int) / 2 ^ j = ((S / 2 ^ j : Nat) : Int) := by
    rw [Int.natCast_ediv, Int.natCast_pow]; rfl
  rw [e, odd_bit hd, Nat.testBit_eq_decide_div_mod_eq]
theorem shl12_tab : ∀ n : Nat, n ≤ 12 → IntKind.i64.wrap ((2 : Int) ^ n) = ((2 ^ n : Nat) : Int) := by decide +kernel
theorem pow12 : ∀ n : Nat, n ≤ 12 → 2 ^ n ≤ 4096 := by decide +kernel

set_option maxHeartbeats 4000000 in
set_option maxRecDepth 100000 in
theorem walk15 {w : World} {v : Value} {xs : List Nat} {n0 : Int} (hn0 : (Lit.int .u8 n0).wf = true) (hx : InNats .u16 65535 w v xs) {y0 y1 : Nat} (hy0 : y0 ≤ 65535) (hy1 : y1 ≤ 65535) :
    Calls Try.prog 15 #[.int .u8 n0, v, .agg #[.int .u16 y0, .int .u16 y1]] w fun e w' => e = .returned (.bool true) ∧ Below w.heap.size w w' := by
  obtain ⟨a, rfl, ha⟩ := wf8 hn0
  obtain ⟨w0, hw0⟩ : ∃ w0, w0 = w.alloc (.cells #[.int .u16 y0, .int .u16 y1] 68) := ⟨_, rfl⟩
  have hb0 : Below w.heap.size w w0 := by rw [hw0]; exact below_alloc1 w _
  have e0 : w0.cell? ⟨w.heap.size, 0, none⟩ = some (.int .u16 y0) := by rw [hw0, World.cell?_alloc_at (hn := rfl)]; rfl
  have e1 : w0.cell? ⟨w.heap.size, 1, none⟩ = some (.int .u16 y1) := by rw [hw0, World.cell?_alloc_at (hn := rfl)]; rfl
  have hsz : w.heap.size < w0.heap.size := by rw [hw0]; simp
  obtain ⟨g0, hg0⟩ : ∃ g, g = w.heap.size := ⟨_, rfl⟩
  rw [← hg0] at e0 e1 hsz
  have hmd := Lib.hid (made45 (hx.below hb0) a 6 20 ha (by omega) (by omega) (by omega))
  obtain ⟨n, hn⟩ : ∃ n, n = sizeM a 6 := ⟨_, rfl⟩
  have hn1 : 1 ≤ n := by rw [hn]; exact size_one a 6
  have hn6 : n ≤ 6 := by rw [hn]; exact size_le a 6 (by omega)
  have hn8 : n ≤ 8 := by omega
  have hgd := made_good (xs := xs) (m := 20) hn1 hn8 (by omega)
  have hvd := made_valid (xs := xs) (m := 20) hn1 hn8 (by omega)
  have hcst := Lib.hid (fun (w : World) (B : Nat) (v : Value) (h : OwnG w B v (madeC xs 20 n n)) => made_cst (m := 20) hn8 h)
  rw [← hn] at hmd
  obtain ⟨cs, hcs⟩ : ∃ cs, cs = madeC xs 20 n n := ⟨_, rfl⟩
  rw [← hcs] at hmd hgd hvd hcst
  clear hn hcs
  obtain ⟨lim, hlim⟩ : ∃ l : Nat, l = y0 % 21 := ⟨_, rfl⟩
  have hl21 : lim ≤ 21 := by omega
  have hrm : Int.tmod (y0 : Int) 21 = (lim : Int) := by rw [hlim]; exact tmod_nat y0 21
  obtain ⟨d, hd⟩ : ∃ l : Nat, l = y1 % 5 := ⟨_, rfl⟩
  have hd5 : d ≤ 5 := by omega
  have hrm2 : Int.tmod (y1 : Int) 5 = (d : Int) := by rw [hd]; exact tmod_nat y1 5
  clear hlim hd
  have hlen := hgd.len
  have hmono : mostR cs lim n ≤ mostR cs ((lim : Int) + (d : Int)) n := mostR_mono (by omega)
  have hk1 := Lib.hid (fun (w : World) (v : Value) (h : Cst w v cs) => most37 h hvd hgd (lim : Int))
  have hk2 := Lib.hid (fun (w : World) (v : Value) (h : Cst w v cs) => most37 h hvd hgd ((lim : Int) + (d : Int)))
  obtain ⟨R, hR, hRe, hCl, hsum, hcov⟩ := most_konig hgd (lim := (lim : Int))
  obtain ⟨R2, hR2, hRe2, hCl2, hsum2, -⟩ := most_konig hgd (lim := (lim : Int) + (d : Int))
  rw [hRe] at hk1
  rw [hRe2] at hk2
  simp only at hk1 hk2
  obtain ⟨C, hC⟩ : ∃ C, C = hdlK (alwL cs 0 lim n) (bl (2 ^ n - 1 - R)) := ⟨_, rfl⟩
  obtain ⟨C2, hC2⟩ : ∃ C, C = hdlK (alwL cs 0 ((lim : Int) + (d : Int)) n) (bl (2 ^ n - 1 - R2)) := ⟨_, rfl⟩
  rw [← hC] at hk1 hCl hsum hcov
  rw [← hC2] at hk2 hsum2
  have hcv := Lib.hid (fun (w : World) (v a b : Value) (h : Cst w v cs) (ha : Reads w a (natI (bl R))) (hb : Reads w b (natI (bl C))) => covers39 (h.sq hgd) hgd.eight ha hb (bl_rises hR) (bl_rises hCl) (bl_len R) (bl_len C) hcov)
  have hcg := Lib.hid (fun (S : Nat) (w : World) (v a b : Value) (h : Cst w v cs) (ha : Reads w a (natI (blT S n))) (hb : Reads w b (natI (cT S n n))) (hlt : (blT S n).length + (cT S n n).length < mostR cs lim n) => (show Calls Try.prog 39 #[v, .int .i64 lim, a, b] w fun e w' => e = .returned (.bool false) ∧ Below w.heap.size w w' by
    have hc := covers39' (lim := (lim : Int)) (h.sq hgd) hgd.eight ha hb (rises_filter _) (rises_filter _) (by have := blT_len S n; omega) (by have := cT_len S n n; omega)
    have hf : cvAll cs lim n (blT S n) (cT S n n) (List.range' 0 n) = false := by
      rw [Bool.eq_false_iff]
      intro ht
      have := konig_min ht
      unfold blT cT at hlt
      omega
    rwa [hf] at hc))
  rw [← hsum, ← hsum2] at hmono
  rw [← hsum] at hcg
  have l1 : (natI (bl R)).length = szS R := natI_len _
  have l2 : (natI (bl C)).length = szS C := natI_len _
  have b1 : szS R ≤ 8 := bl_len R
  have b2 : szS C ≤ 8 := bl_len C
  have b3 : szS R2 ≤ 8 := bl_len R2
  have b4 : szS C2 ≤ 8 := bl_len C2
  unfold MostEnd at hk1 hk2
  obtain ⟨r, hr1⟩ : ∃ r, r = szS R := ⟨_, rfl⟩
  obtain ⟨c, hc1⟩ : ∃ c, c = szS C := ⟨_, rfl⟩
  obtain ⟨r2, hr2⟩ : ∃ r, r = szS R2 := ⟨_, rfl⟩
  obtain ⟨c2, hc2⟩ : ∃ c, c = szS C2 := ⟨_, rfl⟩
  rw [← hr1] at l1 b1 hk1 hmono hcg
  rw [← hc1] at l2 b2 hk1 hmono hcg
  rw [← hr2] at b3 hk2 hmono
  rw [← hc2] at b4 hk2 hmono
  obtain ⟨L1, hL1⟩ : ∃ L, L = natI (bl R) := ⟨_, rfl⟩
  obtain ⟨L2, hL2⟩ : ∃ L, L = natI (bl C) := ⟨_, rfl⟩
  rw [← hL1] at l1 hk1 hcv
  rw [← hL2] at l2 hk1 hcv
  have hlv := Lib.hid (fun (w : World) => lives22 (w := w))
  obtain ⟨⟨xo, xc, rfl, _⟩, _⟩ := hx
  have hb0' := Lib.hid hb0
  have hw0' := Lib.hid hw0
  have hg0' := Lib.hid hg0
  clear hgd hvd hRe hRe2 hC hC2 hR hR2 hCl hCl2 hsum hsum2 hcov hr1 hc1 hr2 hc2 hL1 hL2 hb0 hw0 hg0 hn0
  go_enter Try.func15, Try.ntmps15
  go_wp2_with fail
  rw [← hw0'.out, ← hg0'.out]
  refine (hmd.out).mono ?_
  rintro e w1 ⟨v1, rfl, hv1, hb1⟩
  have hc1 := Lib.hid (hcst.out _ _ _ hv1)
  have k0 := (hb1.cell (p := ⟨g0, 0, none⟩) hsz).trans e0
  have k1 := Lib.hid ((hb1.cell (p := ⟨g0, 1, none⟩) hsz).trans e1)
  have hs1 := Nat.lt_of_lt_of_le hsz hb1.size
  have hb1' := Lib.hid (below_call hb0'.out hb1)
  have hvl := (hcst.out _ _ _ hv1).reads
  obtain ⟨vo, vc, hve, _⟩ := hvl
  rw [hlen] at hve
  subst hve
  clear hv1 hb1 e0 e1 hsz hmd
  go_wp2_with fail
  refine (hk1.out _ _ hc1.out).mono ?_
  rintro e w2 ⟨u1, u2, rfl, hu1, hu2, hb2⟩
  have hr1 := Lib.hid hu1.1.shape
  have hr2 := Lib.hid hu2.1.shape
  obtain ⟨a1, d1, rfl, _⟩ := hu1.1.shape
  obtain ⟨a2, d2, rfl, _⟩ := hu2.1.shape
  rw [l1] at hr1 ⊢
  rw [l2] at hr2 ⊢
  have hc2 := Lib.hid (hc1.out.below hb2)
  have k2 := (hb2.cell (p := ⟨g0, 1, none⟩) hs1).trans k1.out
  have hb2' := Lib.hid (below_call hb1'.out hb2)
  clear hb2 hc1 hb1' hu1 hu2 k0 k1 hs1
  go_wp2_with fail
  refine (hk2.out _ _ hc2.out).mono ?_
  rintro e w3 ⟨u3, u4, rfl, hu3, hu4, hb3⟩
  obtain ⟨a3, d3, rfl, _⟩ := hu3.1.shape
  obtain ⟨a4, d4, rfl, _⟩ := hu4.1.shape
  have hc3 := Lib.hid (hc2.out.below hb3)
  have hr13 := Lib.hid (hr1.out.below hb3)
  have hr23 := Lib.hid (hr2.out.below hb3)
  have hb3' := Lib.hid (below_call hb2'.out hb3)
  have hm1 : (r : Int) + (c : Int) ≤ (r2 : Int) + (c2 : Int) := by omega
  clear hb3 hc2 hb2' hu3 hu4 k2 hr1 hr2 hmono
  go_wp2_with fail
  refine (hcv.out _ _ _ _ hc3.out hr13.out hr23.out).mono ?_
  rintro e w4 ⟨rfl, hb4⟩
  have hc4 := Lib.hid (hc3.out.below hb4)
  have hb4' := Lib.hid (below_call hb3'.out hb4)
  clear hb4 hc3 hr13 hr23
  go_wp2_with fail
  refine (hlv.out _).mono ?_
  rintro e w5 ⟨rfl, hb5⟩
  have hc5 := Lib.hid (hc4.out.below hb5)
  have hb5' := Lib.hid (below_call hb4'.out hb5)
  clear hb5 hc4
  obtain ⟨t2, ht2⟩ : ∃ t2 : Nat, t2 = 2 * n := ⟨_, rfl⟩
  have hm2 : (2 : Int) * (n : Int) = (t2 : Int) := by omega
  have hp2 := shl12_tab t2 (by omega)
  have hp4 := pow12 t2 (by omega)
  obtain ⟨N2, hN2⟩ : ∃ N2, N2 = 2 ^ t2 := ⟨_, rfl⟩
  rw [← hN2] at hp2 hp4
  have ht12 : t2 ≤ 12 := by omega
  clear ht2 hN2
  go_wp2_with fail
  go_loopw [17] (fun sv wr => ∃ S : Nat, S ≤ N2 ∧ sv = .int .i64 S ∧ Hid (Below w5.heap.size w5 wr)) (fun sv _ => N2 - (intOf sv).toNat)
  case atStart => exact ⟨0, Nat.zero_le _, rfl, Lib.hid (Below.refl _ _)⟩
  case round =>
    obtain ⟨S, hS, rfl, hbw⟩ := hrel
    by_cases hSN : S < N2
    · have hS4 : S < 4096 := by omega
      have hlit1 := Lib.hid ((Ints.lit wr wr.heap.size (Nat.le_refl _)).alloc (.cells #[] 3))
      have hlit2 := Lib.hid ((Ints.lit (wr.alloc (.cells #[] 3)) (wr.alloc (.cells #[] 3)).heap.size (Nat.le_refl _)).base (B' := wr.heap.size) (by simp))
      have hbl := Lib.hid ((below_alloc1 wr (.cells #[] 3)).alloc (by simp) (.cells #[] 3))
      have hap0 := Lib.hid (show Apart (.slice (some ⟨wr.heap.size, 0, none⟩) 0 0) (.slice (some ⟨wr.heap.size + 1, 0, none⟩) 0 0) from fun k h1 h2 => by
        simp only [Value.ownBlock, Option.some.injEq] at h1 h2; omega)
      rw [World.size_alloc] at hlit2
      go_wp2_with fail
      go_loopw [18, 19, 20] (fun rv cv iv wx => ∃ i : Nat, i ≤ n ∧ iv = .int .i64 i ∧ Hid (Ints wx wr.heap.size rv (natI (blT S i))) ∧ Hid (Ints wx wr.heap.size cv (natI (cT S n i))) ∧ Hid (Apart rv cv) ∧ Hid (Below wr.heap.size wr wx)) (fun _ _ iv _ => n - (intOf iv).toNat)
      case atStart => exact ⟨0, Nat.zero_le _, rfl, hlit1, hlit2, hap0, hbl⟩
      case round =>
        obtain ⟨i, hi, rfl, hrow, hcol, hap, hbx⟩ := hrel
        clear hlit1 hlit2 hbl hap0
        by_cases hin : i < n
        · have hrl := Lib.hid (show (natI (blT S i)).length ≤ 1000000000 by rw [natI_len]; have := blT_len S i; omega)
          have hcl := Lib.hid (show (natI (cT S n i)).length ≤ 1000000000 by rw [natI_len]; have := cT_len S n i; omega)
          have hs1 := Lib.hid (blT_succ S i)
          have hs2 := Lib.hid (cT_succ S n i)
          have q1 := sh12 hS4 (show i < 12 by omega)
          have q2 := sh12 hS4 (show n + i < 12 by omega)
          have hni : (n : Int) + (i : Int) = ((n + i : Nat) : Int) := by omega
          obtain ⟨t1, ht1⟩ : ∃ t, t = S.testBit i := ⟨_, rfl⟩
          obtain ⟨t2, ht2⟩ : ∃ t, t = S.testBit (n + i) := ⟨_, rfl⟩
          rw [← ht1] at hs1 q1
          rw [← ht2] at hs2 q2
          obtain ⟨ni, hniq⟩ : ∃ ni, ni = n + i := ⟨_, rfl⟩
          rw [← hniq] at q2 hni
          have hni12 : ni < 12 := by omega
          clear ht1 ht2 hniq
          cases t1 with
          | true =>
            cases t2 with
            | true =>
              have hn1' := Lib.hid (show natI (blT S (i + 1)) = natI (blT S i) ++ [(i : Int)] by rw [hs1.out, if_pos rfl]; simp [natI])
              have hn2' := Lib.hid (show natI (cT S n (i + 1)) = natI (cT S n i) ++ [(i : Int)] by rw [hs2.out, if_pos rfl]; simp [natI])
              go_wp2_with (first
                | (at_builtin; refine app_int_beside hrow.out hcol.out hap.out.symm hrl.out hbx.out.size rfl _ _ rfl rfl rfl ?_; intro v1 w6 hown1 hoth1 hap1 hb6; have hrow1 := Lib.hid hown1; have hcol1 := Lib.hid hoth1; have hap1' := Lib.hid hap1.symm; have hbx1 := Lib.hid (hbx.out.trans hb6); clear hown1 hoth1 hap1 hb6)
                | (at_builtin; refine app_int_beside hcol1.out hrow1.out hap1'.out hcl.out hbx1.out.size rfl _ _ rfl rfl rfl ?_; intro v2 w7 hown2 hoth2 hap2 hb7))
              have hbx2 := Lib.hid (hbx1.out.trans hb7)
              go_roundw
              case rel => exact ⟨i + 1, by omega, by go_num, Lib.hid (by rw [hn1'.out]; exact hoth2), Lib.hid (by rw [hn2'.out]; exact hown2), Lib.hid hap2, hbx2⟩
              case measure => simp [intOf]; omega
            | false =>
              have hn1' := Lib.hid (show natI (blT S (i + 1)) = natI (blT S i) ++ [(i : Int)] by rw [hs1.out, if_pos rfl]; simp [natI])
              have hn2' := Lib.hid (show natI (cT S n (i + 1)) = natI (cT S n i) by rw [hs2.out]; rfl)
              go_wp2_with (first | (at_builtin; refine app_int_beside hrow.out hcol.out hap.out.symm hrl.out hbx.out.size rfl _ _ rfl rfl rfl ?_; intro v1 w6 hown1 hoth1 hap1 hb6))
              have hrow1 := Lib.hid hown1
              have hcol1 := Lib.hid hoth1
              have hap1' := Lib.hid hap1.symm
              have hbx1 := Lib.hid (hbx.out.trans hb6)
              clear hown1 hoth1 hap1 hb6
              go_wp2_with fail
              go_roundw
              case rel => exact ⟨i + 1, by omega, by go_num, Lib.hid (by rw [hn1'.out]; exact hrow1.out), Lib.hid (by rw [hn2'.out]; exact hcol1.out), hap1', hbx1⟩
              case measure => simp [intOf]; omega
          | false =>
            cases t2 with
            | true =>
              have hn1' := Lib.hid (show natI (blT S (i + 1)) = natI (blT S i) by rw [hs1.out]; rfl)
              have hn2' := Lib.hid (show natI (cT S n (i + 1)) = natI (cT S n i) ++ [(i : Int)] by rw [hs2.out, if_pos rfl]; simp [natI])
              go_wp2_with (first | (at_builtin; refine app_int_beside hcol.out hrow.out hap.out hcl.out hbx.out.size rfl _ _ rfl rfl rfl ?_; intro v2 w7 hown2 hoth2 hap2 hb7))
              have hrow2 := Lib.hid hoth2
              have hcol2 := Lib.hid hown2
              have hap2' := Lib.hid hap2
              have hbx2 := Lib.hid (hbx.out.trans hb7)
              clear hown2 hoth2 hap2 hb7
              go_roundw
              case rel => exact ⟨i + 1, by omega, by go_num, Lib.hid (by rw [hn1'.out]; exact hrow2.out), Lib.hid (by rw [hn2'.out]; exact hcol2.out), hap2', hbx2⟩
              case measure => simp [intOf]; omega
            | false =>
              have hn1' := Lib.hid (show natI (blT S (i + 1)) = natI (blT S i) by rw [hs1.out]; rfl)
              have hn2' := Lib.hid (show natI (cT S n (i + 1)) = natI (cT S n i) by rw [hs2.out]; rfl)
              go_wp2_with fail
              go_roundw
              case rel => exact ⟨i + 1, by omega, by go_num, Lib.hid (by rw [hn1'.out]; exact hrow.out), Lib.hid (by rw [hn2'.out]; exact hcol.out), hap, hbx⟩
              case measure => simp [intOf]; omega
        · obtain rfl : n = i := by omega
          have hs6 := Lib.hid (below_call hbw.out hbx.out)
          have hcx := Lib.hid (hc5.out.below hs6.out)
          obtain ⟨ra, rc, rfl, _⟩ := hrow.out.shape
          obtain ⟨ca, cc, rfl, _⟩ := hcol.out.shape
          have hR1 := Lib.hid hrow.out.shape
          have hC1 := Lib.hid hcol.out.shape
          rw [natI_len] at hR1 hC1
          have hg := Lib.hid (fun (hlt : (blT S n).length + (cT S n n).length < r + c) => hcg.out S wr _ _ _ hcx.out hR1.out hC1.out hlt)
          have z1 := blT_len S n
          have z2 := cT_len S n n
          rw [natI_len (blT S n), natI_len (cT S n n)]
          obtain ⟨p1, hp1⟩ : ∃ p, p = (blT S n).length := ⟨_, rfl⟩
          obtain ⟨p2, hp3⟩ : ∃ p, p = (cT S n n).length := ⟨_, rfl⟩
          rw [← hp1] at z1 hg ⊢
          rw [← hp3] at z2 hg ⊢
          clear hp1 hp3 hR1 hC1 hrow hcol
          by_cases hlt : p1 + p2 < r + c
          · have hcov := Lib.hid (hg.out hlt)
            have hlt1 : (p1 : Int) + (p2 : Int) < (r : Int) + (c : Int) := by omega
            go_wp2_with fail
            refine (hcov.out).mono ?_
            rintro e w8 ⟨rfl, hb8⟩
            have hb8' := Lib.hid (below_call hs6.out hb8)
            clear hb8
            go_wp2_with fail
            go_roundw
            case rel => exact ⟨S + 1, by omega, by go_num, Lib.hid hb8'.out⟩
            case measure => simp [intOf]; omega
          · have hlt1 : (r : Int) + (c : Int) ≤ (p1 : Int) + (p2 : Int) := by omega
            have hs7 := Lib.hid (below_call hbw.out hbx.out)
            go_wp2_with fail
            go_roundw
            case rel => exact ⟨S + 1, by omega, by go_num, hs7⟩
            case measure => simp [intOf]; omega
    · go_wp2_with fail
      go_ret
      exact ⟨rfl, below_call hb5'.out hbw.out⟩
end Go.Proofs.Ytfobdlllghpelaa
