import Derived.Test.YtpcjigdmfchbdaaDoorZh
import Derived.BigQuiet
namespace Go.Proofs.YtpcjigdmfchbdaaDoor
open Go.RowKit Go.Shelf Cl

def kp (fl : Bool) (p : Nat × Nat) : Bool := if fl then (p.1 + p.2) % 2 == 1 else decide (p.1 < p.2)
theorem vld_toI {sz : Nat} {K : Atts} (h1 : 1 ≤ sz) (h2 : sz ≤ 12) (hK : Within sz K) (hl : K.length ≤ 40) : vldB (sz : Int) (toI K) = true := by
  unfold vldB
  simp only [Bool.and_eq_true, decide_eq_true_eq, List.all_eq_true]
  refine ⟨⟨⟨by omega, by omega⟩, by rw [toI_len]; exact hl⟩, fun p hp => ?_⟩
  obtain ⟨q, hq, rfl⟩ := List.mem_map.1 hp
  have := hK q hq
  unfold okP
  simp only [Bool.and_eq_true, decide_eq_true_eq]
  exact ⟨⟨⟨by omega, by omega⟩, by omega⟩, by omega⟩
theorem kp_noOdd {n : Nat} {L : Atts} (fl : Bool) : NoOdd n (L.filter (kp fl)) := by
  cases fl
  · exact up_noOdd fun p hp => by have := (List.mem_filter.1 hp).2; unfold kp at this; simpa using this
  · exact par_noOdd fun p hp => by have := (List.mem_filter.1 hp).2; unfold kp at this; simpa using this
theorem one_of {l : List Nat} (hd : l.Nodup) (h : ∀ x ∈ l, ∀ y ∈ l, x = y) (hm : 0 < l.length) : l.length = 1 := by
  match l, hd, h, hm with
  | [_], _, _, _ => rfl
  | a :: b :: t, hd, h, _ =>
    have e := h a (by simp) b (by simp)
    subst e
    simp at hd
theorem coms_one {n : Nat} {L : Atts} (hn : n ≤ 12) (h : ∀ p ∈ L, p.1 < p.2) (hL : Within n L) : (coms n L).length = 1 := by
  refine one_of (List.nodup_range.filter _) (fun x hx y hy => ?_) ?_
  · have hx' := (mem_coms hn).1 hx
    have hy' := (mem_coms hn).1 hy
    exact com_one h hL hx'.1 hy'.1 hx'.2 hy'.2
  · obtain ⟨S, hS⟩ := coms_some L hn
    exact List.length_pos_of_mem hS
theorem oddK {w : World} (hT : Tab w) {sz : Nat} {K : Atts} {B : Nat} {v : Value} (hs : sz ≤ 12) (hv : vldB (sz : Int) (toI K) = true) (hK : Within sz K) (hp : OwnP w B v (toI K)) (hO : NoOdd sz K) :
    Calls Tryd.prog 41 #[.int .i64 (sz : Int), v] w (fun e w' => ∃ v', e = .returned (.tuple #[v', .int .i64 5]) ∧ Below w.heap.size w w') := by
  refine (odd41 hT (n := (sz : Int)) hp.reads (by have := (vld_ok hv).2.2.2; omega)).mono ?_
  rintro e w' ⟨v', err, xs, rfl, _, hi, hb⟩
  have hi := hi.out
  unfold OddIs at hi
  rw [if_pos hv, natP_toI, Int.toNat_natCast] at hi
  rcases hi with ⟨_, l, s, h1, h2, h3, h4, _⟩ | ⟨rfl, _, _⟩
  · exact absurd ((frm_bit hs hK h3 l s).1 h4) (hO l h2 h1 s h3)
  · exact ⟨v', rfl, hb⟩
theorem oddL {w : World} (hT : Tab w) {sz : Nat} {K : Atts} {B : Nat} {v : Value} (hs : sz ≤ 12) (hv : vldB (sz : Int) (toI K) = true) (hK : Within sz K) (hp : OwnP w B v (toI K)) (hO : ¬ NoOdd sz K) :
    Calls Tryd.prog 41 #[.int .i64 (sz : Int), v] w (fun e w' => ∃ v', e = .returned (.tuple #[v', .int .i64 0]) ∧ Below w.heap.size w w') := by
  refine (odd41 hT (n := (sz : Int)) hp.reads (by have := (vld_ok hv).2.2.2; omega)).mono ?_
  rintro e w' ⟨v', err, xs, rfl, _, hi, hb⟩
  have hi := hi.out
  unfold OddIs at hi
  rw [if_pos hv, natP_toI, Int.toNat_natCast] at hi
  rcases hi with ⟨rfl, _⟩ | ⟨_, _, hno⟩
  · exact ⟨v', rfl, hb⟩
  · refine absurd (fun k hk h1 s hs' hw => ?_) hO
    have := hno k hk h1 s hs'
    unfold clo at this
    rw [(frm_bit hs hK hs' k s).2 hw] at this
    cases this
theorem sameL_lists {a b : List Nat} (h : a = b) : (lists a == lists b) = true := by rw [h]; exact beq_self_eq_true _
theorem app_pair {ops : Array Oper} {rest : List Oper} {o : Oper} {a : Act} {Q : Exit → Act → World → Prop} {w : World} {B : Nat} {v : Value} {ps : List (Int × Int)} {x y : Int}
    (hown : OwnP w B v ps) (hlen : ps.length ≤ 999999) (hB : B ≤ w.heap.size) (hgd : o.guard = none) (s t : Operand)
    (ho : o.op = .call { callee := .builtin .append, args := #[s, t], argTypes := #[22, 22] }) (hs : a.eval s = v) (hx : a.eval t = .slice (some ⟨w.heap.size, 0, none⟩) 1 1)
    (h : ∀ v' w', OwnP w' B v' (ps ++ [(x, y)]) → Below B w w' → wpList Tryd.prog ops Q rest (a.put o.dst v') w') : wpList Tryd.prog ops Q (o :: rest) a (w.alloc (.cells #[.int .i64 x, .int .i64 y] 58)) := by
  obtain ⟨i0, hi, hz0, hz1, hz2⟩ := info_parts info58
  refine app_one Tryd.underlying22 hi hz0 hz1 hz2 rfl (by decide) (by decide) hown (y := #[.int .i64 x, .int .i64 y]) rfl (by intro u hu; simp at hu; rcases hu with rfl | rfl <;> rfl) hlen hB hgd s t ho hs hx ?_
  intro v' w' h1 h2 _ _ _
  refine h v' w' ?_ h2
  unfold OwnP
  rw [List.length_append, flat_app]
  exact h1
theorem keep_snoc {L : Atts} {i : Nat} (hi : i < L.length) (q : Nat × Nat → Bool) : (L.take (i + 1)).filter q = (L.take i).filter q ++ if q L[i] then [L[i]] else [] := by
  rw [List.take_succ_eq_append_getElem hi, List.filter_append]
  congr 1
  cases e : q L[i] <;> simp [e]
set_option maxRecDepth 100000 in
set_option maxHeartbeats 8000000 in
theorem walk13 {w : World} (hT : Tab w) {n : Nat} {v : Value} {xs : List (Nat × Nat)} (hn : n < 256) (hx : InDuo w v xs) (fl : Bool) :
    Calls Tryd.prog 13 #[.int .u8 (n : Int), v, .bool fl] w fun e w' => e = .returned (.bool true) ∧ Below w.heap.size w w' := by
  have hT' := Lib.hid hT
  have hm := Lib.hid (show Calls Tryd.prog 43 #[.int .u8 (n : Int), v, .int .i64 12] w (MadeD w (szM n 12) (mkL (szM n 12) xs)) from made43 (most := 12) hn (by omega) (by omega) hx)
  have hs12 : szM n 12 ≤ 12 := by unfold szM; omega
  have hs1 : 1 ≤ szM n 12 := by unfold szM; omega
  have hv := mk_vld hs1 hs12 xs
  have hL := mkL_within (sz := szM n 12) (by omega) xs
  have hl40 := mkL_len (szM n 12) xs
  clear hT hx
  generalize szM n 12 = sz at hm hs12 hs1 hv hL hl40
  generalize mkL sz xs = L at hm hv hL hl40
  have hKw : Within sz (L.filter (kp fl)) := fun p hp => hL p (List.mem_filter.1 hp).1
  have hKl : (L.filter (kp fl)).length ≤ 40 := Nat.le_trans (List.length_filter_le _ _) hl40
  have hKv := vld_toI hs1 hs12 hKw hKl
  have hNO := kp_noOdd (n := sz) (L := L) fl
  have hone := Lib.hid (show fl = false → (lists (coms sz (L.filter (kp fl)))).length = 1 from fun e => by
    rw [lists_len]
    exact coms_one hs12 (fun p hp => by have := (List.mem_filter.1 hp).2; rw [e] at this; unfold kp at this; simpa using this) hKw)
  have ho1 := Lib.hid (fun (W : World) (B : Nat) (v : Value) (h : Below w.heap.size w W) (hp : OwnP W B v (toI (L.filter (kp fl)))) => oddK (hT'.out.call h) hs12 hKv hKw hp hNO)
  have h1 := Lib.hid (fun (W : World) (B : Nat) (v : Value) (h : Below w.heap.size w W) (hp : OwnP W B v (toI (L.filter (kp fl)))) => stableM (hT'.out.call h) hKv hp)
  have h3 := Lib.hid (fun (W : World) (B : Nat) (v : Value) (h : Below w.heap.size w W) (hp : OwnP W B v (toI (L.filter (kp fl)))) => preferredM (hT'.out.call h) hKv hp)
  have h4 := Lib.hid (fun (W : World) (B : Nat) (v : Value) (h : Below w.heap.size w W) (hp : OwnP W B v (toI (L.filter (kp fl)))) => completeM (hT'.out.call h) hKv hp)
  have hsm := Lib.hid (fun (W : World) (u v : Value) (hu : ReadsG W u (lists (stables sz (L.filter (kp fl))))) (hv : ReadsG W v (lists (prefs sz (L.filter (kp fl))))) => show Calls Tryd.prog 29 #[u, v] W (BoolEnd W true) from by
    have e := sameL_lists (stables_prefs hs12 hKw hNO)
    rw [← e]
    have hl1 : (stables sz (L.filter (kp fl))).length ≤ 4096 := sets_len hs12
    exact refSame29 hu hv (by rw [lists_len]; omega) (lists_row _) (lists_row _))
  have hli := Lib.hid (fun (W : World) (h : Below w.heap.size w W) => lives20 (hT'.out.call h))
  have g1 := Lib.hid (fun (W : World) (v : Value) (h : Below w.heap.size w W) (hp : OwnP W w.heap.size v (toI L)) => stableM (hT'.out.call h) hv hp)
  have g3 := Lib.hid (fun (W : World) (v : Value) (h : Below w.heap.size w W) (hp : OwnP W w.heap.size v (toI L)) => preferredM (hT'.out.call h) hv hp)
  have hcase := Lib.hid (show
      (∀ (W : World) (v : Value), Below w.heap.size w W → OwnP W w.heap.size v (toI L) → Calls Tryd.prog 41 #[.int .i64 (sz : Int), v] W (fun e w' => ∃ v', e = .returned (.tuple #[v', .int .i64 0]) ∧ Below W.heap.size W w')) ∨
      ((∀ (W : World) (v : Value), Below w.heap.size w W → OwnP W w.heap.size v (toI L) → Calls Tryd.prog 41 #[.int .i64 (sz : Int), v] W (fun e w' => ∃ v', e = .returned (.tuple #[v', .int .i64 5]) ∧ Below W.heap.size W w')) ∧
       (∀ (W : World) (u v : Value), ReadsG W u (lists (stables sz L)) → ReadsG W v (lists (prefs sz L)) → Calls Tryd.prog 29 #[u, v] W (BoolEnd W true))) from by
    by_cases hq : NoOdd sz L
    · refine .inr ⟨fun W v h hp => oddK (hT'.out.call h) hs12 hv hL hp hq, fun W u v hu hv => ?_⟩
      have e := sameL_lists (stables_prefs hs12 hL hq)
      rw [← e]
      have hl1 : (stables sz L).length ≤ 4096 := sets_len hs12
      exact refSame29 hu hv (by rw [lists_len]; omega) (lists_row _) (lists_row _)
    · exact .inl fun W v h hp => oddL (hT'.out.call h) hs12 hv hL hp hq)
  generalize lists (stables sz (L.filter (kp fl))) = A1 at h1 hsm
  generalize lists (prefs sz (L.filter (kp fl))) = A3 at h3 hsm
  generalize lists (coms sz (L.filter (kp fl))) = A4 at h4 hone
  generalize lists (stables sz L) = G1 at g1 hcase
  generalize lists (prefs sz L) = G3 at g3 hcase
  clear hNO hKv hKl hKw hv
  obtain ⟨N, hN⟩ : ∃ N, N = L.length := ⟨_, rfl⟩
  have hN' := Lib.hid hN
  have hL' := Lib.hid hL
  rw [← hN] at hl40
  clear hN hL hT'

  cases fl
  · go_enter Tryd.func13, Tryd.ntmps13
    go_upto_region 2 with (first
      | (go_at_call 43; refine (hm.out).mono ?_; rintro e w1 ⟨v1, rfl, ho, hb⟩; have hL1 := Lib.hid ho; have hb1 := Lib.hid hb; clear ho hb hm))
    obtain ⟨ao, c, rfl, hat⟩ := hL1.out.reads.at
    rw [toI_len, ← hN'.out] at hL1 ⊢
    have hat' := Lib.hid hat
    clear hat
    have hown0 := Lib.hid (show OwnP (w1.alloc (.cells #[] 58)) w1.heap.size (.slice (some ⟨w1.heap.size, 0, none⟩) 0 0) (toI ((L.take 0).filter (kp false))) from World.ownsRow_made w1 #[] 0 (Nat.le_refl _) (by unfold maxLen; omega) (by simp))
    have hbw := Lib.hid (below_alloc1 w1 (.cells #[] 58))
    go_wp2_with fail
    go_loopw [9, 10] (fun v p wr => ∃ i : Nat, i ≤ N ∧ p = .int .i64 (i : Int) ∧ Hid (OwnP wr w1.heap.size v (toI ((L.take i).filter (kp false)))) ∧ Hid (Below w1.heap.size w1 wr)) (fun _ p _ => N - (intOf p).toNat)
    case atStart => exact ⟨0, Nat.zero_le _, rfl, hown0, hbw⟩
    case round =>
      obtain ⟨i, hi, rfl, ho, hb⟩ := hrel
      by_cases hlt : i < N
      · have hix : i < L.length := by rw [← hN'.out]; exact hlt
        obtain ⟨g, oo, rfl, hg0, hc1⟩ := hat'.out (fun e => absurd (show (toI L).length = 0 from by rw [e]; rfl) (by rw [toI_len]; omega))
        obtain ⟨ca0, cb0⟩ := hc1 i (by rw [toI_len]; exact hix)
        have hq : (toI L).getD i (0, 0) = ((L[i].1 : Int), (L[i].2 : Int)) := by
          unfold toI
          rw [List.getD_eq_getElem?_getD, List.getElem?_map, List.getElem?_eq_getElem hix]; rfl
        rw [hq] at ca0 cb0
        have hw := hL'.out _ (List.getElem_mem hix)
        have hks := keep_snoc hix (kp false)
        have ca := (hb.out.cell (p := ⟨g, oo + i * 2, none⟩) hg0).trans ca0
        have cb := (hb.out.cell (p := ⟨g, oo + i * 2 + 1, none⟩) hg0).trans cb0
        simp only at ca cb
        generalize L[i] = x at ca cb hw hks
        obtain ⟨a, b⟩ := x
        obtain ⟨ha12, hb12⟩ := hw
        have hks' := Lib.hid hks
        clear hq ca0 cb0 hc1 hks
        simp only at ca cb ha12 hb12
        have hlen := Lib.hid (show (toI ((L.take i).filter (kp false))).length ≤ 999999 from by
          rw [toI_len]
          have := List.length_filter_le (kp false) (L.take i)
          rw [List.length_take] at this
          have := hN'.out
          omega)
        have hi1 : (i : Int) < N := by omega

        by_cases hab : a < b
        · have hfin := Lib.hid (show toI ((L.take (i + 1)).filter (kp false)) = toI ((L.take i).filter (kp false)) ++ [((a : Int), (b : Int))] from by rw [hks'.out, if_pos (by unfold kp; simpa using hab), toI_snoc])
          have habI : (a : Int) < b := by omega
          clear hab
          go_wp2
          go_quiet (fail)
          go_wp2_with (first
            | (at_builtin; refine app_pair (own_below ho.out (below_drewN (Below.refl _ wr) _)) hlen.out (below_drewN hb.out _).size rfl _ _ rfl rfl rfl ?_; intro v' w3 h1 h2; have h1q := Lib.hid h1; have h2q := Lib.hid h2; clear h1 h2))
          go_roundw
          case rel => exact ⟨i + 1, by omega, by go_num, Lib.hid (by rw [hfin.out]; exact h1q.out), Lib.hid ((below_drewN hb.out _).trans h2q.out)⟩
          case measure => simp [intOf]; omega
        · have hfin := Lib.hid (show toI ((L.take (i + 1)).filter (kp false)) = toI ((L.take i).filter (kp false)) from by rw [hks'.out, if_neg (by unfold kp; simpa using hab), List.append_nil])
          have habI : ¬ (a : Int) < b := by omega
          clear hab
          go_wp2
          go_quiet (fail)
          go_wp2_with fail
          go_roundw
          case rel => exact ⟨i + 1, by omega, by go_num, Lib.hid (by rw [hfin.out]; exact own_below ho.out (below_drewN (Below.refl _ wr) _)), Lib.hid (below_drewN hb.out _)⟩
          case measure => simp [intOf]; omega
      · have htk : L.take i = L := List.take_of_length_le (by rw [← hN'.out]; omega)
        rw [htk] at ho
        have hbz := Lib.hid (below_call hb1.out hb.out)
        have hLz := Lib.hid (hL1.out.below hb.out)
        have hlenA : A4.length = 1 := hone.out (by trivial)
        have hlenA' := Lib.hid hlenA
        clear htk hlenA hone hb hL1 hb1 hat' hl40 hi hs1 hs12 hN' hL'
        rcases hcase.out with hodd | ⟨hodd, hsame⟩
        · have hodd' := Lib.hid hodd
          skip
          clear hodd hcase
          go_wp2_with (first
            | (go_at_call 41; refine (ho1.out _ _ _ hbz.out ho.out).mono ?_; rintro e w2 ⟨v2, rfl, hb⟩; have hb2 := Lib.hid (below_call hbz.out hb); have hk2 := Lib.hid (ho.out.below hb); have hL2 := Lib.hid (hLz.out.below hb); clear hb ho1)
            | (go_at_call 26; refine (h1.out _ _ _ hb2.out hk2.out).mono ?_; rintro e w3 ⟨v3, rfl, hz, hb⟩; have hA1 := Lib.hid hz; have hb3 := Lib.hid (below_call hb2.out hb); have hk3 := Lib.hid (hk2.out.below hb); have hL3 := Lib.hid (hL2.out.below hb); clear hz hb h1)
            | (go_at_call 25; refine (h3.out _ _ _ hb3.out hk3.out).mono ?_; rintro e w4 ⟨v4, rfl, hz, hb⟩; have hA3 := Lib.hid hz; have hb4 := Lib.hid (below_call hb3.out hb); have hk4 := Lib.hid (hk3.out.below hb); have hL4 := Lib.hid (hL3.out.below hb); have hA1b := Lib.hid (hA1.out.below hb); clear hz hb h3)
            | (go_at_call 27; refine (h4.out _ _ _ hb4.out hk4.out).mono ?_; rintro e w5 ⟨v5, rfl, hz, hb⟩; obtain ⟨a5, c5, rfl, -⟩ := id hz.shape; rw [hlenA'.out]; have hb5 := Lib.hid (below_call hb4.out hb); have hL5 := Lib.hid (hL4.out.below hb); have hA1c := Lib.hid (hA1b.out.below hb); have hA3c := Lib.hid (hA3.out.below hb); clear hz hb h4)
            | (go_at_call 29; refine (hsm.out _ _ _ hA1c.out.shape hA3c.out.shape).mono ?_; rintro e w6 ⟨rfl, hb⟩; have hb6 := Lib.hid (below_call hb5.out hb); have hL6 := Lib.hid (hL5.out.below hb); clear hb hsm)
            | (go_at_call 20; refine (hli.out _ hb6.out).mono ?_; rintro e w7 ⟨rfl, hb⟩; have hb7 := Lib.hid (below_call hb6.out hb); have hL7 := Lib.hid (hL6.out.below hb); clear hb hli)
            | (go_at_call 41; refine (hodd'.out _ _ hb7.out hL7.out).mono ?_; rintro e w8 ⟨v8, rfl, hb⟩; have hb8 := Lib.hid (below_call hb7.out hb); have hL8 := Lib.hid (hL7.out.below hb); clear hb hodd')
            | (go_at_call 26; refine (g1.out _ _ hb8.out hL8.out).mono ?_; rintro e w9 ⟨v9, rfl, hz, hb⟩; have hG1 := Lib.hid hz; have hb9 := Lib.hid (below_call hb8.out hb); have hL9 := Lib.hid (hL8.out.below hb); clear hz hb g1)
            | (go_at_call 25; refine (g3.out _ _ hb9.out hL9.out).mono ?_; rintro e w10 ⟨v10, rfl, hz, hb⟩; have hG3 := Lib.hid hz; have hb10 := Lib.hid (below_call hb9.out hb); have hG1b := Lib.hid (hG1.out.below hb); clear hz hb g3))
          go_ret
          exact ⟨rfl, hb10.out⟩
        · have hodd' := Lib.hid hodd
          have hsame' := Lib.hid hsame; clear hsame
          clear hodd hcase
          go_wp2_with (first
            | (go_at_call 41; refine (ho1.out _ _ _ hbz.out ho.out).mono ?_; rintro e w2 ⟨v2, rfl, hb⟩; have hb2 := Lib.hid (below_call hbz.out hb); have hk2 := Lib.hid (ho.out.below hb); have hL2 := Lib.hid (hLz.out.below hb); clear hb ho1)
            | (go_at_call 26; refine (h1.out _ _ _ hb2.out hk2.out).mono ?_; rintro e w3 ⟨v3, rfl, hz, hb⟩; have hA1 := Lib.hid hz; have hb3 := Lib.hid (below_call hb2.out hb); have hk3 := Lib.hid (hk2.out.below hb); have hL3 := Lib.hid (hL2.out.below hb); clear hz hb h1)
            | (go_at_call 25; refine (h3.out _ _ _ hb3.out hk3.out).mono ?_; rintro e w4 ⟨v4, rfl, hz, hb⟩; have hA3 := Lib.hid hz; have hb4 := Lib.hid (below_call hb3.out hb); have hk4 := Lib.hid (hk3.out.below hb); have hL4 := Lib.hid (hL3.out.below hb); have hA1b := Lib.hid (hA1.out.below hb); clear hz hb h3)
            | (go_at_call 27; refine (h4.out _ _ _ hb4.out hk4.out).mono ?_; rintro e w5 ⟨v5, rfl, hz, hb⟩; obtain ⟨a5, c5, rfl, -⟩ := id hz.shape; rw [hlenA'.out]; have hb5 := Lib.hid (below_call hb4.out hb); have hL5 := Lib.hid (hL4.out.below hb); have hA1c := Lib.hid (hA1b.out.below hb); have hA3c := Lib.hid (hA3.out.below hb); clear hz hb h4)
            | (go_at_call 29; refine (hsm.out _ _ _ hA1c.out.shape hA3c.out.shape).mono ?_; rintro e w6 ⟨rfl, hb⟩; have hb6 := Lib.hid (below_call hb5.out hb); have hL6 := Lib.hid (hL5.out.below hb); clear hb hsm)
            | (go_at_call 20; refine (hli.out _ hb6.out).mono ?_; rintro e w7 ⟨rfl, hb⟩; have hb7 := Lib.hid (below_call hb6.out hb); have hL7 := Lib.hid (hL6.out.below hb); clear hb hli)
            | (go_at_call 41; refine (hodd'.out _ _ hb7.out hL7.out).mono ?_; rintro e w8 ⟨v8, rfl, hb⟩; have hb8 := Lib.hid (below_call hb7.out hb); have hL8 := Lib.hid (hL7.out.below hb); clear hb hodd')
            | (go_at_call 26; refine (g1.out _ _ hb8.out hL8.out).mono ?_; rintro e w9 ⟨v9, rfl, hz, hb⟩; have hG1 := Lib.hid hz; have hb9 := Lib.hid (below_call hb8.out hb); have hL9 := Lib.hid (hL8.out.below hb); clear hz hb g1)
            | (go_at_call 25; refine (g3.out _ _ hb9.out hL9.out).mono ?_; rintro e w10 ⟨v10, rfl, hz, hb⟩; have hG3 := Lib.hid hz; have hb10 := Lib.hid (below_call hb9.out hb); have hG1b := Lib.hid (hG1.out.below hb); clear hz hb g3)
            | (go_at_call 29; refine (hsame'.out _ _ _ hG1b.out.shape hG3.out.shape).mono ?_; rintro e w11 ⟨rfl, hb⟩; have hb11 := Lib.hid (below_call hb10.out hb); clear hb hsame'))
          go_ret
          exact ⟨rfl, hb11.out⟩
  
  · go_enter Tryd.func13, Tryd.ntmps13
    go_upto_region 2 with (first
      | (go_at_call 43; refine (hm.out).mono ?_; rintro e w1 ⟨v1, rfl, ho, hb⟩; have hL1 := Lib.hid ho; have hb1 := Lib.hid hb; clear ho hb hm))
    obtain ⟨ao, c, rfl, hat⟩ := hL1.out.reads.at
    rw [toI_len, ← hN'.out] at hL1 ⊢
    have hat' := Lib.hid hat
    clear hat
    have hown0 := Lib.hid (show OwnP (w1.alloc (.cells #[] 58)) w1.heap.size (.slice (some ⟨w1.heap.size, 0, none⟩) 0 0) (toI ((L.take 0).filter (kp true))) from World.ownsRow_made w1 #[] 0 (Nat.le_refl _) (by unfold maxLen; omega) (by simp))
    have hbw := Lib.hid (below_alloc1 w1 (.cells #[] 58))
    go_wp2_with fail
    go_loopw [9, 10] (fun v p wr => ∃ i : Nat, i ≤ N ∧ p = .int .i64 (i : Int) ∧ Hid (OwnP wr w1.heap.size v (toI ((L.take i).filter (kp true)))) ∧ Hid (Below w1.heap.size w1 wr)) (fun _ p _ => N - (intOf p).toNat)
    case atStart => exact ⟨0, Nat.zero_le _, rfl, hown0, hbw⟩
    case round =>
      obtain ⟨i, hi, rfl, ho, hb⟩ := hrel
      by_cases hlt : i < N
      · have hix : i < L.length := by rw [← hN'.out]; exact hlt
        obtain ⟨g, oo, rfl, hg0, hc1⟩ := hat'.out (fun e => absurd (show (toI L).length = 0 from by rw [e]; rfl) (by rw [toI_len]; omega))
        obtain ⟨ca0, cb0⟩ := hc1 i (by rw [toI_len]; exact hix)
        have hq : (toI L).getD i (0, 0) = ((L[i].1 : Int), (L[i].2 : Int)) := by
          unfold toI
          rw [List.getD_eq_getElem?_getD, List.getElem?_map, List.getElem?_eq_getElem hix]; rfl
        rw [hq] at ca0 cb0
        have hw := hL'.out _ (List.getElem_mem hix)
        have hks := keep_snoc hix (kp true)
        have ca := (hb.out.cell (p := ⟨g, oo + i * 2, none⟩) hg0).trans ca0
        have cb := (hb.out.cell (p := ⟨g, oo + i * 2 + 1, none⟩) hg0).trans cb0
        simp only at ca cb
        generalize L[i] = x at ca cb hw hks
        obtain ⟨a, b⟩ := x
        obtain ⟨ha12, hb12⟩ := hw
        have hks' := Lib.hid hks
        clear hq ca0 cb0 hc1 hks
        simp only at ca cb ha12 hb12
        have hlen := Lib.hid (show (toI ((L.take i).filter (kp true))).length ≤ 999999 from by
          rw [toI_len]
          have := List.length_filter_le (kp true) (L.take i)
          rw [List.length_take] at this
          have := hN'.out
          omega)
        have hi1 : (i : Int) < N := by omega

        by_cases hab : (a + b) % 2 = 1
        · have hfin := Lib.hid (show toI ((L.take (i + 1)).filter (kp true)) = toI ((L.take i).filter (kp true)) ++ [((a : Int), (b : Int))] from by rw [hks'.out, if_pos (by unfold kp; simpa using hab), toI_snoc])
          have habI : ((a : Int) + b).tmod 2 = 1 := by rw [Int.tmod_eq_emod_of_nonneg (by omega)]; omega
          clear hab
          go_wp2
          go_quiet (fail)
          go_wp2_with (first
            | (at_builtin; refine app_pair (own_below ho.out (below_drewN (Below.refl _ wr) _)) hlen.out (below_drewN hb.out _).size rfl _ _ rfl rfl rfl ?_; intro v' w3 h1 h2; have h1q := Lib.hid h1; have h2q := Lib.hid h2; clear h1 h2))
          go_roundw
          case rel => exact ⟨i + 1, by omega, by go_num, Lib.hid (by rw [hfin.out]; exact h1q.out), Lib.hid ((below_drewN hb.out _).trans h2q.out)⟩
          case measure => simp [intOf]; omega
        · have hfin := Lib.hid (show toI ((L.take (i + 1)).filter (kp true)) = toI ((L.take i).filter (kp true)) from by rw [hks'.out, if_neg (by unfold kp; simpa using hab), List.append_nil])
          have habI : ¬ ((a : Int) + b).tmod 2 = 1 := by rw [Int.tmod_eq_emod_of_nonneg (by omega)]; omega
          clear hab
          go_wp2
          go_quiet (fail)
          go_wp2_with fail
          go_roundw
          case rel => exact ⟨i + 1, by omega, by go_num, Lib.hid (by rw [hfin.out]; exact own_below ho.out (below_drewN (Below.refl _ wr) _)), Lib.hid (below_drewN hb.out _)⟩
          case measure => simp [intOf]; omega
      · have htk : L.take i = L := List.take_of_length_le (by rw [← hN'.out]; omega)
        rw [htk] at ho
        have hbz := Lib.hid (below_call hb1.out hb.out)
        have hLz := Lib.hid (hL1.out.below hb.out)
        have hlenA : True := trivial
        have hlenA' := Lib.hid hlenA
        clear htk hlenA hone hb hL1 hb1 hat' hl40 hi hs1 hs12 hN' hL'
        rcases hcase.out with hodd | ⟨hodd, hsame⟩
        · have hodd' := Lib.hid hodd
          skip
          clear hodd hcase
          go_wp2_with (first
            | (go_at_call 41; refine (ho1.out _ _ _ hbz.out ho.out).mono ?_; rintro e w2 ⟨v2, rfl, hb⟩; have hb2 := Lib.hid (below_call hbz.out hb); have hk2 := Lib.hid (ho.out.below hb); have hL2 := Lib.hid (hLz.out.below hb); clear hb ho1)
            | (go_at_call 26; refine (h1.out _ _ _ hb2.out hk2.out).mono ?_; rintro e w3 ⟨v3, rfl, hz, hb⟩; have hA1 := Lib.hid hz; have hb3 := Lib.hid (below_call hb2.out hb); have hk3 := Lib.hid (hk2.out.below hb); have hL3 := Lib.hid (hL2.out.below hb); clear hz hb h1)
            | (go_at_call 25; refine (h3.out _ _ _ hb3.out hk3.out).mono ?_; rintro e w4 ⟨v4, rfl, hz, hb⟩; have hA3 := Lib.hid hz; have hb4 := Lib.hid (below_call hb3.out hb); have hk4 := Lib.hid (hk3.out.below hb); have hL4 := Lib.hid (hL3.out.below hb); have hA1b := Lib.hid (hA1.out.below hb); clear hz hb h3)
            | (go_at_call 27; refine (h4.out _ _ _ hb4.out hk4.out).mono ?_; rintro e w5 ⟨v5, rfl, hz, hb⟩; obtain ⟨a5, c5, rfl, -⟩ := id hz.shape; have hb5 := Lib.hid (below_call hb4.out hb); have hL5 := Lib.hid (hL4.out.below hb); have hA1c := Lib.hid (hA1b.out.below hb); have hA3c := Lib.hid (hA3.out.below hb); clear hz hb h4)
            | (go_at_call 29; refine (hsm.out _ _ _ hA1c.out.shape hA3c.out.shape).mono ?_; rintro e w6 ⟨rfl, hb⟩; have hb6 := Lib.hid (below_call hb5.out hb); have hL6 := Lib.hid (hL5.out.below hb); clear hb hsm)
            | (go_at_call 20; refine (hli.out _ hb6.out).mono ?_; rintro e w7 ⟨rfl, hb⟩; have hb7 := Lib.hid (below_call hb6.out hb); have hL7 := Lib.hid (hL6.out.below hb); clear hb hli)
            | (go_at_call 41; refine (hodd'.out _ _ hb7.out hL7.out).mono ?_; rintro e w8 ⟨v8, rfl, hb⟩; have hb8 := Lib.hid (below_call hb7.out hb); have hL8 := Lib.hid (hL7.out.below hb); clear hb hodd')
            | (go_at_call 26; refine (g1.out _ _ hb8.out hL8.out).mono ?_; rintro e w9 ⟨v9, rfl, hz, hb⟩; have hG1 := Lib.hid hz; have hb9 := Lib.hid (below_call hb8.out hb); have hL9 := Lib.hid (hL8.out.below hb); clear hz hb g1)
            | (go_at_call 25; refine (g3.out _ _ hb9.out hL9.out).mono ?_; rintro e w10 ⟨v10, rfl, hz, hb⟩; have hG3 := Lib.hid hz; have hb10 := Lib.hid (below_call hb9.out hb); have hG1b := Lib.hid (hG1.out.below hb); clear hz hb g3))
          go_ret
          exact ⟨rfl, hb10.out⟩
        · have hodd' := Lib.hid hodd
          have hsame' := Lib.hid hsame; clear hsame
          clear hodd hcase
          go_wp2_with (first
            | (go_at_call 41; refine (ho1.out _ _ _ hbz.out ho.out).mono ?_; rintro e w2 ⟨v2, rfl, hb⟩; have hb2 := Lib.hid (below_call hbz.out hb); have hk2 := Lib.hid (ho.out.below hb); have hL2 := Lib.hid (hLz.out.below hb); clear hb ho1)
            | (go_at_call 26; refine (h1.out _ _ _ hb2.out hk2.out).mono ?_; rintro e w3 ⟨v3, rfl, hz, hb⟩; have hA1 := Lib.hid hz; have hb3 := Lib.hid (below_call hb2.out hb); have hk3 := Lib.hid (hk2.out.below hb); have hL3 := Lib.hid (hL2.out.below hb); clear hz hb h1)
            | (go_at_call 25; refine (h3.out _ _ _ hb3.out hk3.out).mono ?_; rintro e w4 ⟨v4, rfl, hz, hb⟩; have hA3 := Lib.hid hz; have hb4 := Lib.hid (below_call hb3.out hb); have hk4 := Lib.hid (hk3.out.below hb); have hL4 := Lib.hid (hL3.out.below hb); have hA1b := Lib.hid (hA1.out.below hb); clear hz hb h3)
            | (go_at_call 27; refine (h4.out _ _ _ hb4.out hk4.out).mono ?_; rintro e w5 ⟨v5, rfl, hz, hb⟩; obtain ⟨a5, c5, rfl, -⟩ := id hz.shape; have hb5 := Lib.hid (below_call hb4.out hb); have hL5 := Lib.hid (hL4.out.below hb); have hA1c := Lib.hid (hA1b.out.below hb); have hA3c := Lib.hid (hA3.out.below hb); clear hz hb h4)
            | (go_at_call 29; refine (hsm.out _ _ _ hA1c.out.shape hA3c.out.shape).mono ?_; rintro e w6 ⟨rfl, hb⟩; have hb6 := Lib.hid (below_call hb5.out hb); have hL6 := Lib.hid (hL5.out.below hb); clear hb hsm)
            | (go_at_call 20; refine (hli.out _ hb6.out).mono ?_; rintro e w7 ⟨rfl, hb⟩; have hb7 := Lib.hid (below_call hb6.out hb); have hL7 := Lib.hid (hL6.out.below hb); clear hb hli)
            | (go_at_call 41; refine (hodd'.out _ _ hb7.out hL7.out).mono ?_; rintro e w8 ⟨v8, rfl, hb⟩; have hb8 := Lib.hid (below_call hb7.out hb); have hL8 := Lib.hid (hL7.out.below hb); clear hb hodd')
            | (go_at_call 26; refine (g1.out _ _ hb8.out hL8.out).mono ?_; rintro e w9 ⟨v9, rfl, hz, hb⟩; have hG1 := Lib.hid hz; have hb9 := Lib.hid (below_call hb8.out hb); have hL9 := Lib.hid (hL8.out.below hb); clear hz hb g1)
            | (go_at_call 25; refine (g3.out _ _ hb9.out hL9.out).mono ?_; rintro e w10 ⟨v10, rfl, hz, hb⟩; have hG3 := Lib.hid hz; have hb10 := Lib.hid (below_call hb9.out hb); have hG1b := Lib.hid (hG1.out.below hb); clear hz hb g3)
            | (go_at_call 29; refine (hsame'.out _ _ _ hG1b.out.shape hG3.out.shape).mono ?_; rintro e w11 ⟨rfl, hb⟩; have hb11 := Lib.hid (below_call hb10.out hb); clear hb hsame'))
          go_ret
          exact ⟨rfl, hb11.out⟩
end Go.Proofs.YtpcjigdmfchbdaaDoor
