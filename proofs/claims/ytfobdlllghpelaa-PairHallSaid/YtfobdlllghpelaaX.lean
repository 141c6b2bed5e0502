import Derived.Test.YtfobdlllghpelaaW
namespace Go.Proofs.Ytfobdlllghpelaa
open Go.RowKit Go.Shelf Pair
attribute [local go_sem] Oper.semAt_some

def RfIs (wr : World) (B : Nat) (v : Value) : Option (List Nat) → Prop
  | none => v = .slice none 0 0
  | some l => Ints wr B v (natI l) ∧ l.length ≤ 8 ∧ l ≠ []
theorem RfIs.below {w w' : World} {B : Nat} {v : Value} : ∀ {o : Option (List Nat)}, RfIs w B v o → Below w.heap.size w w' → RfIs w' B v o
  | none, h, _ => h
  | some _, h, hb => ⟨h.1.below hb, h.2⟩
def RfEnd (w : World) (o : Option (List Nat)) (e : Ending) (w' : World) : Prop := ∃ v, e = .returned v ∧ RfIs w' w.heap.size v o ∧ Below w.heap.size w w'

set_option maxHeartbeats 4000000 in
set_option maxRecDepth 100000 in
theorem refLacks31 {w : World} {v : Value} {cs : List (List Int)} {n : Nat} (h : Cst w v cs) (hg : Good cs n) (lim : Int) :
    Calls Try.prog 31 #[v, .int .i64 lim] w (RfEnd w (lkM (alwL cs 0 lim n) (2 ^ n))) := by
  have hsq := h.sq hg
  obtain ⟨ao, c, rfl⟩ := hsq.val
  have hsq' := Lib.hid hsq
  have hn8 := hg.eight
  have hn1 := hg.one
  have hp := pow_tab n hn8
  have hN1 := pow_le n hn8
  have hN2 := pow_ge n hn1 hn8
  have hcst : Hid (∀ S, S < 2 ^ n → hdN cs lim (bl S) n = szS (hdlK (alwL cs 0 lim n) (bl S))) := Lib.hid (fun S hS => hdN_eq hn8 hg.bd (fun i hi => by
    obtain ⟨k, hk, he⟩ := List.mem_iff_getElem.1 hi
    have hm := bl_mem (S := S) (j := i) (k := k) (by rw [List.getElem?_eq_getElem hk, he])
    apply Classical.byContradiction
    intro e
    have := low_bit hS (show n ≤ i by omega)
    rw [this] at hm; simp at hm))
  have hbT := Lib.hid (fun (S : Nat) (hS : S < 2 ^ n) => blT_all hS hn8)
  obtain ⟨al, hal⟩ : ∃ al, al = alwL cs 0 lim n := ⟨_, rfl⟩
  rw [← hal] at hcst ⊢
  obtain ⟨N, hN⟩ : ∃ N, N = 2 ^ n := ⟨_, rfl⟩
  rw [← hN] at hp hN1 hN2 hcst hbT ⊢
  clear hN h hg hal hsq
  have hnil := nil_eq
  have hz1 := Lib.hid (lkM_zero al)
  go_enter Try.func31, Try.ntmps31
  go_wp2_with fail
  go_loopw [5, 6] (fun vb iv wr => ∃ S : Nat, 1 ≤ S ∧ S ≤ N ∧ iv = .int .i64 S ∧ Hid (RfIs wr w.heap.size vb (lkM al S)) ∧ Hid (Below w.heap.size w wr)) (fun _ iv _ => N - (intOf iv).toNat)
  case atStart => exact ⟨1, by omega, by omega, rfl, Lib.hid (by rw [hz1.out]; rfl), Lib.hid (Below.refl _ _)⟩
  case round =>
    obtain ⟨S, hS1, hS, rfl, hk, hbw⟩ := hrel
    by_cases hlt : S < N
    · have hS8 : S < 256 := by omega
      go_wp2_with fail
      have hi0 := Lib.hid (Ints.lit wr wr.heap.size (Nat.le_refl _))
      have hb0 := Lib.hid (below_alloc1 wr (.cells #[] 3))
      have hwsz := hbw.out.size
      obtain ⟨w1, hw1⟩ : ∃ w1, w1 = wr.alloc (.cells #[] 3) := ⟨_, rfl⟩
      rw [← hw1] at hi0 hb0 ⊢
      obtain ⟨q0, hq0⟩ : ∃ q0, q0 = wr.heap.size := ⟨_, rfl⟩
      rw [← hq0] at hi0 hb0 hwsz ⊢
      have hq := Lib.hid hq0
      clear hw1 hq0
      obtain ⟨wo, hwo⟩ : ∃ wo, wo = wr := ⟨_, rfl⟩
      rw [← hwo] at hk hbw hq hb0
      clear hwo
      go_loopw [7, 9] (fun p iv wr => ∃ i : Nat, i ≤ n ∧ iv = .int .i64 i ∧ Hid (Ints wr q0 p (natI (blT S i))) ∧ Hid (Below q0 wo wr)) (fun _ iv _ => n - (intOf iv).toNat)
      case atStart => exact ⟨0, Nat.zero_le _, rfl, Lib.hid (by simpa [natI, blT] using hi0.out), hb0⟩
      case round =>
        obtain ⟨i, hi, rfl, hrow, hb⟩ := hrel
        by_cases hin : i < n
        · have hsh := Lib.hid (sh_tab S hS8 i (by omega))
          have hsc := Lib.hid (blT_succ S i)
          have hlen := blT_len S i
          rw [show min i 64 = i by omega] at hsh
          obtain ⟨bv, hbv⟩ : ∃ bv, bv = S.testBit i := ⟨_, rfl⟩
          rw [← hbv] at hsh hsc
          clear hbv
          cases bv with
          | false =>
            have hsh' : (bits BinOp.and IntKind.i64 ((S : Int) / 2 ^ i) 1 == 1) = false := hsh.out
            have hsc' := Lib.hid (show blT S (i + 1) = blT S i by rw [hsc.out]; rfl)
            go_wp2_with fail
            go_roundw
            case rel => exact ⟨i + 1, by omega, by go_num, Lib.hid (by rw [hsc'.out]; exact hrow.out), hb⟩
            case measure => simp [intOf]; omega
          | true =>
            have hsh' : (bits BinOp.and IntKind.i64 ((S : Int) / 2 ^ i) 1 == 1) = true := hsh.out
            have hsc' := Lib.hid (show natI (blT S (i + 1)) = natI (blT S i) ++ [(i : Int)] by rw [hsc.out]; simp [natI])
            have hlen' := Lib.hid (show (natI (blT S i)).length ≤ 1000000000 by rw [natI_len]; omega)
            have hsz := hb.out.size
            have hsz2 : q0 ≤ wr.heap.size := by rw [hq.out]; exact hsz
            go_wp2_with (first | (at_builtin; go_loud (refine app_int hrow.out hlen'.out hsz2 rfl _ _ rfl rfl rfl ?_); intro v' w2 hown2 hb4))
            go_roundw
            case rel => exact ⟨i + 1, by omega, by go_num, Lib.hid (by rw [hsc'.out]; exact hown2), Lib.hid (hb.out.trans hb4)⟩
            case measure => simp [intOf]; omega
        · obtain rfl : n = i := by omega
          have hLn := Lib.hid (show ∀ x ∈ bl S, x < n from fun x hx => by
            rw [← hbT.out S hlt] at hx
            unfold blT at hx
            rw [List.mem_filter, List.mem_range] at hx
            exact hx.1)
          have hrow2 : Ints wr q0 u7 (natI (bl S)) := by rw [← hbT.out S hlt]; exact hrow.out
          have hLk := Lib.hid (show lackB al S = decide (hdN cs lim (bl S) n < (bl S).length) by rw [hcst.out S hlt]; rfl)
          have hLne : bl S ≠ [] := fun e => by
            have := (szS_zero S hS8).1 (by show (bl S).length = 0; rw [e]; rfl)
            omega
          have hL8 := bl_len S
          have hstep := Lib.hid (show lkM al (S + 1) = if lackB al S then lkStep (lkM al S) (bl S) else lkM al S from rfl)
          obtain ⟨L, hL⟩ : ∃ L, L = bl S := ⟨_, rfl⟩
          rw [← hL] at hLn hrow2 hLk hLne hL8 hstep
          clear hL hrow hi hin
          have hb' : Below wo.heap.size wo wr := by rw [← hq.out]; exact hb.out
          have hbwr := Lib.hid (below_call hbw.out hb')
          have hkr := Lib.hid (hk.out.below hb')
          have hsqr := Lib.hid (hsq'.out.below hbwr.out)
          obtain ⟨g7, cap7, rfl, hg7, hc7, hr7⟩ := int_val hrow2 hLne
          have hr7' := Lib.hid hr7
          have hc7' := Lib.hid hc7
          have hrow2' := Lib.hid hrow2
          obtain ⟨m, hm⟩ : ∃ m, m = L.length := ⟨_, rfl⟩
          rw [← hm] at hL8 hc7' hr7' hrow2' hLk ⊢
          have hm' := Lib.hid hm
          clear hm hr7 hc7 hrow2 hb hk hbw hb'
          go_wp2_with fail
          go_loop [8, 10] (fun f i => ∃ k : Nat, k ≤ n ∧ i = .int .i64 k ∧ f = .int .i64 (hdN cs lim L k : Nat)) (fun _ i => n - (intOf i).toNat)
          case atStart => exact ⟨0, Nat.zero_le _, rfl, rfl⟩
          case round =>
            obtain ⟨k, hk, rfl, rfl⟩ := hrel
            have hsc := Lib.hid (hdN_succ cs lim L k)
            have hH8 : hdN cs lim L k ≤ k := by
              unfold hdN
              have h := List.length_filter_le (nbS cs lim L) (List.range k)
              rw [List.length_range] at h; exact h
            obtain ⟨H, hH⟩ : ∃ H, H = hdN cs lim L k := ⟨_, rfl⟩
            rw [← hH] at hsc hH8 ⊢
            by_cases hkn : k < n
            · clear hH
              go_wp2_with fail
              go_loop [11, 12] (fun b i => ∃ r : Nat, r ≤ m ∧ i = .int .i64 r ∧ b = .bool (nbS cs lim (L.take r) k)) (fun _ i => m - (intOf i).toNat)
              case atStart => exact ⟨0, Nat.zero_le _, rfl, rfl⟩
              case round =>
                obtain ⟨r, hr, rfl, rfl⟩ := hrel
                by_cases hrm : r < m
                · have hrL : r < L.length := by rw [← hm'.out]; exact hrm
                  have hxn := hLn.out (L.getD r 0) (by rw [List.getD_eq_getElem?_getD, List.getElem?_eq_getElem hrL]; simp)
                  have c7 := hc7'.out r hrm
                  have hsn := Lib.hid (show nbS cs lim (L.take (r + 1)) k = (nbS cs lim (L.take r) k || decide (costAt cs (L.getD r 0) k ≤ lim)) by
                    unfold nbS
                    rw [List.take_succ_eq_append_getElem hrL, List.any_append]
                    simp [List.getD_eq_getElem?_getD, hrL])
                  obtain ⟨x, hx⟩ : ∃ x, x = L.getD r 0 := ⟨_, rfl⟩
                  rw [← hx] at hxn c7 hsn
                  clear hx
                  obtain ⟨g1, o1, rfl, hg1, g2, o2, rc, c1, hg2, hc2⟩ := hsqr.out.at hxn
                  have c2 := hc2 k hkn
                  obtain ⟨y, hy⟩ : ∃ y, y = costAt cs x k := ⟨_, rfl⟩
                  rw [← hy] at c2 hsn
                  clear hc2 hy
                  obtain ⟨b, hb⟩ : ∃ b, b = nbS cs lim (L.take r) k := ⟨_, rfl⟩
                  rw [← hb] at hsn ⊢
                  clear hb
                  cases b with
                  | true =>
                    go_wp2_with fail
                    go_round
                    case rel => exact ⟨r + 1, by omega, by go_num, by rw [hsn.out]; rfl⟩
                    case measure => simp [intOf]; omega
                  | false =>
                    go_wp2_with fail
                    go_round
                    case rel => exact ⟨r + 1, by omega, by go_num, by rw [hsn.out]; rfl⟩
                    case measure => simp [intOf]; omega
                · have hfin := Lib.hid (show nbS cs lim (L.take r) k = nbS cs lim L k by rw [List.take_of_length_le (by rw [← hm'.out]; omega)])
                  rw [hfin.out]
                  obtain ⟨b, hb⟩ : ∃ b, b = nbS cs lim L k := ⟨_, rfl⟩
                  rw [← hb] at hsc ⊢
                  clear hb
                  cases b with
                  | true =>
                    go_wp2_with fail
                    go_round
                    case rel => exact ⟨k + 1, by omega, by go_num, by rw [hsc.out]; simp⟩
                    case measure => simp [intOf]; omega
                  | false =>
                    go_wp2_with fail
                    go_round
                    case rel => exact ⟨k + 1, by omega, by go_num, by rw [hsc.out]; simp⟩
                    case measure => simp [intOf]; omega
            · have hkn' : n = k := by omega
              rw [← hkn'] at hH
              rw [← hH] at hLk
              clear hH hkn'
              have hnew := Lib.hid (show RfIs wr w.heap.size (.slice (some ⟨g7, 0, none⟩) m cap7) (some L) from ⟨hrow2'.out.base hwsz, by rw [← hm'.out]; exact hL8, hLne⟩)
              clear hc7' hsc hH8 hsqr hrow2' hLn hLne
              by_cases hHm : H < m
              case neg =>
                have hst := Lib.hid (show lkM al (S + 1) = lkM al S by rw [hstep.out, hLk.out, decide_eq_false hHm]; rfl)
                go_wp2_with fail
                go_roundw
                case rel => exact ⟨S + 1, by omega, by omega, by go_num, Lib.hid (by rw [hst.out]; exact hkr.out), hbwr⟩
                case measure => simp [intOf]; omega
              have hst0 := Lib.hid (show lkM al (S + 1) = lkStep (lkM al S) L by rw [hstep.out, hLk.out, decide_eq_true hHm]; rfl)
              clear hLk hstep
              obtain ⟨o, ho⟩ : ∃ o, o = lkM al S := ⟨_, rfl⟩
              rw [← ho] at hkr hst0
              clear ho
              cases o with
              | none =>
                have e5 : u5 = .slice none 0 0 := hkr.out
                subst e5
                have hst := Lib.hid (show lkM al (S + 1) = some L from hst0.out)
                go_wp2_with fail
                go_roundw
                case rel => exact ⟨S + 1, by omega, by omega, by go_num, Lib.hid (by rw [hst.out]; exact hnew.out), hbwr⟩
                case measure => simp [intOf]; omega
              | some b =>
                obtain ⟨hvb, hb8, hbne⟩ := hkr.out
                obtain ⟨gb, capb, rfl, _, _, hrb⟩ := int_val hvb hbne
                have hst1 := Lib.hid (show lkM al (S + 1) = if befB L b then some L else some b from hst0.out)
                have hrb' := Lib.hid hrb
                clear hst0 hvb hbne hrb
                obtain ⟨mb, hmb⟩ : ∃ mb, mb = b.length := ⟨_, rfl⟩
                rw [← hmb] at hrb' hb8 hkr ⊢
                have hmb' := Lib.hid hmb
                clear hmb
                by_cases hlt2 : m < mb
                · have hst := Lib.hid (show lkM al (S + 1) = some L by rw [hst1.out, befB_lt (by rw [← hm'.out, ← hmb'.out]; exact hlt2)]; rfl)
                  go_wp2_with fail
                  go_roundw
                  case rel => exact ⟨S + 1, by omega, by omega, by go_num, Lib.hid (by rw [hst.out]; exact hnew.out), hbwr⟩
                  case measure => simp [intOf]; omega
                · by_cases hgt : mb < m
                  · have hst := Lib.hid (show lkM al (S + 1) = some b by rw [hst1.out, befB_gt (by rw [← hm'.out, ← hmb'.out]; exact hgt)]; rfl)
                    have hd1 : ((m : Int) == (mb : Int)) = false := by simp; omega
                    go_wp2_with fail
                    go_roundw
                    case rel => exact ⟨S + 1, by omega, by omega, by go_num, Lib.hid (by rw [hst.out]; exact hkr.out), hbwr⟩
                    case measure => simp [intOf]; omega
                  · obtain rfl : m = mb := by omega
                    have hls := Lib.hid (less58 hr7'.out hrb'.out (by rw [natI_len, ← hm'.out]; omega) (by rw [natI_len, natI_len, ← hm'.out, ← hmb'.out]))
                    have hbe := Lib.hid (befB_eq (l := L) (b := b) (by rw [← hm'.out, ← hmb'.out]))
                    obtain ⟨d, hd⟩ : ∃ d, d = decide (cmpL (natI L) (natI b) < 0) := ⟨_, rfl⟩
                    rw [← hd] at hls hbe
                    clear hd
                    cases d with
                    | true =>
                      have hst := Lib.hid (show lkM al (S + 1) = some L by rw [hst1.out, hbe.out]; rfl)
                      go_wp2_with fail
                      refine (hls.out).mono ?_
                      rintro e w2 ⟨rfl, hb2⟩
                      have hnew2 := Lib.hid (hnew.out.below hb2)
                      have hbw2 := Lib.hid (below_call hbwr.out hb2)
                      clear hb2
                      go_wp2_with fail
                      go_roundw
                      case rel => exact ⟨S + 1, by omega, by omega, by go_num, Lib.hid (by rw [hst.out]; exact hnew2.out), hbw2⟩
                      case measure => simp [intOf]; omega
                    | false =>
                      have hst := Lib.hid (show lkM al (S + 1) = some b by rw [hst1.out, hbe.out]; rfl)
                      go_wp2_with fail
                      refine (hls.out).mono ?_
                      rintro e w2 ⟨rfl, hb2⟩
                      have hk2 := Lib.hid (hkr.out.below hb2)
                      have hbw2 := Lib.hid (below_call hbwr.out hb2)
                      clear hb2
                      go_wp2_with fail
                      go_roundw
                      case rel => exact ⟨S + 1, by omega, by omega, by go_num, Lib.hid (by rw [hst.out]; exact hk2.out), hbw2⟩
                      case measure => simp [intOf]; omega
    · have hSN : N = S := by omega
      have hk' := Lib.hid (show RfIs wr w.heap.size u5 (lkM al N) by rw [hSN]; exact hk.out)
      clear hk
      go_wp2_with fail
      go_ret
      exact ⟨_, rfl, hk'.out, hbw.out⟩
end Go.Proofs.Ytfobdlllghpelaa
