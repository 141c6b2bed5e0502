import Derived.Test.YtfobdlllghpelaaXd
import Derived.Deep.RegionWith
namespace Go.Proofs.Ytfobdlllghpelaa
open Go.RowKit Go.Shelf Pair
attribute [local go_sem] Oper.semAt_some

def PricesEnd (w : World) (cs : List (List Int)) (n : Nat) (s : Int) (e : Ending) (w' : World) : Prop := ∃ (gU gV : Nat) (U V : List Int), e = .returned (.tuple #[.slice (some ⟨gU, 0, none⟩) n n, .slice (some ⟨gV, 0, none⟩) n n, .int .i64 0]) ∧
  Row w' w.heap.size gU n U ∧ Row w' w.heap.size gV n V ∧ prB n U = true ∧ prB n V = true ∧ allPr cs n U V (List.range' 0 n) = true ∧ totPr U V n = s ∧ Below w.heap.size w w'
/-- Two rows of zeros. -/
def Two0 (w1 wx : World) (n : Nat) (p q : Value) : Prop := ∃ gU gV, p = .slice (some ⟨gU, 0, none⟩) n n ∧ q = .slice (some ⟨gV, 0, none⟩) n n ∧ gU ≠ gV ∧ Row wx w1.heap.size gU n (List.replicate n 0) ∧ Row wx w1.heap.size gV n (List.replicate n 0) ∧ Below w1.heap.size w1 wx
theorem two0 {w1 wA : World} {n : Nat} (hn : n ≤ 1000000) (h : Below w1.heap.size w1 wA) :
    Row ((wA.alloc (mk0 n)).alloc (mk0 n)) w1.heap.size wA.heap.size n (List.replicate n 0) ∧ Row ((wA.alloc (mk0 n)).alloc (mk0 n)) w1.heap.size (wA.heap.size + 1) n (List.replicate n 0) ∧ Below w1.heap.size w1 ((wA.alloc (mk0 n)).alloc (mk0 n)) := by
  have h1 := mk_row (B := w1.heap.size) wA hn h.size
  have h2 := mk_row (B := w1.heap.size) (wA.alloc (mk0 n)) hn (by have := h.size; simp; omega)
  rw [World.size_alloc] at h2
  exact ⟨h1.below (below_alloc1 _ _), h2, (h.alloc h.size _).alloc (by have := h.size; simp; omega) _⟩

set_option maxHeartbeats 1000000 in
set_option maxRecDepth 100000 in
theorem prices32_bad {w : World} {v : Value} {cs : List (List Int)} (h : Cst w v cs) (hb : validC cs = false) :
    Calls Try.prog 32 #[v] w fun e w' => e = .returned (.tuple #[.slice none 0 0, .slice none 0 0, .int .i64 1]) ∧ Below w.heap.size w w' := by
  have hv := Lib.hid (cheapest28_bad h hb)
  clear h
  go_enter Try.func32, Try.ntmps32
  go_wp2_with fail
  refine (hv.out).mono ?_
  rintro e w1 ⟨rfl, hb1⟩
  go_wp2_with fail
  go_ret3
  exact ⟨rfl, hb1⟩

set_option maxHeartbeats 4000000 in
set_option maxRecDepth 100000 in
theorem prices32 {w : World} {v : Value} {cs : List (List Int)} {n : Nat} (h : Cst w v cs) (hb : validC cs = true) (hg : Good cs n) {x : List Nat} (hx : srch (decO ltI (· + ·) 0 (costAt cs) n) (nxtO ltI (· + ·) 0 (costAt cs) n) n n (2 ^ n - 1) (2 ^ n - 1) = some x) (hc : Cheap cs n x) :
    Calls Try.prog 32 #[v] w (PricesEnd w cs n (sumM cs 0 x)) := by
  have hcall := Lib.hid (cheapest28 h hb hg x hx)
  have hsq := h.sq hg
  obtain ⟨ao, c, rfl⟩ := hsq.val
  have hsq' := Lib.hid hsq
  have hn8 := hg.eight
  have hn1 := hg.one
  have hbd := Lib.hid hg.bd
  have hxl := Lib.hid (show (natI x).length = n by rw [natI_len, hc.1.1])
  have hxl2 := Lib.hid hc.1.1
  have hxb := Lib.hid (fun i (hi : i < n) => hc.1.at hi)
  have hbo := Lib.hid (fun (k r : Nat) (U V : List Int) (h : RInv cs n x k r U V) (j : Nat) (hj : j < n) => h.bound hg hc hj)
  have hnx := Lib.hid (fun (k r : Nat) (U V : List Int) (h : RInv cs n x k r U V) (hr : r < n) => h.next hg hc hr)
  have hro := Lib.hid (fun (k : Nat) (U V : List Int) (h : RInv cs n x k n U V) => h.round hc)
  have hin := Lib.hid (RInv.init (cs := cs) (p := x) hn1)
  have hok := Lib.hid (fun (U V : List Int) (h : RInv cs n x n 0 U V) (hd : RDone cs n x n U V) => prices_ok hg hc h hd)
  obtain ⟨O, hO⟩ : ∃ O, O = optI cs n n (2 ^ n - 1) := ⟨_, rfl⟩
  rw [← hO] at hcall
  have hmk := fun (W : World) => make_eq W n (by omega)
  clear h hb hg hsq hO hx hc
  go_enter Try.func32, Try.ntmps32
  go_wp2_with fail
  refine (hcall.out).mono ?_
  rintro e w1 ⟨⟨g, rfl, hrow⟩, hb1⟩
  have hp1 := Lib.hid hrow.reads
  have hs1 := Lib.hid (hsq'.out.below hb1)
  have hs1' := Lib.hid hs1.out
  have hb1' := Lib.hid hb1
  clear hrow hb1 hcall
  go_upto_region 4 with fail
  go_cut [8, 9] from 23 to 28 (fun p q wx => Two0 w1 wx n p q)
  case first =>
    refine wp_region_noPanic ?_
    go_region_with (fail)
    all_goals refine NoPanic.normal ?_
    all_goals go_wp2_with fail
    all_goals go_meet
    all_goals obtain ⟨z1, z2, z3⟩ := two0 (n := n) (by omega) (Below.refl w1.heap.size w1)
    · exact ⟨_, _, rfl, rfl, by omega, z1.below (Below.refl _ _).drew, z2.below (Below.refl _ _).drew, z3.drew⟩
    · exact ⟨_, _, rfl, rfl, by omega, z2.below (Below.refl _ _).drew, z1.below (Below.refl _ _).drew, z3.drew⟩
  case rest =>
    obtain ⟨gU, gV, rfl, rfl, hne, hU0, hV0, hb2⟩ := hcut
    have hp2 := Lib.hid (hp1.out.below hb2)
    have hs2 := Lib.hid (hs1.out.below hb2)
    have hU0' := Lib.hid hU0
    have hV0' := Lib.hid hV0
    have hb2' := Lib.hid hb2
    have hne' : gV ≠ gU := Ne.symm hne
    clear hU0 hV0 hb2 hs1
    go_wp2_with fail
    go_loopw [31] (fun kv wr => ∃ (k : Nat) (U V : List Int), k ≤ n ∧ kv = .int .i64 k ∧ Hid (Row wr w1.heap.size gU n U) ∧ Hid (Row wr w1.heap.size gV n V) ∧ Hid (RInv cs n x k 0 U V) ∧ Hid (RDone cs n x k U V) ∧ Hid (Below w1.heap.size w1 wr)) (fun kv _ => n - (intOf kv).toNat)
    case atStart => exact ⟨0, _, _, Nat.zero_le _, rfl, hU0', hV0', Lib.hid hin.out.1, Lib.hid hin.out.2, hb2'⟩
    case round =>
      obtain ⟨k, U, V, hk, rfl, hU, hV, hR, hD, hbw⟩ := hrel
      clear hU0' hV0' hb2' hp2 hs2
      by_cases hkn : k < n
      · clear hD
        go_wp2_with fail
        go_loopw [35] (fun rv wr => ∃ (r : Nat) (U V : List Int), r ≤ n ∧ rv = .int .i64 r ∧ Hid (Row wr w1.heap.size gU n U) ∧ Hid (Row wr w1.heap.size gV n V) ∧ Hid (RInv cs n x k r U V) ∧ Hid (Below w1.heap.size w1 wr)) (fun rv _ => n - (intOf rv).toNat)
        case atStart => exact ⟨0, U, V, Nat.zero_le _, rfl, hU, hV, hR, hbw⟩
        case round =>
          clear hU hV hR hbw
          obtain ⟨r, U, V, hr, rfl, hU, hV, hR, hbw⟩ := hrel
          by_cases hrn : r < n
          · have hrl : r < x.length := by rw [hxl2.out]; exact hrn
            obtain ⟨gp, op, ep, hgp, hcp⟩ := hp1.out.at hxl.out hrn
            injection ep with ep
            injection ep with ep1 ep2
            subst ep1 ep2
            have cp := (hbw.out.cell (p := ⟨g, 0 + r, none⟩) hgp).trans (hcp r hrn)
            rw [natI_at x r hrl, Nat.zero_add] at cp
            have han := hxb.out r hrn
            have hnext := Lib.hid (hnx.out k r U V hR.out hrn)
            obtain ⟨a, haq⟩ : ∃ a, a = x.getD r 0 := ⟨_, rfl⟩
            rw [← haq] at cp han hnext
            obtain ⟨g3, o3, rfl, hg3, g4, o4, rc4, c3, hg4, hc4⟩ := hs1'.out.at hrn
            have cc3 := (hbw.out.cell (p := ⟨g3, o3 + r, none⟩) hg3).trans c3
            have cc4 := (hbw.out.cell (p := ⟨g4, o4 + a, none⟩) hg4).trans (hc4 a han)
            have hcb := hbd.out r a hrn han
            have cv := hV.out.cell han
            have hvb := hbo.out k r U V hR.out a han
            have cu := hU.out.cell hrn
            have fu := hU.out.frozen r
            have hltU := hU.out.lt
            have hltV := hV.out.lt
            obtain ⟨c0, hc0⟩ : ∃ c, c = costAt cs r a := ⟨_, rfl⟩
            rw [← hc0] at cc4 hcb hnext
            obtain ⟨va, hva⟩ : ∃ va, va = V.getD a 0 := ⟨_, rfl⟩
            rw [← hva] at cv hvb hnext
            have hc4' := Lib.hid hc4
            have c3' := Lib.hid c3
            have hsubw : IntKind.i64.wrap (c0 - va) = c0 - va := IntWalk.i64_in _ (by omega)
            obtain ⟨u, hu⟩ : ∃ u, u = c0 - va := ⟨_, rfl⟩
            rw [← hu] at hnext hsubw
            have hub : -10000 ≤ u ∧ u ≤ 10000 := by omega
            have hUs := Lib.hid ((hU.out.set r u).below (Below.refl _ _).drew)
            have hVs := Lib.hid ((hV.out.other (b := gU) (i := r) (u := .int .i64 u) hne).below (Below.refl _ _).drew)
            have hbs := Lib.hid ((below_set (k := r) (u := .int .i64 u) hbw.out hltU.1).drew)
            clear hc4 c3 hcp haq hc0 hva
            go_wp2_with fail
            refine wp_region_still_tail 15 (by kernel_rfl) (by kernel_rfl) ?_
            simp only [List.take_succ_cons, List.take_zero, List.drop_succ_cons, List.drop_zero]
            iterate 15 still_step
            refine wpStill_nil ?_
            go_wp2_with fail
            rw [← hu]
            obtain ⟨w6, hw6⟩ : ∃ w6, w6 = (wr.setCell ⟨gU, r, none⟩ (.int .i64 u)).drew := ⟨_, rfl⟩
            rw [← hw6] at hUs hVs hbs ⊢
            have hvz := Lib.hid (vTo_zero (cs := cs) (row := r) (u := u) hR.out.lv)
            have hlu := Lib.hid hR.out.lu
            have hbV := Lib.hid (fun j (hj : j < n) => hbo.out k r U V hR.out j hj)
            clear hw6 hu hsubw cp cc3 cc4 cv cu fu hU hV hbw hR
            go_wp2_with fail
            go_loopw [60] (fun jv wr => ∃ j : Nat, j ≤ n ∧ jv = .int .i64 j ∧ Hid (Row wr w1.heap.size gU n (U.set r u)) ∧ Hid (Row wr w1.heap.size gV n (vTo cs n r u V j)) ∧ Hid (Below w1.heap.size w1 wr)) (fun jv _ => n - (intOf jv).toNat)
            case atStart => exact ⟨0, Nat.zero_le _, rfl, hUs, Lib.hid (by rw [hvz.out]; exact hVs.out), hbs⟩
            case round =>
              clear hUs hVs hbs
              obtain ⟨j, hj, rfl, hU, hV, hbw⟩ := hrel
              by_cases hjn : j < n
              · have cc3 := (hbw.out.cell (p := ⟨g3, o3 + r, none⟩) hg3).trans c3'.out
                have cc4 := (hbw.out.cell (p := ⟨g4, o4 + j, none⟩) hg4).trans (hc4'.out j hjn)
                have hcb := hbd.out r j hrn hjn
                have cu := hU.out.cell hrn
                rw [show (U.set r u).getD r 0 = u by have : r < U.length := by rw [hlu.out]; exact hrn
                                                     simp [List.getD_eq_getElem?_getD, this]] at cu
                have cv := hV.out.cell hjn
                rw [vTo_at hjn, if_neg (by omega)] at cv
                have hvj := hbV.out j hjn
                have fv := hV.out.frozen j
                have hltV := hV.out.lt
                have hvn := Lib.hid (vTo_next (cs := cs) (n := n) (row := r) (u := u) (V := V) (j := j))
                obtain ⟨cj, hcj⟩ : ∃ c, c = costAt cs r j := ⟨_, rfl⟩
                rw [← hcj] at cc4 hcb hvn
                obtain ⟨vj, hvjq⟩ : ∃ v, v = V.getD j 0 := ⟨_, rfl⟩
                rw [← hvjq] at cv hvj hvn
                obtain ⟨mn, hmn⟩ : ∃ mn, mn = min vj (cj - u) := ⟨_, rfl⟩
                rw [← hmn] at hvn
                have hmn2 : min vj (cj - u) = mn := hmn.symm
                have hVs := Lib.hid ((hV.out.set j mn).below (Below.refl _ _).drew)
                rw [hvn.out] at hVs
                have hUs := Lib.hid ((hU.out.other (b := gV) (i := j) (u := .int .i64 mn) hne').below (Below.refl _ _).drew)
                have hbs := Lib.hid ((below_set (k := j) (u := .int .i64 mn) hbw.out hltV.1).drew)
                clear hcj hvjq hmn
                go_wp2_with fail
                refine wp_region_still_tail 14 (by kernel_rfl) (by kernel_rfl) ?_
                simp only [List.take_succ_cons, List.take_zero, List.drop_succ_cons, List.drop_zero]
                iterate 14 still_step
                refine wpStill_nil ?_
                go_wp2_with fail
                go_roundw
                case rel => exact ⟨j + 1, by omega, by go_num, hUs, hVs, hbs⟩
                case measure => simp [intOf]; omega
              · obtain rfl : n = j := by omega
                go_wp2_with fail
                go_roundw
                case rel => exact ⟨r + 1, U.set r u, vTo cs n r u V n, by omega, by go_num, hU, hV, hnext, hbw⟩
                case measure => simp [intOf]; omega
          · obtain rfl : n = r := by omega
            have hrd := hro.out k U V hR.out
            have hrd1 := Lib.hid hrd.1
            have hrd2 := Lib.hid hrd.2
            clear hrd hR
            go_wp2_with fail
            go_roundw
            case rel => exact ⟨k + 1, U, V, by omega, by go_num, hU, hV, hrd1, hrd2, hbw⟩
            case measure => simp [intOf]; omega
      · obtain rfl : n = k := by omega
        obtain ⟨z1, z2, z3, z4⟩ := hok.out U V hR.out hD.out
        have hz := Lib.hid (And.intro z1 (And.intro z2 (And.intro z3 z4)))
        have hs0 := hb1'.out.size
        clear z1 z2 z3 z4 hR hD
        go_wp2_with fail
        go_ret3
        exact ⟨gU, gV, U, V, rfl, hU.out.base hs0, hV.out.base hs0, hz.out.1, hz.out.2.1, hz.out.2.2.1, hz.out.2.2.2, below_call hb1'.out hbw.out⟩
end Go.Proofs.Ytfobdlllghpelaa
