import Derived.Test.YtpcjigdmfchbdaaDoorZx
import Derived.Test.YtpcjigdmfchbdaaDoorYx
import Derived.BigQuiet
import Derived.Deep.CutRange
import Derived.Deep.RegionWith
import Derived.StillTailTactics
namespace Go.Proofs.YtpcjigdmfchbdaaDoor
open Go.RowKit Go.Shelf Cl

attribute [local go_sem] Oper.semAt_some

theorem ReadsP.slice {w : World} {ao : Option Addr} {n c m : Nat} {ps : List (Int × Int)} (h : ReadsP w (.slice ao n c) ps) (hn : ps.length = n) (hm : m ≤ n) : ReadsP w (.slice ao m c) (ps.take m) := by
  obtain ⟨h1, a1, c1, e, h2, h3, h4⟩ := h
  simp only [Value.slice.injEq] at e
  obtain ⟨rfl, -, rfl⟩ := e
  have hl : (ps.take m).length = m := by rw [List.length_take]; omega
  refine ⟨by rw [flat_len encP_len], ao, c, by rw [hl], by rw [hl]; omega, h3, fun hne => ?_⟩
  rw [hl] at hne
  obtain ⟨g, o, rfl, hg, hc⟩ := h4 (by omega)
  refine ⟨g, o, rfl, hg, fun j u hj => hc j u ?_⟩
  rw [flat_take encP_len] at hj
  rw [List.getElem?_take] at hj
  split at hj
  · exact hj
  · cases hj
/-- append(s, src...) of pairs that are only read. -/
theorem app_pairsR {ops : Array Oper} {rest : List Oper} {o : Oper} {a : Act} {Q : Exit → Act → World → Prop} {w : World} {B : Nat} {v u : Value} {ps qs : List (Int × Int)}
    (hown : OwnP w B v ps) (hu : ReadsP w u qs) (hlen : ps.length + qs.length ≤ 1000000) (hB : B ≤ w.heap.size) (hgd : o.guard = none) (s x : Operand)
    (ho : o.op = .call { callee := .builtin .append, args := #[s, x], argTypes := #[22, 22] }) (hs : a.eval s = v) (hx : a.eval x = u)
    (h : ∀ v' w', OwnP w' B v' (ps ++ qs) → Below B w w' → wpList Tryd.prog ops Q rest (a.put o.dst v') w') : wpList Tryd.prog ops Q (o :: rest) a w := by
  obtain ⟨i0, hi, hz0, hz1, hz2⟩ := info_parts info58
  obtain ⟨h0, ao, c, rfl, hc, hnone, hcl⟩ := id hu
  cases ao with
  | none =>
    obtain rfl := hnone rfl
    have hq : qs = [] := List.length_eq_zero_iff.1 (by omega)
    subst hq
    refine wpList_append_own_none hgd s x 22 ho B 58 i0 2 Tryd.underlying22 hi v ps.length (flat encP ps) hs hown hx ?_
    exact h v w (by simpa using hown) (Below.refl _ _)
  | some ad =>
    refine app_flat Tryd.underlying22 hi hz0 hz1 hz2 rfl (by decide) (by decide) hown hu ?_ hlen hB hgd s x ho hs hx ?_
    · intro z hz
      obtain ⟨q, _, hq⟩ := List.mem_flatMap.1 hz
      simp only [encP, List.mem_cons, List.not_mem_nil, or_false] at hq
      rcases hq with rfl | rfl <;> rfl
    · intro v' w' h2 h3 _
      refine h v' w' ?_ ((Below.refl B w).grown h3 hB (fun k hk => (World.ownsRow.lt hown k hk).1))
      unfold OwnP
      rw [List.length_append, flat_app]
      exact h2
def InPs (w : World) (v : Value) (ps : List (Int × Int)) : Prop := ReadsP w v ps ∧ ps.length ≤ maxLen
set_option maxRecDepth 100000 in
set_option maxHeartbeats 2000000 in
theorem few16 {w : World} {v : Value} {ps : List (Int × Int)} (h : InPs w v ps) :
    Calls Tryd.prog 16 #[v] w fun e w' => ∃ v', e = .returned v' ∧ OwnP w' w.heap.size v' (ps.take 41) ∧ Below w.heap.size w w' := by
  obtain ⟨hr, hm⟩ := h
  obtain ⟨-, ao, c, rfl, hc, -⟩ := id hr
  obtain ⟨n, hn⟩ : ∃ n, n = ps.length := ⟨_, rfl⟩
  rw [← hn] at hr hc hm ⊢
  obtain ⟨p, hp⟩ : ∃ p, p = min n 41 := ⟨_, rfl⟩
  have he := Lib.hid (show ps.take p = ps.take 41 from by rw [hp, hn, List.take_eq_take_min (i := 41), Nat.min_comm])
  have hq : (if (41 : Int) < (n : Int) then 41 else (n : Int)) = (p : Int) := by split <;> omega
  have hq2 : min (n : Int) 41 = (p : Int) := by omega
  have hpc : (p : Int) ≤ c := by omega
  have hp41 := Lib.hid (show (ps.take p).length ≤ 41 from by rw [List.length_take]; omega)
  have hs := Lib.hid (hr.slice hn.symm (show p ≤ n by omega))
  have hlit := Lib.hid (OwnP.lit w w.heap.size (Nat.le_refl _))
  have hal := Lib.hid (below_alloc1 w (.cells #[] 58))
  have hs2 := Lib.hid (hs.out.below hal.out)
  clear hp hn hr
  go_enter Tryd.func16, Tryd.ntmps16
  go_wp2_with (at_builtin; refine app_pairsR hlit.out hs2.out (by have := hp41.out; simp; omega) (by simp) rfl _ _ rfl rfl rfl ?_; intro v' w1 h1 h2; have h1q := Lib.hid (show OwnP w1 w.heap.size v' (ps.take 41) from by rw [← he.out]; exact h1); have h2q := Lib.hid (hal.out.trans h2); clear h1 h2)
  go_ret
  exact ⟨_, rfl, h1q.out, h2q.out⟩
theorem in52 {w : World} {v lo hi : Int} : Calls Tryd.prog 52 #[.int .i64 v, .int .i64 lo, .int .i64 hi] w fun e w' => e = .returned (.bool (decide (lo ≤ v) && decide (v ≤ hi))) ∧ w' = w := by
  obtain ⟨R, hR⟩ : ∃ R, R = (decide (lo ≤ v) && decide (v ≤ hi)) := ⟨_, rfl⟩
  rw [← hR]
  by_cases h1 : lo ≤ v
  · by_cases h2 : v ≤ hi
    · have d := Lib.hid (show true = R from (by rw [hR, decide_eq_true h1, decide_eq_true h2]; rfl))
      have h1' : v ≥ lo := h1
      clear h1 hR
      go_enter Tryd.func52, Tryd.ntmps52
      go_wp2
      go_ret
      exact ⟨ret_b d.out, rfl⟩
    · have d := Lib.hid (show false = R from (by rw [hR, decide_eq_true h1, decide_eq_false h2]; rfl))
      have h1' : v ≥ lo := h1
      clear h1 hR
      go_enter Tryd.func52, Tryd.ntmps52
      go_wp2
      go_ret
      exact ⟨ret_b d.out, rfl⟩
  · have d := Lib.hid (show false = R from (by rw [hR, decide_eq_false h1]; rfl))
    have h1' : ¬ v ≥ lo := h1
    clear h1 hR
    go_enter Tryd.func52, Tryd.ntmps52
    go_wp2
    go_ret
    exact ⟨ret_b d.out, rfl⟩

/-- A dispute of the reference. -/
def outI (n : Nat) (L : Atts) : List Int := (List.range n).map fun i => ((tg L i : Nat) : Int)
def insI (n : Nat) (L : Atts) : List Int := (List.range n).map fun i => ((ag L i : Nat) : Int)
theorem outI_len (n : Nat) (L : Atts) : (outI n L).length = n := by simp [outI]
theorem insI_len (n : Nat) (L : Atts) : (insI n L).length = n := by simp [insI]
theorem outI_at {n : Nat} (L : Atts) {i : Nat} (h : i < n) : (outI n L).getD i 0 = ((tg L i : Nat) : Int) := by simp [outI, List.getD_eq_getElem?_getD, h]
theorem insI_at {n : Nat} (L : Atts) {i : Nat} (h : i < n) : (insI n L).getD i 0 = ((ag L i : Nat) : Int) := by simp [insI, List.getD_eq_getElem?_getD, h]
def DisR (w : World) (u : Value) (n : Nat) (L : Atts) : Prop := ∃ a c b d, u = .agg #[.int .i64 (n : Int), .slice a n c, .slice b n d] ∧ Reads w (.slice a n c) (outI n L) ∧ Reads w (.slice b n d) (insI n L)
theorem DisR.below {w w' : World} {u : Value} {n : Nat} {L : Atts} (h : DisR w u n L) (hb : Below w.heap.size w w') : DisR w' u n L := by
  obtain ⟨a, c, b, d, rfl, h1, h2⟩ := h
  exact ⟨a, c, b, d, rfl, h1.below hb, h2.below hb⟩
def hitK (L : Atts) (S k : Nat) : Nat := (List.range k).foldl (fun m i => if S.testBit i then m ||| tg L i else m) 0
theorem hitK_succ (L : Atts) (S k : Nat) : hitK L S (k + 1) = if S.testBit k then hitK L S k ||| tg L k else hitK L S k := by
  unfold hitK
  rw [List.range_succ, List.foldl_append]; rfl
theorem hitK_all {n : Nat} {L : Atts} {S : Nat} (hn : n ≤ 12) (hS : S < 2 ^ n) : hitK L S n = hit L S := bits_eq fun j => by
  unfold hitK
  rw [hit_bit (lt12 hn hS), fold_bit (List.range n) (fun i => S.testBit i) (tg L)]
  simp only [Nat.zero_testBit, Bool.false_or, List.any_eq_true, Bool.and_eq_true, List.mem_range]
  constructor
  · rintro ⟨i, _, h1, h2⟩; exact ⟨i, h1, tg_bit.1 h2⟩
  · rintro ⟨i, h1, h2⟩; exact ⟨i, near hS h1, h1, tg_bit.2 h2⟩
theorem hitK_lt {n : Nat} {L : Atts} (hD : OkD n L) (S : Nat) : ∀ k, hitK L S k < 4096
  | 0 => by simp [hitK]
  | k + 1 => by
    rw [hitK_succ]
    split
    · exact Nat.or_lt_two_pow (n := 12) (hitK_lt hD S k) (hD.tlt k)
    · exact hitK_lt hD S k
def NumI (w : World) (h : Nat) (e : Ending) (w' : World) : Prop := e = .returned (.int .i64 (h : Int)) ∧ Below w.heap.size w w'
set_option maxRecDepth 100000 in
set_option maxHeartbeats 4000000 in
theorem hit63 {w : World} {u : Value} {n : Nat} {L : Atts} (hd : DisR w u n L) (hD : OkD n L) {S : Nat} (hS : S < 2 ^ n) : Calls Tryd.prog 63 #[u, .int .i64 (S : Int)] w (NumI w (hit L S)) := by
  obtain ⟨a, c, b, d, rfl, h1, h2⟩ := hd
  have hn12 := hD.nn
  have hend := Lib.hid (hitK_all (L := L) hn12 hS)
  have hsu := Lib.hid (hitK_succ L S)
  have hlt := Lib.hid (hitK_lt hD S)
  have htl := Lib.hid (fun i => hD.tlt i)
  have hS4 := lt12 hn12 hS
  have hz := Lib.hid (show hitK L S 0 = 0 from rfl)
  have h1' := Lib.hid h1
  have hol := Lib.hid (outI_len n L)
  have hat := Lib.hid (fun (i : Nat) (h : i < n) => outI_at L h)
  obtain ⟨W0, hW0⟩ : ∃ W0, W0 = w.alloc (.cells #[.int .i64 (n : Int), .slice a n c, .slice b n d] 34) := ⟨_, rfl⟩
  have hbA := Lib.hid (show Below w.heap.size w W0 from by rw [hW0]; exact below_alloc1 _ _)
  have k0 : W0.cell? ⟨w.heap.size, 0, none⟩ = some (.int .i64 (n : Int)) := by rw [hW0, World.cell?_alloc_at (hn := rfl)]; rfl
  have k1 : W0.cell? ⟨w.heap.size, 1, none⟩ = some (.slice a n c) := by rw [hW0, World.cell?_alloc_at (hn := rfl)]; rfl
  clear h1 h2 hS hD
  go_enter Tryd.func63, Tryd.ntmps63
  go_wp2
  rw [← hW0]
  clear hW0
  generalize w.heap.size = B0 at k0 k1 ⊢
  go_loopw [5, 6] (fun hv iv wr => ∃ k : Nat, k ≤ n ∧ iv = .int .i64 (k : Int) ∧ hv = .int .i64 ((hitK L S k : Nat) : Int) ∧ wr = W0) (fun _ iv _ => n - (intOf iv).toNat)
  case atStart => exact ⟨0, Nat.zero_le _, rfl, by rw [hz.out]; rfl, rfl⟩
  case round =>
    obtain ⟨k, hk, rfl, rfl, rfl⟩ := hrel
    by_cases hkn : k < n
    · obtain ⟨g, o, rfl, hg, hcl⟩ := h1'.out.at hol.out hkn
      have cy := (hbA.out.cell (p := ⟨g, o + k, none⟩) hg).trans (hcl k hkn)
      rw [hat.out k hkn] at cy
      have hkI : (k : Int) < n := by omega
      obtain ⟨bb, hb2, hbe, hbt⟩ := and_one64 S k hS4
      have hM := hlt.out k
      have hT := htl.out k
      have hs2 := hsu.out k
      have hor := or_i64 (hitK L S k) (tg L k) (by omega) (by omega)
      generalize hitK L S k = M at hM hs2 hor ⊢
      generalize tg L k = T at hT hs2 hor cy
      have hbt' := Lib.hid hbt
      clear hcl hbt
      rcases (show bb = 1 ∨ bb = 0 by omega) with rfl | rfl
      · have hs3 := Lib.hid (show hitK L S (k + 1) = M ||| T from by rw [hs2, if_pos (hbt'.out.1 rfl)])
        clear hs2
        go_wp2
        go_roundw
        case rel => exact ⟨k + 1, by omega, by go_num, by rw [hs3.out], trivial⟩
        case measure => simp [intOf]; omega
      · have hs3 := Lib.hid (show hitK L S (k + 1) = M from by rw [hs2, if_neg (fun h => by have := hbt'.out.2 h; omega)])
        clear hs2
        go_wp2
        go_roundw
        case rel => exact ⟨k + 1, by omega, by go_num, by rw [hs3.out], trivial⟩
        case measure => simp [intOf]; omega
    · obtain rfl : k = n := by omega
      go_wp2
      go_ret
      exact ⟨by rw [hend.out]; rfl, hbA.out⟩

theorem andNot_i64 (a b : Nat) (ha : a < 4096) (hb : b < 4096) : ∃ r : Nat, bits .andNot .i64 (a : Int) (b : Int) = (r : Int) ∧ (r = 0 ↔ b ||| a = b) := by
  refine ⟨a &&& (18446744073709551615 - b), ?_, ?_⟩
  · have hx : a &&& (18446744073709551615 - b) < 4096 := Nat.lt_of_le_of_lt Nat.and_le_left ha
    show IntKind.i64.wrap ((BitVec.ofInt 64 (a : Int) &&& ~~~ (BitVec.ofInt 64 (b : Int))).toNat : Int) = _
    rw [BitVec.toNat_and, BitVec.toNat_not, bv64 a (by omega), bv64 b (by omega), IntKind.wrap_i64]
    show (((a &&& (2 ^ 64 - 1 - b) : Nat) : Int) + 9223372036854775808) % 18446744073709551616 - 9223372036854775808 = _
    rw [show (2 ^ 64 - 1 - b : Nat) = 18446744073709551615 - b by omega]
    omega
  · have hbit : ∀ j, (a &&& (18446744073709551615 - b)).testBit j = (a.testBit j && (decide (j < 64) && !b.testBit j)) := fun j => by
      rw [Nat.testBit_and, show 18446744073709551615 - b = 2 ^ 64 - 1 - b from rfl, sub_bit (n := 64) (by omega)]
    rw [or_eq]
    constructor
    · intro h j hj
      have := hbit j
      rw [h, Nat.zero_testBit, hj] at this
      have hj64 : j < 64 := by have := near (n := 12) ha hj; omega
      simp [hj64] at this
      exact this
    · intro h
      apply Nat.eq_of_testBit_eq
      intro j
      rw [hbit j, Nat.zero_testBit]
      cases e : a.testBit j
      · rfl
      · rw [h j e]; simp
set_option maxRecDepth 100000 in
set_option maxHeartbeats 4000000 in
theorem defends38 {w : World} {u : Value} {n : Nat} {L : Atts} (hd : DisR w u n L) (hD : OkD n L) {S : Nat} (hS : S < 2 ^ n) : Calls Tryd.prog 38 #[u, .int .i64 (S : Int)] w (NumI w (dfd n L S)) := by
  have hh := Lib.hid (fun (W : World) (h : Below w.heap.size w W) => hit63 (hd.below h) hD hS)
  obtain ⟨a, c, b, d, rfl, h1, h2⟩ := hd
  have hn12 := hD.nn
  have hend := Lib.hid (dfdK_all n L S)
  have hsu := Lib.hid (dfdK_succ L S)
  have hlt := Lib.hid (fun k (h : k ≤ 12) => dfdK_lt L S k h)
  have htl := Lib.hid (fun i => hD.alt i)
  have hH4 := hD.hlt S
  have hz := Lib.hid (show dfdK L S 0 = 0 from rfl)
  have h2' := Lib.hid h2
  have hol := Lib.hid (insI_len n L)
  have hat := Lib.hid (fun (i : Nat) (h : i < n) => insI_at L h)
  obtain ⟨W0, hW0⟩ : ∃ W0, W0 = w.alloc (.cells #[.int .i64 (n : Int), .slice a n c, .slice b n d] 34) := ⟨_, rfl⟩
  have hbA := Lib.hid (show Below w.heap.size w W0 from by rw [hW0]; exact below_alloc1 _ _)
  have hsz := Lib.hid (show w.heap.size < W0.heap.size from by rw [hW0]; simp)
  have k0 : W0.cell? ⟨w.heap.size, 0, none⟩ = some (.int .i64 (n : Int)) := by rw [hW0, World.cell?_alloc_at (hn := rfl)]; rfl
  have k1 : W0.cell? ⟨w.heap.size, 1, none⟩ = some (.slice a n c) := by rw [hW0, World.cell?_alloc_at (hn := rfl)]; rfl
  have k2 : W0.cell? ⟨w.heap.size, 2, none⟩ = some (.slice b n d) := by rw [hW0, World.cell?_alloc_at (hn := rfl)]; rfl
  clear h1 h2 hS hD
  generalize hit L S = H at hh hsu hH4
  go_enter Tryd.func38, Tryd.ntmps38
  go_upto_region 1 with fail
  rw [← hW0]
  clear hW0
  go_wp2_with (go_at_call 63; refine (hh.out _ hbA.out).mono ?_; rintro e w1 ⟨rfl, hb⟩; have hb1 := Lib.hid (below_call hbA.out hb); replace k0 := (hb.cell (p := ⟨w.heap.size, 0, none⟩) hsz.out).trans k0; replace k2 := (hb.cell (p := ⟨w.heap.size, 2, none⟩) hsz.out).trans k2; clear hb hh k1)
  have hb1' := Lib.hid hb1.out
  clear hsz hbA
  generalize w.heap.size = B0 at k0 k2 ⊢
  go_loopw [6, 7] (fun hv iv wr => ∃ k : Nat, k ≤ n ∧ iv = .int .i64 (k : Int) ∧ hv = .int .i64 ((dfdK L S k : Nat) : Int) ∧ wr = w1) (fun _ iv _ => n - (intOf iv).toNat)
  case atStart => exact ⟨0, Nat.zero_le _, rfl, by rw [hz.out]; rfl, rfl⟩
  case round =>
    obtain ⟨k, hk, rfl, rfl, rfl⟩ := hrel
    by_cases hkn : k < n
    · obtain ⟨g, o, rfl, hg, hcl⟩ := h2'.out.at hol.out hkn
      have cy := (hb1.out.cell (p := ⟨g, o + k, none⟩) hg).trans (hcl k hkn)
      rw [hat.out k hkn] at cy
      have hkI : (k : Int) < n := by omega
      have hM := hlt.out k (by omega)
      have hT := htl.out k
      have hs2 := hsu.out k
      obtain ⟨r, hr, hr0⟩ := andNot_i64 (ag L k) H hT hH4
      have hP := p2w k (by omega)
      have hor := or_i64 (dfdK L S k) (2 ^ k) (by omega) (by have := Nat.pow_lt_pow_right (a := 2) (m := k) (n := 12) (by decide) (by omega); omega)
      generalize dfdK L S k = M at hM hs2 hor ⊢
      generalize ag L k = T at hT hs2 cy hr hr0
      have hr0' := Lib.hid hr0
      have hk64 : (k : Int) < 64 := by omega
      clear hcl hr0
      by_cases hrz : r = 0
      · have hs3 := Lib.hid (show dfdK L S (k + 1) = M ||| 2 ^ k from by rw [hs2, if_pos (beq_iff_eq.2 (hr0'.out.1 hrz))])
        subst hrz
        clear hs2
        generalize 2 ^ k = P at hP hor hs3
        go_wp2
        go_roundw
        case rel => exact ⟨k + 1, by omega, by go_num, by rw [hs3.out], trivial⟩
        case measure => simp [intOf]; omega
      · have hs3 := Lib.hid (show dfdK L S (k + 1) = M from by rw [hs2, if_neg (fun h => hrz (hr0'.out.2 (beq_iff_eq.1 h)))])
        have hrI : ((r : Int) == 0) = false := beq_eq_false_iff_ne.2 (by omega)
        clear hs2
        go_wp2
        go_roundw
        case rel => exact ⟨k + 1, by omega, by go_num, by rw [hs3.out], trivial⟩
        case measure => simp [intOf]; omega
    · obtain rfl : k = n := by omega
      go_wp2
      go_ret
      exact ⟨by rw [hend.out]; rfl, hb1'.out⟩

attribute [local go_sem] Oper.semAt_some

theorem p2w' : ∀ x, x ≤ 12 → IntKind.i64.wrap (2 ^ x) = ((2 ^ x : Nat) : Int) := by decide
theorem dis_box {w W0 : World} {u0 u1 u2 : Value} (h : W0 = w.alloc (.cells #[u0, u1, u2] 34)) : Below w.heap.size w W0 ∧ w.heap.size < W0.heap.size ∧ W0.cell? ⟨w.heap.size, 0, none⟩ = some u0 ∧ W0.cell? ⟨w.heap.size, 1, none⟩ = some u1 ∧ W0.cell? ⟨w.heap.size, 2, none⟩ = some u2 := by
  subst h
  refine ⟨below_alloc1 _ _, by simp, ?_, ?_, ?_⟩
  all_goals rw [World.cell?_alloc_at (hn := rfl)]; rfl

set_option maxRecDepth 100000 in
set_option maxHeartbeats 4000000 in
theorem adm37 {w : World} {u : Value} {n : Nat} {L : Atts} (hd : DisR w u n L) (hD : OkD n L) {S : Nat} (hS : S < 2 ^ n) : Calls Tryd.prog 37 #[u, .int .i64 (S : Int)] w (BoolEnd w (admB n L S)) := by
  have hh := Lib.hid (fun (W : World) (h : Below w.heap.size w W) => hit63 (hd.below h) hD hS)
  have hdf := Lib.hid (fun (W : World) (h : Below w.heap.size w W) => defends38 (hd.below h) hD hS)
  obtain ⟨a, c, b, d, rfl, h1, h2⟩ := hd
  have hn12 := hD.nn
  have hS4 := lt12 hn12 hS
  have hH4 := hD.hlt S
  have hG4 := hD.dlt S
  have hand := and_i64 (hit L S) S (by omega) (by omega)
  obtain ⟨W0, hW0⟩ : ∃ W0, W0 = w.alloc (.cells #[.int .i64 (n : Int), .slice a n c, .slice b n d] 34) := ⟨_, rfl⟩
  obtain ⟨hbA, hsz, k0, k1, k2⟩ := dis_box hW0
  have hbA' := Lib.hid hbA
  have hsz' := Lib.hid hsz
  obtain ⟨R, hR⟩ : ∃ R, R = admB n L S := ⟨_, rfl⟩
  rw [← hR]
  have hR2 : R = (decide (hit L S &&& S = 0) && decide (dfd n L S ||| S = dfd n L S)) := by
    rw [hR]; unfold admB freeB; congr 1
  clear h1 h2 hS hD hbA hsz hR
  generalize hit L S = H at hh hH4 hand hR2
  generalize dfd n L S = D at hdf hG4 hR2
  generalize H &&& S = X at hand hR2
  by_cases hx : X = 0
  · by_cases hy : D ||| S = D
    · have hR' := Lib.hid (show true = R from by rw [hR2, decide_eq_true hx, decide_eq_true hy]; rfl)
      obtain ⟨r, hr, hr0⟩ := andNot_i64 S D hS4 hG4
      have hrz : ((r : Int) == 0) = true := by rw [cast_zero]; first | exact beq_iff_eq.2 (hr0.2 hy) | exact beq_eq_false_iff_ne.2 (fun h => hy (hr0.1 h))
      have hrz2 : (r == 0) = true := by rw [← cast_zero]; exact hrz
      clear hr0 hy
      subst hx
      clear hR2 
      go_enter Tryd.func37, Tryd.ntmps37
      go_upto_region 1 with fail
      rw [← hW0]
      clear hW0
      go_wp2_with (first
        | (go_at_call 63; refine (hh.out _ hbA'.out).mono ?_; rintro e w1 ⟨rfl, hb⟩; have hb1 := Lib.hid (below_call hbA'.out hb); replace k0 := (hb.cell (p := ⟨w.heap.size, 0, none⟩) hsz'.out).trans k0; replace k1 := (hb.cell (p := ⟨w.heap.size, 1, none⟩) hsz'.out).trans k1; replace k2 := (hb.cell (p := ⟨w.heap.size, 2, none⟩) hsz'.out).trans k2; clear hb hh)
        | (go_at_call 38; refine (hdf.out _ hb1.out).mono ?_; rintro e w2 ⟨rfl, hb⟩; have hb2 := Lib.hid (below_call hb1.out hb); clear hb hdf))
      go_ret
      exact ⟨ret_b hR'.out, hb2.out⟩
    · have hR' := Lib.hid (show false = R from by rw [hR2, decide_eq_true hx, decide_eq_false hy]; rfl)
      obtain ⟨r, hr, hr0⟩ := andNot_i64 S D hS4 hG4
      have hrz : ((r : Int) == 0) = false := by rw [cast_zero]; first | exact beq_iff_eq.2 (hr0.2 hy) | exact beq_eq_false_iff_ne.2 (fun h => hy (hr0.1 h))
      have hrz2 : (r == 0) = false := by rw [← cast_zero]; exact hrz
      clear hr0 hy
      subst hx
      clear hR2 
      go_enter Tryd.func37, Tryd.ntmps37
      go_upto_region 1 with fail
      rw [← hW0]
      clear hW0
      go_wp2_with (first
        | (go_at_call 63; refine (hh.out _ hbA'.out).mono ?_; rintro e w1 ⟨rfl, hb⟩; have hb1 := Lib.hid (below_call hbA'.out hb); replace k0 := (hb.cell (p := ⟨w.heap.size, 0, none⟩) hsz'.out).trans k0; replace k1 := (hb.cell (p := ⟨w.heap.size, 1, none⟩) hsz'.out).trans k1; replace k2 := (hb.cell (p := ⟨w.heap.size, 2, none⟩) hsz'.out).trans k2; clear hb hh)
        | (go_at_call 38; refine (hdf.out _ hb1.out).mono ?_; rintro e w2 ⟨rfl, hb⟩; have hb2 := Lib.hid (below_call hb1.out hb); clear hb hdf))
      go_ret
      exact ⟨ret_b hR'.out, hb2.out⟩
  · have hR' := Lib.hid (show false = R from by rw [hR2, decide_eq_false hx]; rfl)
    have hxI : ((X : Int) == 0) = false := beq_eq_false_iff_ne.2 (by omega)
    have hxN : (X == 0) = false := beq_eq_false_iff_ne.2 hx
    clear hR2
    go_enter Tryd.func37, Tryd.ntmps37
    go_upto_region 1 with fail
    rw [← hW0]
    clear hW0
    go_wp2_with (go_at_call 63; refine (hh.out _ hbA'.out).mono ?_; rintro e w1 ⟨rfl, hb⟩; have hb1 := Lib.hid (below_call hbA'.out hb); replace k0 := (hb.cell (p := ⟨w.heap.size, 0, none⟩) hsz'.out).trans k0; replace k1 := (hb.cell (p := ⟨w.heap.size, 1, none⟩) hsz'.out).trans k1; replace k2 := (hb.cell (p := ⟨w.heap.size, 2, none⟩) hsz'.out).trans k2; clear hb hh)
    go_ret
    exact ⟨ret_b hR'.out, hb1.out⟩
set_option maxRecDepth 100000 in
set_option maxHeartbeats 4000000 in
theorem com83 {w : World} {u : Value} {n : Nat} {L : Atts} (hd : DisR w u n L) (hD : OkD n L) {S : Nat} (hS : S < 2 ^ n) : Calls Tryd.prog 83 #[u, .int .i64 (S : Int)] w (BoolEnd w (comB n L S)) := by
  have hh := Lib.hid (fun (W : World) (h : Below w.heap.size w W) => hit63 (hd.below h) hD hS)
  have hdf := Lib.hid (fun (W : World) (h : Below w.heap.size w W) => defends38 (hd.below h) hD hS)
  obtain ⟨a, c, b, d, rfl, h1, h2⟩ := hd
  have hn12 := hD.nn
  have hS4 := lt12 hn12 hS
  have hH4 := hD.hlt S
  have hG4 := hD.dlt S
  have hand := and_i64 (hit L S) S (by omega) (by omega)
  obtain ⟨W0, hW0⟩ : ∃ W0, W0 = w.alloc (.cells #[.int .i64 (n : Int), .slice a n c, .slice b n d] 34) := ⟨_, rfl⟩
  obtain ⟨hbA, hsz, k0, k1, k2⟩ := dis_box hW0
  have hbA' := Lib.hid hbA
  have hsz' := Lib.hid hsz
  obtain ⟨R, hR⟩ : ∃ R, R = comB n L S := ⟨_, rfl⟩
  rw [← hR]
  have hR2 : R = (decide (hit L S &&& S = 0) && decide (dfd n L S = S)) := by
    rw [hR]; unfold comB freeB; congr 1
  clear h1 h2 hS hD hbA hsz hR
  generalize hit L S = H at hh hH4 hand hR2
  generalize dfd n L S = D at hdf hG4 hR2
  generalize H &&& S = X at hand hR2
  by_cases hx : X = 0
  · by_cases hy : D = S
    · have hR' := Lib.hid (show true = R from by rw [hR2, decide_eq_true hx, decide_eq_true hy]; rfl)
      have hrz : ((D : Int) == (S : Int)) = true := by rw [cast_beq]; first | exact beq_iff_eq.2 hy | exact beq_eq_false_iff_ne.2 hy
      have hrz2 : (D == S) = true := by rw [← cast_beq]; exact hrz
      subst hy
      subst hx
      clear hR2 
      go_enter Tryd.func83, Tryd.ntmps83
      go_upto_region 1 with fail
      rw [← hW0]
      clear hW0
      go_wp2_with (first
        | (go_at_call 63; refine (hh.out _ hbA'.out).mono ?_; rintro e w1 ⟨rfl, hb⟩; have hb1 := Lib.hid (below_call hbA'.out hb); replace k0 := (hb.cell (p := ⟨w.heap.size, 0, none⟩) hsz'.out).trans k0; replace k1 := (hb.cell (p := ⟨w.heap.size, 1, none⟩) hsz'.out).trans k1; replace k2 := (hb.cell (p := ⟨w.heap.size, 2, none⟩) hsz'.out).trans k2; clear hb hh)
        | (go_at_call 38; refine (hdf.out _ hb1.out).mono ?_; rintro e w2 ⟨rfl, hb⟩; have hb2 := Lib.hid (below_call hb1.out hb); clear hb hdf))
      go_ret
      exact ⟨ret_b hR'.out, hb2.out⟩
    · have hR' := Lib.hid (show false = R from by rw [hR2, decide_eq_true hx, decide_eq_false hy]; rfl)
      have hrz : ((D : Int) == (S : Int)) = false := by rw [cast_beq]; first | exact beq_iff_eq.2 hy | exact beq_eq_false_iff_ne.2 hy
      have hrz2 : (D == S) = false := by rw [← cast_beq]; exact hrz
      clear hy
      subst hx
      clear hR2 
      go_enter Tryd.func83, Tryd.ntmps83
      go_upto_region 1 with fail
      rw [← hW0]
      clear hW0
      go_wp2_with (first
        | (go_at_call 63; refine (hh.out _ hbA'.out).mono ?_; rintro e w1 ⟨rfl, hb⟩; have hb1 := Lib.hid (below_call hbA'.out hb); replace k0 := (hb.cell (p := ⟨w.heap.size, 0, none⟩) hsz'.out).trans k0; replace k1 := (hb.cell (p := ⟨w.heap.size, 1, none⟩) hsz'.out).trans k1; replace k2 := (hb.cell (p := ⟨w.heap.size, 2, none⟩) hsz'.out).trans k2; clear hb hh)
        | (go_at_call 38; refine (hdf.out _ hb1.out).mono ?_; rintro e w2 ⟨rfl, hb⟩; have hb2 := Lib.hid (below_call hb1.out hb); clear hb hdf))
      go_ret
      exact ⟨ret_b hR'.out, hb2.out⟩
  · have hR' := Lib.hid (show false = R from by rw [hR2, decide_eq_false hx]; rfl)
    have hxI : ((X : Int) == 0) = false := beq_eq_false_iff_ne.2 (by omega)
    have hxN : (X == 0) = false := beq_eq_false_iff_ne.2 hx
    clear hR2
    go_enter Tryd.func83, Tryd.ntmps83
    go_upto_region 1 with fail
    rw [← hW0]
    clear hW0
    go_wp2_with (go_at_call 63; refine (hh.out _ hbA'.out).mono ?_; rintro e w1 ⟨rfl, hb⟩; have hb1 := Lib.hid (below_call hbA'.out hb); replace k0 := (hb.cell (p := ⟨w.heap.size, 0, none⟩) hsz'.out).trans k0; replace k1 := (hb.cell (p := ⟨w.heap.size, 1, none⟩) hsz'.out).trans k1; replace k2 := (hb.cell (p := ⟨w.heap.size, 2, none⟩) hsz'.out).trans k2; clear hb hh)
    go_ret
    exact ⟨ret_b hR'.out, hb1.out⟩
set_option maxRecDepth 100000 in
set_option maxHeartbeats 4000000 in
theorem sta84 {w : World} {u : Value} {n : Nat} {L : Atts} (hd : DisR w u n L) (hD : OkD n L) {S : Nat} (hS : S < 2 ^ n) : Calls Tryd.prog 84 #[u, .int .i64 (S : Int)] w (BoolEnd w (staB n L S)) := by
  have hh := Lib.hid (fun (W : World) (h : Below w.heap.size w W) => hit63 (hd.below h) hD hS)
  obtain ⟨a, c, b, d, rfl, h1, h2⟩ := hd
  have hn12 := hD.nn
  have hH4 := hD.hlt S
  obtain ⟨W0, hW0⟩ : ∃ W0, W0 = w.alloc (.cells #[.int .i64 (n : Int), .slice a n c, .slice b n d] 34) := ⟨_, rfl⟩
  obtain ⟨hbA, hsz, k0, k1, k2⟩ := dis_box hW0
  have hbA' := Lib.hid hbA
  have hsz' := Lib.hid hsz
  obtain ⟨R, hR⟩ : ∃ R, R = staB n L S := ⟨_, rfl⟩
  rw [← hR]
  have hR2 : R = (hit L S == 2 ^ n - 1 - S) := hR
  have hP := p2w' n hn12
  have h2n : 2 ^ n ≤ 4096 := pow12 hn12
  obtain ⟨P, hPq⟩ : ∃ P, P = 2 ^ n := ⟨_, rfl⟩
  rw [← hPq] at hR2 hP hS h2n
  obtain ⟨q, hq⟩ : ∃ q, q = P - 1 - S := ⟨_, rfl⟩
  rw [← hq] at hR2
  have e1 : IntKind.i64.wrap ((P : Int) - 1) = (P : Int) - 1 := IntWalk.i64_in _ ⟨by omega, by omega⟩
  have e2 : IntKind.i64.wrap ((P : Int) - 1 - (S : Int)) = (q : Int) := by rw [show (P : Int) - 1 - (S : Int) = (q : Int) by omega]; exact IntWalk.i64_in _ ⟨by omega, by omega⟩
  have e3 : (P : Int) - 1 - (S : Int) = (q : Int) := by omega
  have hn64 : (n : Int) < 64 := by omega
  have hR3 : R = ((hit L S : Nat) == q) := hR2
  clear h1 h2 hD hbA hsz hR hR2
  generalize hit L S = H at hh hH4 hR3
  have hcb : ((H : Int) == (q : Int)) = R := by rw [cast_beq]; exact hR3.symm
  have hR' := Lib.hid (show ((H : Int) == IntKind.i64.wrap (q : Int)) = R from by rw [show IntKind.i64.wrap (q : Int) = q from IntWalk.i64_in _ ⟨by omega, by omega⟩]; exact hcb)
  have hqn : n < 64 := by omega
  clear hR3 hq hPq hS
  go_enter Tryd.func84, Tryd.ntmps84
  go_upto_region 1 with fail
  rw [← hW0]
  clear hW0
  go_region_with (go_at_call 63; refine (hh.out _ (by first | exact hbA'.out | exact hbA'.out.drew)).mono ?_; rintro e w1 ⟨rfl, hb⟩; have hb1 := Lib.hid (below_call (by first | exact hbA'.out | exact hbA'.out.drew) hb); replace k0 := (hb.cell (p := ⟨w.heap.size, 0, none⟩) hsz'.out).trans k0; clear hb hh)
  all_goals
    go_wp2_with fail
    go_ret
    exact ⟨ret_b hR'.out, hb1.out⟩

attribute [local go_sem] Oper.semAt_some

/-- What is asked of each set alone. -/
def kB (n : Nat) (L : Atts) (kind S : Nat) : Bool := if kind = 0 then admB n L S else if kind = 1 then comB n L S else if kind = 3 then staB n L S else false
def setsT (n : Nat) (L : Atts) (kind j : Nat) : List Nat := (List.range j).filter (kB n L kind)
theorem setsT_succ (n : Nat) (L : Atts) (kind j : Nat) : setsT n L kind (j + 1) = setsT n L kind j ++ if kB n L kind j then [j] else [] := range_filter _ _
theorem setsT_all (n : Nat) (L : Atts) (kind : Nat) : setsT n L kind (2 ^ n) = sets n (kB n L kind) := rfl
theorem setsT_len (n : Nat) (L : Atts) (kind j : Nat) : (natI (setsT n L kind j)).length ≤ j := by
  unfold natI; rw [List.length_map]; exact filter_range_le _ _
theorem kB_0 (n : Nat) (L : Atts) : kB n L 0 = admB n L := rfl
theorem kB_1 (n : Nat) (L : Atts) : kB n L 1 = comB n L := rfl
theorem kB_2 (n : Nat) (L : Atts) : kB n L 2 = fun _ => false := rfl
theorem kB_3 (n : Nat) (L : Atts) : kB n L 3 = staB n L := rfl
theorem kB_4 (n : Nat) (L : Atts) : kB n L 4 = fun _ => false := rfl
set_option maxRecDepth 100000 in
set_option maxHeartbeats 8000000 in
theorem all62_0 {w : World} {u : Value} {n : Nat} {L : Atts} (hd : DisR w u n L) (hD : OkD n L) : Calls Tryd.prog 62 #[u, .int .i64 0] w (Made w (natI (sets n (admB n L)))) := by
  have h37 := Lib.hid (fun (W : World) (S : Nat) (hS : S < 2 ^ n) (h : Below w.heap.size w W) => adm37 (hd.below h) hD hS)
  obtain ⟨a, c, b, d, rfl, h1, h2⟩ := hd
  have hn12 := hD.nn
  obtain ⟨W0, hW0⟩ : ∃ W0, W0 = w.alloc (.cells #[.int .i64 (n : Int), .slice a n c, .slice b n d] 34) := ⟨_, rfl⟩
  obtain ⟨hbA, hsz, k0, k1, k2⟩ := dis_box hW0
  have hP := p2w' n hn12
  have hsn := Lib.hid (fun j => show natI (setsT n L 0 (j + 1)) = natI (setsT n L 0 j) ++ if (admB n L) j then [(j : Int)] else [] from by
    rw [setsT_succ, kB_0]; cases (admB n L) j <;> simp [natI])
  have hsl := Lib.hid (fun j => setsT_len n L 0 j)
  have hend := Lib.hid (show setsT n L 0 (2 ^ n) = sets n (admB n L) from by rw [setsT_all, kB_0])
  have h2n : 2 ^ n ≤ 4096 := pow12 hn12
  have hn64 : (n : Int) < 64 := by omega
  have hsz' := Lib.hid hsz
  have q0 := Lib.hid k0
  have q1 := Lib.hid k1
  have q2 := Lib.hid k2
  have hbAl := Lib.hid (below_call hbA (below_alloc1 W0 (.cells #[] 3)))
  have hlit := Lib.hid (Ints.lit W0 W0.heap.size (Nat.le_refl _))
  have hb0 := Lib.hid (below_alloc1 W0 (.cells #[] 3))
  clear h1 h2 hD hsz k0 k1 k2
  generalize admB n L = kb at hsn hend h37
  generalize setsT n L 0 = ST at hsn hsl hend
  obtain ⟨P, hPq⟩ : ∃ P, P = 2 ^ n := ⟨_, rfl⟩
  have hPq' := Lib.hid hPq
  rw [← hPq] at hP h2n hend
  have hz := Lib.hid (show ST 0 = [] from by have := hsl.out 0; unfold natI at this; rw [List.length_map] at this; exact List.length_eq_zero_iff.1 (by omega))
  clear hPq
  go_enter Tryd.func62, Tryd.ntmps62
  go_upto_region 1 with fail
  rw [← hW0]
  clear hW0
  go_wp2
  go_loopw [5, 6] (fun pv iv wr => ∃ j : Nat, j ≤ P ∧ iv = .int .i64 (j : Int) ∧ Hid (Ints wr W0.heap.size pv (natI (ST j))) ∧ Hid (Below W0.heap.size W0 wr)) (fun _ iv _ => P - (intOf iv).toNat)
  case atStart => exact ⟨0, Nat.zero_le _, rfl, Lib.hid (by rw [hz.out]; exact hlit.out), hb0⟩
  case round =>
    obtain ⟨j, hj, rfl, hp, hb⟩ := hrel
    obtain ⟨ap, cp, rfl, -⟩ := id hp.out.shape
    obtain ⟨ln, hln⟩ : ∃ ln, ln = (natI (ST j)).length := ⟨_, rfl⟩
    have hll := Lib.hid (show (natI (ST j)).length ≤ 4096 from Nat.le_trans (hsl.out j) (by omega))
    rw [← hln] at hp ⊢
    clear hln
    have k0 := (hb.out.cell (p := ⟨w.heap.size, 0, none⟩) hsz'.out).trans q0.out
    have hbW := Lib.hid (below_call hbA hb.out)
    by_cases hlt : j < P
    · have k1 := (hb.out.cell (p := ⟨w.heap.size, 1, none⟩) hsz'.out).trans q1.out
      have k2 := (hb.out.cell (p := ⟨w.heap.size, 2, none⟩) hsz'.out).trans q2.out
      have hjI : (j : Int) < P := by omega
      have hj2 := Lib.hid (show j < 2 ^ n from by rw [← hPq'.out]; exact hlt)
      have hs2 := hsn.out j
      have hc := Lib.hid (h37.out wr j hj2.out hbW.out)
      cases hkv : kb j
      all_goals
        rw [hkv] at hc hs2
        have hs3 := Lib.hid hs2
        clear hs2 hkv
      · go_wp2_with (go_at_call 37; refine hc.out.mono ?_; rintro e w2 ⟨rfl, hb2⟩; have hb3 := Lib.hid (below_call hb.out hb2); have hp3 := Lib.hid (hp.out.below hb2); clear hb2 hc)
        go_roundw
        case rel => exact ⟨j + 1, by omega, by go_num, Lib.hid (by rw [hs3.out, if_neg (by decide), List.append_nil]; exact hp3.out), hb3⟩
        case measure => simp [intOf]; omega
      · go_wp2_with (first
          | (go_at_call 37; refine hc.out.mono ?_; rintro e w2 ⟨rfl, hb2⟩; have hb3 := Lib.hid (below_call hb.out hb2); have hp3 := Lib.hid (hp.out.below hb2); clear hb2 hc)
          | (at_builtin; refine app_int hp3.out (by have := hll.out; omega) hb3.out.size rfl _ _ rfl rfl rfl ?_; intro v5 w5 ho5 hb5; have ho5' := Lib.hid ho5; have hb5' := Lib.hid hb5; clear ho5 hb5))
        go_roundw
        case rel => exact ⟨j + 1, by omega, by go_num, Lib.hid (by rw [hs3.out]; simpa using ho5'.out), Lib.hid (hb3.out.trans hb5'.out)⟩
        case measure => simp [intOf]; omega
    · obtain rfl : j = P := by omega
      go_wp2
      go_ret
      exact ⟨_, rfl, by rw [← hend.out]; exact hp.out.base hbA.size, hbW.out⟩
set_option maxRecDepth 100000 in
set_option maxHeartbeats 8000000 in
theorem all62_1 {w : World} {u : Value} {n : Nat} {L : Atts} (hd : DisR w u n L) (hD : OkD n L) : Calls Tryd.prog 62 #[u, .int .i64 1] w (Made w (natI (sets n (comB n L)))) := by
  have h83 := Lib.hid (fun (W : World) (S : Nat) (hS : S < 2 ^ n) (h : Below w.heap.size w W) => com83 (hd.below h) hD hS)
  obtain ⟨a, c, b, d, rfl, h1, h2⟩ := hd
  have hn12 := hD.nn
  obtain ⟨W0, hW0⟩ : ∃ W0, W0 = w.alloc (.cells #[.int .i64 (n : Int), .slice a n c, .slice b n d] 34) := ⟨_, rfl⟩
  obtain ⟨hbA, hsz, k0, k1, k2⟩ := dis_box hW0
  have hP := p2w' n hn12
  have hsn := Lib.hid (fun j => show natI (setsT n L 1 (j + 1)) = natI (setsT n L 1 j) ++ if (comB n L) j then [(j : Int)] else [] from by
    rw [setsT_succ, kB_1]; cases (comB n L) j <;> simp [natI])
  have hsl := Lib.hid (fun j => setsT_len n L 1 j)
  have hend := Lib.hid (show setsT n L 1 (2 ^ n) = sets n (comB n L) from by rw [setsT_all, kB_1])
  have h2n : 2 ^ n ≤ 4096 := pow12 hn12
  have hn64 : (n : Int) < 64 := by omega
  have hsz' := Lib.hid hsz
  have q0 := Lib.hid k0
  have q1 := Lib.hid k1
  have q2 := Lib.hid k2
  have hbAl := Lib.hid (below_call hbA (below_alloc1 W0 (.cells #[] 3)))
  have hlit := Lib.hid (Ints.lit W0 W0.heap.size (Nat.le_refl _))
  have hb0 := Lib.hid (below_alloc1 W0 (.cells #[] 3))
  clear h1 h2 hD hsz k0 k1 k2
  generalize comB n L = kb at hsn hend h83
  generalize setsT n L 1 = ST at hsn hsl hend
  obtain ⟨P, hPq⟩ : ∃ P, P = 2 ^ n := ⟨_, rfl⟩
  have hPq' := Lib.hid hPq
  rw [← hPq] at hP h2n hend
  have hz := Lib.hid (show ST 0 = [] from by have := hsl.out 0; unfold natI at this; rw [List.length_map] at this; exact List.length_eq_zero_iff.1 (by omega))
  clear hPq
  go_enter Tryd.func62, Tryd.ntmps62
  go_upto_region 1 with fail
  rw [← hW0]
  clear hW0
  go_wp2
  go_loopw [5, 6] (fun pv iv wr => ∃ j : Nat, j ≤ P ∧ iv = .int .i64 (j : Int) ∧ Hid (Ints wr W0.heap.size pv (natI (ST j))) ∧ Hid (Below W0.heap.size W0 wr)) (fun _ iv _ => P - (intOf iv).toNat)
  case atStart => exact ⟨0, Nat.zero_le _, rfl, Lib.hid (by rw [hz.out]; exact hlit.out), hb0⟩
  case round =>
    obtain ⟨j, hj, rfl, hp, hb⟩ := hrel
    obtain ⟨ap, cp, rfl, -⟩ := id hp.out.shape
    obtain ⟨ln, hln⟩ : ∃ ln, ln = (natI (ST j)).length := ⟨_, rfl⟩
    have hll := Lib.hid (show (natI (ST j)).length ≤ 4096 from Nat.le_trans (hsl.out j) (by omega))
    rw [← hln] at hp ⊢
    clear hln
    have k0 := (hb.out.cell (p := ⟨w.heap.size, 0, none⟩) hsz'.out).trans q0.out
    have hbW := Lib.hid (below_call hbA hb.out)
    by_cases hlt : j < P
    · have k1 := (hb.out.cell (p := ⟨w.heap.size, 1, none⟩) hsz'.out).trans q1.out
      have k2 := (hb.out.cell (p := ⟨w.heap.size, 2, none⟩) hsz'.out).trans q2.out
      have hjI : (j : Int) < P := by omega
      have hj2 := Lib.hid (show j < 2 ^ n from by rw [← hPq'.out]; exact hlt)
      have hs2 := hsn.out j
      have hc := Lib.hid (h83.out wr j hj2.out hbW.out)
      cases hkv : kb j
      all_goals
        rw [hkv] at hc hs2
        have hs3 := Lib.hid hs2
        clear hs2 hkv
      · go_wp2_with (go_at_call 83; refine hc.out.mono ?_; rintro e w2 ⟨rfl, hb2⟩; have hb3 := Lib.hid (below_call hb.out hb2); have hp3 := Lib.hid (hp.out.below hb2); clear hb2 hc)
        go_roundw
        case rel => exact ⟨j + 1, by omega, by go_num, Lib.hid (by rw [hs3.out, if_neg (by decide), List.append_nil]; exact hp3.out), hb3⟩
        case measure => simp [intOf]; omega
      · go_wp2_with (first
          | (go_at_call 83; refine hc.out.mono ?_; rintro e w2 ⟨rfl, hb2⟩; have hb3 := Lib.hid (below_call hb.out hb2); have hp3 := Lib.hid (hp.out.below hb2); clear hb2 hc)
          | (at_builtin; refine app_int hp3.out (by have := hll.out; omega) hb3.out.size rfl _ _ rfl rfl rfl ?_; intro v5 w5 ho5 hb5; have ho5' := Lib.hid ho5; have hb5' := Lib.hid hb5; clear ho5 hb5))
        go_roundw
        case rel => exact ⟨j + 1, by omega, by go_num, Lib.hid (by rw [hs3.out]; simpa using ho5'.out), Lib.hid (hb3.out.trans hb5'.out)⟩
        case measure => simp [intOf]; omega
    · obtain rfl : j = P := by omega
      go_wp2
      go_ret
      exact ⟨_, rfl, by rw [← hend.out]; exact hp.out.base hbA.size, hbW.out⟩
set_option maxRecDepth 100000 in
set_option maxHeartbeats 8000000 in
theorem all62_3 {w : World} {u : Value} {n : Nat} {L : Atts} (hd : DisR w u n L) (hD : OkD n L) : Calls Tryd.prog 62 #[u, .int .i64 3] w (Made w (natI (sets n (staB n L)))) := by
  have h84 := Lib.hid (fun (W : World) (S : Nat) (hS : S < 2 ^ n) (h : Below w.heap.size w W) => sta84 (hd.below h) hD hS)
  obtain ⟨a, c, b, d, rfl, h1, h2⟩ := hd
  have hn12 := hD.nn
  obtain ⟨W0, hW0⟩ : ∃ W0, W0 = w.alloc (.cells #[.int .i64 (n : Int), .slice a n c, .slice b n d] 34) := ⟨_, rfl⟩
  obtain ⟨hbA, hsz, k0, k1, k2⟩ := dis_box hW0
  have hP := p2w' n hn12
  have hsn := Lib.hid (fun j => show natI (setsT n L 3 (j + 1)) = natI (setsT n L 3 j) ++ if (staB n L) j then [(j : Int)] else [] from by
    rw [setsT_succ, kB_3]; cases (staB n L) j <;> simp [natI])
  have hsl := Lib.hid (fun j => setsT_len n L 3 j)
  have hend := Lib.hid (show setsT n L 3 (2 ^ n) = sets n (staB n L) from by rw [setsT_all, kB_3])
  have h2n : 2 ^ n ≤ 4096 := pow12 hn12
  have hn64 : (n : Int) < 64 := by omega
  have hsz' := Lib.hid hsz
  have q0 := Lib.hid k0
  have q1 := Lib.hid k1
  have q2 := Lib.hid k2
  have hbAl := Lib.hid (below_call hbA (below_alloc1 W0 (.cells #[] 3)))
  have hlit := Lib.hid (Ints.lit W0 W0.heap.size (Nat.le_refl _))
  have hb0 := Lib.hid (below_alloc1 W0 (.cells #[] 3))
  clear h1 h2 hD hsz k0 k1 k2
  generalize staB n L = kb at hsn hend h84
  generalize setsT n L 3 = ST at hsn hsl hend
  obtain ⟨P, hPq⟩ : ∃ P, P = 2 ^ n := ⟨_, rfl⟩
  have hPq' := Lib.hid hPq
  rw [← hPq] at hP h2n hend
  have hz := Lib.hid (show ST 0 = [] from by have := hsl.out 0; unfold natI at this; rw [List.length_map] at this; exact List.length_eq_zero_iff.1 (by omega))
  clear hPq
  go_enter Tryd.func62, Tryd.ntmps62
  go_upto_region 1 with fail
  rw [← hW0]
  clear hW0
  go_wp2
  go_loopw [5, 6] (fun pv iv wr => ∃ j : Nat, j ≤ P ∧ iv = .int .i64 (j : Int) ∧ Hid (Ints wr W0.heap.size pv (natI (ST j))) ∧ Hid (Below W0.heap.size W0 wr)) (fun _ iv _ => P - (intOf iv).toNat)
  case atStart => exact ⟨0, Nat.zero_le _, rfl, Lib.hid (by rw [hz.out]; exact hlit.out), hb0⟩
  case round =>
    obtain ⟨j, hj, rfl, hp, hb⟩ := hrel
    obtain ⟨ap, cp, rfl, -⟩ := id hp.out.shape
    obtain ⟨ln, hln⟩ : ∃ ln, ln = (natI (ST j)).length := ⟨_, rfl⟩
    have hll := Lib.hid (show (natI (ST j)).length ≤ 4096 from Nat.le_trans (hsl.out j) (by omega))
    rw [← hln] at hp ⊢
    clear hln
    have k0 := (hb.out.cell (p := ⟨w.heap.size, 0, none⟩) hsz'.out).trans q0.out
    have hbW := Lib.hid (below_call hbA hb.out)
    by_cases hlt : j < P
    · have k1 := (hb.out.cell (p := ⟨w.heap.size, 1, none⟩) hsz'.out).trans q1.out
      have k2 := (hb.out.cell (p := ⟨w.heap.size, 2, none⟩) hsz'.out).trans q2.out
      have hjI : (j : Int) < P := by omega
      have hj2 := Lib.hid (show j < 2 ^ n from by rw [← hPq'.out]; exact hlt)
      have hs2 := hsn.out j
      have hc := Lib.hid (h84.out wr j hj2.out hbW.out)
      cases hkv : kb j
      all_goals
        rw [hkv] at hc hs2
        have hs3 := Lib.hid hs2
        clear hs2 hkv
      · go_wp2_with (go_at_call 84; refine hc.out.mono ?_; rintro e w2 ⟨rfl, hb2⟩; have hb3 := Lib.hid (below_call hb.out hb2); have hp3 := Lib.hid (hp.out.below hb2); clear hb2 hc)
        go_roundw
        case rel => exact ⟨j + 1, by omega, by go_num, Lib.hid (by rw [hs3.out, if_neg (by decide), List.append_nil]; exact hp3.out), hb3⟩
        case measure => simp [intOf]; omega
      · go_wp2_with (first
          | (go_at_call 84; refine hc.out.mono ?_; rintro e w2 ⟨rfl, hb2⟩; have hb3 := Lib.hid (below_call hb.out hb2); have hp3 := Lib.hid (hp.out.below hb2); clear hb2 hc)
          | (at_builtin; refine app_int hp3.out (by have := hll.out; omega) hb3.out.size rfl _ _ rfl rfl rfl ?_; intro v5 w5 ho5 hb5; have ho5' := Lib.hid ho5; have hb5' := Lib.hid hb5; clear ho5 hb5))
        go_roundw
        case rel => exact ⟨j + 1, by omega, by go_num, Lib.hid (by rw [hs3.out]; simpa using ho5'.out), Lib.hid (hb3.out.trans hb5'.out)⟩
        case measure => simp [intOf]; omega
    · obtain rfl : j = P := by omega
      go_wp2
      go_ret
      exact ⟨_, rfl, by rw [← hend.out]; exact hp.out.base hbA.size, hbW.out⟩
set_option maxRecDepth 100000 in
set_option maxHeartbeats 8000000 in
theorem all62_2 {w : World} {u : Value} {n : Nat} {L : Atts} (hd : DisR w u n L) (hD : OkD n L) : Calls Tryd.prog 62 #[u, .int .i64 2] w (Made w (natI (sets n (fun _ => false)))) := by
  obtain ⟨a, c, b, d, rfl, h1, h2⟩ := hd
  have hn12 := hD.nn
  obtain ⟨W0, hW0⟩ : ∃ W0, W0 = w.alloc (.cells #[.int .i64 (n : Int), .slice a n c, .slice b n d] 34) := ⟨_, rfl⟩
  obtain ⟨hbA, hsz, k0, k1, k2⟩ := dis_box hW0
  have hP := p2w' n hn12
  have hsn := Lib.hid (fun j => show natI (setsT n L 2 (j + 1)) = natI (setsT n L 2 j) ++ if (fun _ => false) j then [(j : Int)] else [] from by
    rw [setsT_succ, kB_2]; cases (fun _ => false) j <;> simp [natI])
  have hsl := Lib.hid (fun j => setsT_len n L 2 j)
  have hend := Lib.hid (show setsT n L 2 (2 ^ n) = sets n (fun _ => false) from by rw [setsT_all, kB_2])
  have h2n : 2 ^ n ≤ 4096 := pow12 hn12
  have hn64 : (n : Int) < 64 := by omega
  have hsz' := Lib.hid hsz
  have q0 := Lib.hid k0
  have q1 := Lib.hid k1
  have q2 := Lib.hid k2
  have hbAl := Lib.hid (below_call hbA (below_alloc1 W0 (.cells #[] 3)))
  have hlit := Lib.hid (Ints.lit W0 W0.heap.size (Nat.le_refl _))
  have hb0 := Lib.hid (below_alloc1 W0 (.cells #[] 3))
  clear h1 h2 hD hsz k0 k1 k2
  generalize setsT n L 2 = ST at hsn hsl hend
  obtain ⟨P, hPq⟩ : ∃ P, P = 2 ^ n := ⟨_, rfl⟩
  have hPq' := Lib.hid hPq
  rw [← hPq] at hP h2n hend
  have hz := Lib.hid (show ST 0 = [] from by have := hsl.out 0; unfold natI at this; rw [List.length_map] at this; exact List.length_eq_zero_iff.1 (by omega))
  clear hPq
  go_enter Tryd.func62, Tryd.ntmps62
  go_upto_region 1 with fail
  rw [← hW0]
  clear hW0
  go_wp2
  go_loopw [5, 6] (fun pv iv wr => ∃ j : Nat, j ≤ P ∧ iv = .int .i64 (j : Int) ∧ Hid (Ints wr W0.heap.size pv (natI (ST j))) ∧ Hid (Below W0.heap.size W0 wr)) (fun _ iv _ => P - (intOf iv).toNat)
  case atStart => exact ⟨0, Nat.zero_le _, rfl, Lib.hid (by rw [hz.out]; exact hlit.out), hb0⟩
  case round =>
    obtain ⟨j, hj, rfl, hp, hb⟩ := hrel
    obtain ⟨ap, cp, rfl, -⟩ := id hp.out.shape
    obtain ⟨ln, hln⟩ : ∃ ln, ln = (natI (ST j)).length := ⟨_, rfl⟩
    have hll := Lib.hid (show (natI (ST j)).length ≤ 4096 from Nat.le_trans (hsl.out j) (by omega))
    rw [← hln] at hp ⊢
    clear hln
    have k0 := (hb.out.cell (p := ⟨w.heap.size, 0, none⟩) hsz'.out).trans q0.out
    have hbW := Lib.hid (below_call hbA hb.out)
    by_cases hlt : j < P
    · have k1 := (hb.out.cell (p := ⟨w.heap.size, 1, none⟩) hsz'.out).trans q1.out
      have k2 := (hb.out.cell (p := ⟨w.heap.size, 2, none⟩) hsz'.out).trans q2.out
      have hjI : (j : Int) < P := by omega
      have hs2 := hsn.out j
      have hs3 := Lib.hid hs2
      clear hs2
      go_wp2
      go_roundw
      case rel => exact ⟨j + 1, by omega, by go_num, Lib.hid (by rw [hs3.out, if_neg (by decide), List.append_nil]; exact hp.out), hb⟩
      case measure => simp [intOf]; omega
    · obtain rfl : j = P := by omega
      go_wp2
      go_ret
      exact ⟨_, rfl, by rw [← hend.out]; exact hp.out.base hbA.size, hbW.out⟩
set_option maxRecDepth 100000 in
set_option maxHeartbeats 8000000 in
theorem all62_4 {w : World} {u : Value} {n : Nat} {L : Atts} (hd : DisR w u n L) (hD : OkD n L) : Calls Tryd.prog 62 #[u, .int .i64 4] w (Made w (natI (sets n (fun _ => false)))) := by
  obtain ⟨a, c, b, d, rfl, h1, h2⟩ := hd
  have hn12 := hD.nn
  obtain ⟨W0, hW0⟩ : ∃ W0, W0 = w.alloc (.cells #[.int .i64 (n : Int), .slice a n c, .slice b n d] 34) := ⟨_, rfl⟩
  obtain ⟨hbA, hsz, k0, k1, k2⟩ := dis_box hW0
  have hP := p2w' n hn12
  have hsn := Lib.hid (fun j => show natI (setsT n L 4 (j + 1)) = natI (setsT n L 4 j) ++ if (fun _ => false) j then [(j : Int)] else [] from by
    rw [setsT_succ, kB_4]; cases (fun _ => false) j <;> simp [natI])
  have hsl := Lib.hid (fun j => setsT_len n L 4 j)
  have hend := Lib.hid (show setsT n L 4 (2 ^ n) = sets n (fun _ => false) from by rw [setsT_all, kB_4])
  have h2n : 2 ^ n ≤ 4096 := pow12 hn12
  have hn64 : (n : Int) < 64 := by omega
  have hsz' := Lib.hid hsz
  have q0 := Lib.hid k0
  have q1 := Lib.hid k1
  have q2 := Lib.hid k2
  have hbAl := Lib.hid (below_call hbA (below_alloc1 W0 (.cells #[] 3)))
  have hlit := Lib.hid (Ints.lit W0 W0.heap.size (Nat.le_refl _))
  have hb0 := Lib.hid (below_alloc1 W0 (.cells #[] 3))
  clear h1 h2 hD hsz k0 k1 k2
  generalize setsT n L 4 = ST at hsn hsl hend
  obtain ⟨P, hPq⟩ : ∃ P, P = 2 ^ n := ⟨_, rfl⟩
  have hPq' := Lib.hid hPq
  rw [← hPq] at hP h2n hend
  have hz := Lib.hid (show ST 0 = [] from by have := hsl.out 0; unfold natI at this; rw [List.length_map] at this; exact List.length_eq_zero_iff.1 (by omega))
  clear hPq
  go_enter Tryd.func62, Tryd.ntmps62
  go_upto_region 1 with fail
  rw [← hW0]
  clear hW0
  go_wp2
  go_loopw [5, 6] (fun pv iv wr => ∃ j : Nat, j ≤ P ∧ iv = .int .i64 (j : Int) ∧ Hid (Ints wr W0.heap.size pv (natI (ST j))) ∧ Hid (Below W0.heap.size W0 wr)) (fun _ iv _ => P - (intOf iv).toNat)
  case atStart => exact ⟨0, Nat.zero_le _, rfl, Lib.hid (by rw [hz.out]; exact hlit.out), hb0⟩
  case round =>
    obtain ⟨j, hj, rfl, hp, hb⟩ := hrel
    obtain ⟨ap, cp, rfl, -⟩ := id hp.out.shape
    obtain ⟨ln, hln⟩ : ∃ ln, ln = (natI (ST j)).length := ⟨_, rfl⟩
    have hll := Lib.hid (show (natI (ST j)).length ≤ 4096 from Nat.le_trans (hsl.out j) (by omega))
    rw [← hln] at hp ⊢
    clear hln
    have k0 := (hb.out.cell (p := ⟨w.heap.size, 0, none⟩) hsz'.out).trans q0.out
    have hbW := Lib.hid (below_call hbA hb.out)
    by_cases hlt : j < P
    · have k1 := (hb.out.cell (p := ⟨w.heap.size, 1, none⟩) hsz'.out).trans q1.out
      have k2 := (hb.out.cell (p := ⟨w.heap.size, 2, none⟩) hsz'.out).trans q2.out
      have hjI : (j : Int) < P := by omega
      have hs2 := hsn.out j
      have hs3 := Lib.hid hs2
      clear hs2
      go_wp2
      go_roundw
      case rel => exact ⟨j + 1, by omega, by go_num, Lib.hid (by rw [hs3.out, if_neg (by decide), List.append_nil]; exact hp.out), hb⟩
      case measure => simp [intOf]; omega
    · obtain rfl : j = P := by omega
      go_wp2
      go_ret
      exact ⟨_, rfl, by rw [← hend.out]; exact hp.out.base hbA.size, hbW.out⟩

attribute [local go_sem] Oper.semAt_some

theorem Ints.ofMade {w w' : World} {v : Value} {xs : List Int} (h : Ints w' w.heap.size v xs) : Ints w' w.heap.size v xs := h
/-- append(s, x), at the model's operation: what else changes, and where the row lies then. -/
theorem app_int_k {ops : Array Oper} {rest : List Oper} {o : Oper} {a : Act} {Q : Exit → Act → World → Prop} {w : World} {B : Nat} {v : Value} {xs : List Int} {y : Int}
    (hown : Ints w B v xs) (hlen : xs.length ≤ 1000000) (hB : B ≤ w.heap.size) (hgd : o.guard = none) (s x : Operand)
    (ho : o.op = .call { callee := .builtin .append, args := #[s, x], argTypes := #[24, 24] }) (hs : a.eval s = v) (hx : a.eval x = .slice (some ⟨w.heap.size, 0, none⟩) 1 1)
    (h : ∀ v' w', Ints w' B v' (xs ++ [y]) → Below B w w' → (∀ q, q < w.heap.size → some q ≠ v.ownBlock → w'.heap[q]? = w.heap[q]?) → (v'.ownBlock = v.ownBlock ∨ ∃ q, v'.ownBlock = some q ∧ w.heap.size ≤ q) → wpList Tryd.prog ops Q rest (a.put o.dst v') w') : wpList Tryd.prog ops Q (o :: rest) a (w.alloc (.cells #[.int .i64 y] 3)) := by
  obtain ⟨i0, hi, hz0, hz1, hz2⟩ := info_parts info3
  refine wpList_append_own_at _ hgd s x 24 ho B 3 i0 (.int .i64 0) 1 8 Tryd.underlying24 hi hz0 hz1 hz2 rfl (by decide) v xs.length (xs.map (Value.int .i64)) hs (World.ownsRow.alloc hown _) ⟨w.heap.size, 0, none⟩ 1 1 [.int .i64 y] hx rfl ?_ ?_ ?_ ?_ ?_ ?_
  · exact cell_one_new _ _ _
  · intro u hu; simp at hu; subst hu; rfl
  · unfold maxLen; omega
  · omega
  · simp; omega
  · intro v' w' h2 h3 _ h5
    refine h v' w' ?_ ?_ ?_ ?_
    · unfold Ints; simpa using h2
    · exact ((Below.refl B w).alloc hB _).grown h3 (by simp; omega) (fun k hk => (World.ownsRow.lt hown k hk).1)
    · intro q hq hne
      rw [h3.block q (by simp; omega) hne]
      exact Below.heap_alloc _ _ _ hq
    · rcases h5 with h5 | h5
      · exact .inl h5
      · exact .inr ⟨_, h5, by simp⟩
/-- The struct of a dispute, boxed. -/
def DisAt (W : World) (b n : Nat) (a : Option Addr) (c : Nat) (d : Option Addr) (e : Nat) : Prop := W.cell? ⟨b, 0, none⟩ = some (.int .i64 (n : Int)) ∧ W.cell? ⟨b, 1, none⟩ = some (.slice a n c) ∧ W.cell? ⟨b, 2, none⟩ = some (.slice d n e)
theorem DisAt.below {W W' : World} {b n : Nat} {a d : Option Addr} {c e : Nat} (h : DisAt W b n a c d e) (hb : Below W.heap.size W W') : DisAt W' b n a c d e := by
  obtain ⟨h1, h2, h3⟩ := h
  exact ⟨(hb.cell (p := ⟨b, 0, none⟩) (by simpa using World.block_lt_of_cell? W _ h1)).trans h1, (hb.cell (p := ⟨b, 1, none⟩) (by simpa using World.block_lt_of_cell? W _ h2)).trans h2, (hb.cell (p := ⟨b, 2, none⟩) (by simpa using World.block_lt_of_cell? W _ h3)).trans h3⟩
theorem DisAt.keep {W W' : World} {B b n : Nat} {a d : Option Addr} {c e : Nat} (h : DisAt W b n a c d e) (hb : Below B W W') (hl : b < B) : DisAt W' b n a c d e := by
  obtain ⟨h1, h2, h3⟩ := h
  exact ⟨(hb.cell (p := ⟨b, 0, none⟩) hl).trans h1, (hb.cell (p := ⟨b, 1, none⟩) hl).trans h2, (hb.cell (p := ⟨b, 2, none⟩) hl).trans h3⟩
/-- A row that lies between two heights. -/
def Mid (W : World) (lo hi : Nat) (v : Value) (xs : List Int) : Prop := ∃ ao c, v = .slice ao xs.length c ∧ xs.length ≤ c ∧ (xs ≠ [] → ∃ g, ao = some ⟨g, 0, none⟩ ∧ lo < g ∧ g < hi ∧ g < W.heap.size ∧ ∀ j, j < xs.length → W.cell? ⟨g, j, none⟩ = some (.int .i64 (xs.getD j 0)))
theorem Mid.reads {W : World} {lo hi : Nat} {v : Value} {xs : List Int} (h : Mid W lo hi v xs) : Reads W v xs := by
  obtain ⟨ao, c, rfl, h1, h2⟩ := h
  refine ⟨ao, c, rfl, h1, fun hne => ?_⟩
  obtain ⟨g, rfl, _, _, hg, hc⟩ := h2 hne
  exact ⟨g, 0, rfl, hg, fun j hj => by rw [Nat.zero_add]; exact hc j hj⟩
theorem Mid.below {W W' : World} {lo hi : Nat} {v : Value} {xs : List Int} (h : Mid W lo hi v xs) (hb : Below W.heap.size W W') : Mid W' lo hi v xs := by
  obtain ⟨ao, c, rfl, h1, h2⟩ := h
  refine ⟨ao, c, rfl, h1, fun hne => ?_⟩
  obtain ⟨g, rfl, a1, a2, hg, hc⟩ := h2 hne
  exact ⟨g, rfl, a1, a2, Nat.lt_of_lt_of_le hg hb.size, fun j hj => (hb.cell (p := ⟨g, j, none⟩) hg).trans (hc j hj)⟩
theorem Mid.grown {W W' : World} {lo hi : Nat} {v p : Value} {xs : List Int} (h : Mid W lo hi v xs) (hs : W.heap.size ≤ W'.heap.size) (hk : ∀ q, q < W.heap.size → some q ≠ p.ownBlock → W'.heap[q]? = W.heap[q]?) (hp : ∀ q, p.ownBlock = some q → q = lo ∨ hi ≤ q) : Mid W' lo hi v xs := by
  obtain ⟨ao, c, rfl, h1, h2⟩ := h
  refine ⟨ao, c, rfl, h1, fun hne => ?_⟩
  obtain ⟨g, rfl, a1, a2, hg, hc⟩ := h2 hne
  refine ⟨g, rfl, a1, a2, Nat.lt_of_lt_of_le hg hs, fun j hj => ?_⟩
  rw [← hc j hj]
  exact World.cell?_of_block (hk g hg (fun e => by have := hp g e.symm; omega))
theorem Mid.made {w w' : World} {lo : Nat} {v : Value} {xs : List Int} (h : Ints w' w.heap.size v xs) (hlo : lo < w.heap.size) : Mid w' lo w'.heap.size v xs := by
  obtain ⟨ao, c, e, h2, h3⟩ := own_cells h
  refine ⟨ao, c, e, h2, fun hne => ?_⟩
  obtain ⟨g, e1, h4, h5, hc⟩ := h3 (by have := List.length_pos_iff.2 hne; omega)
  refine ⟨g, e1, by omega, h5, h5, fun j hj => hc j _ ?_⟩
  simp [hj, List.getD_eq_getElem?_getD]
/-- What stands above a set. -/
def abvM (m : Nat → Nat) (s o : Nat) : Bool := m o != m s && (m o ||| m s == m o)
theorem grt_eq (l : List Nat) (m : Nat → Nat) : grt l m = l.filter fun s => !(l.any fun o => abvM m s o) := rfl
theorem any_snocN {l : List Nat} {k : Nat} (h : k < l.length) (f : Nat → Bool) : (l.take (k + 1)).any f = ((l.take k).any f || f (l.getD k 0)) := by
  rw [List.take_succ_eq_append_getElem h, List.any_append, List.getD_eq_getElem?_getD, List.getElem?_eq_getElem h]; simp
theorem fil_snocN {l : List Nat} {k : Nat} (h : k < l.length) (f : Nat → Bool) : (l.take (k + 1)).filter f = (l.take k).filter f ++ if f (l.getD k 0) then [l.getD k 0] else [] := by
  rw [List.take_succ_eq_append_getElem h, List.filter_append, List.getD_eq_getElem?_getD, List.getElem?_eq_getElem h]
  cases e : f l[k] <;> simp [e]
theorem fil_len {l : List Nat} (k : Nat) (f : Nat → Bool) : (natI ((l.take k).filter f)).length ≤ l.length := by
  unfold natI
  rw [List.length_map]
  exact Nat.le_trans (List.length_filter_le _ _) (by rw [List.length_take]; omega)

set_option maxRecDepth 100000 in
set_option maxHeartbeats 8000000 in
theorem sets31_0 {w : World} {u : Value} {n : Nat} {L : Atts} (hd : DisR w u n L) (hD : OkD n L) : Calls Tryd.prog 31 #[u, .int .i64 0] w (Made w (natI (sets n (admB n L)))) := by
  have hA := Lib.hid (fun (W : World) (h : Below w.heap.size w W) => all62_0 (hd.below h) hD)
  obtain ⟨a, c, b, d, rfl, h1, h2⟩ := hd
  obtain ⟨W0, hW0⟩ : ∃ W0, W0 = w.alloc (.cells #[.int .i64 (n : Int), .slice a n c, .slice b n d] 34) := ⟨_, rfl⟩
  obtain ⟨hbA, hsz, k0, k1, k2⟩ := dis_box hW0
  have hbA' := Lib.hid hbA
  have hsz' := Lib.hid hsz
  clear h1 h2 hD hbA hsz
  go_enter Tryd.func31, Tryd.ntmps31
  go_upto_region 1 with fail
  rw [← hW0]
  clear hW0
  go_wp2_with (go_at_call 62; refine (hA.out _ hbA'.out).mono ?_; rintro e w1 ⟨v1, rfl, ho, hb⟩; obtain ⟨a1, c1, rfl, -⟩ := id ho.shape; have ho1 := Lib.hid (ho.base hbA'.out.size); have hb1 := Lib.hid (below_call hbA'.out hb); have hal := Lib.hid (below_alloc1 w1 (.cells #[] 3)); have hb1A := Lib.hid (below_call hb1.out hal.out); replace k0 := ((hal.out.cell (p := ⟨w.heap.size, 0, none⟩) (Nat.lt_of_lt_of_le hsz'.out hb.size)).trans ((hb.cell (p := ⟨w.heap.size, 0, none⟩) hsz'.out).trans k0)); replace k1 := ((hal.out.cell (p := ⟨w.heap.size, 1, none⟩) (Nat.lt_of_lt_of_le hsz'.out hb.size)).trans ((hb.cell (p := ⟨w.heap.size, 1, none⟩) hsz'.out).trans k1)); replace k2 := ((hal.out.cell (p := ⟨w.heap.size, 2, none⟩) (Nat.lt_of_lt_of_le hsz'.out hb.size)).trans ((hb.cell (p := ⟨w.heap.size, 2, none⟩) hsz'.out).trans k2)); have hlit := Lib.hid (Ints.lit w1 w1.heap.size (Nat.le_refl _)); have hs1 := Lib.hid (Nat.lt_of_lt_of_le hsz'.out (Nat.le_trans hb.size hal.out.size)); have hlt1 := Lib.hid (Nat.lt_of_lt_of_le hsz'.out hb.size); clear ho hb hA)
  go_ret
  exact ⟨_, rfl, ho1.out.below hal.out, hb1A.out⟩
set_option maxRecDepth 100000 in
set_option maxHeartbeats 8000000 in
theorem sets31_1 {w : World} {u : Value} {n : Nat} {L : Atts} (hd : DisR w u n L) (hD : OkD n L) : Calls Tryd.prog 31 #[u, .int .i64 1] w (Made w (natI (sets n (comB n L)))) := by
  have hA := Lib.hid (fun (W : World) (h : Below w.heap.size w W) => all62_1 (hd.below h) hD)
  obtain ⟨a, c, b, d, rfl, h1, h2⟩ := hd
  obtain ⟨W0, hW0⟩ : ∃ W0, W0 = w.alloc (.cells #[.int .i64 (n : Int), .slice a n c, .slice b n d] 34) := ⟨_, rfl⟩
  obtain ⟨hbA, hsz, k0, k1, k2⟩ := dis_box hW0
  have hbA' := Lib.hid hbA
  have hsz' := Lib.hid hsz
  clear h1 h2 hD hbA hsz
  go_enter Tryd.func31, Tryd.ntmps31
  go_upto_region 1 with fail
  rw [← hW0]
  clear hW0
  go_wp2_with (go_at_call 62; refine (hA.out _ hbA'.out).mono ?_; rintro e w1 ⟨v1, rfl, ho, hb⟩; obtain ⟨a1, c1, rfl, -⟩ := id ho.shape; have ho1 := Lib.hid (ho.base hbA'.out.size); have hb1 := Lib.hid (below_call hbA'.out hb); have hal := Lib.hid (below_alloc1 w1 (.cells #[] 3)); have hb1A := Lib.hid (below_call hb1.out hal.out); replace k0 := ((hal.out.cell (p := ⟨w.heap.size, 0, none⟩) (Nat.lt_of_lt_of_le hsz'.out hb.size)).trans ((hb.cell (p := ⟨w.heap.size, 0, none⟩) hsz'.out).trans k0)); replace k1 := ((hal.out.cell (p := ⟨w.heap.size, 1, none⟩) (Nat.lt_of_lt_of_le hsz'.out hb.size)).trans ((hb.cell (p := ⟨w.heap.size, 1, none⟩) hsz'.out).trans k1)); replace k2 := ((hal.out.cell (p := ⟨w.heap.size, 2, none⟩) (Nat.lt_of_lt_of_le hsz'.out hb.size)).trans ((hb.cell (p := ⟨w.heap.size, 2, none⟩) hsz'.out).trans k2)); have hlit := Lib.hid (Ints.lit w1 w1.heap.size (Nat.le_refl _)); have hs1 := Lib.hid (Nat.lt_of_lt_of_le hsz'.out (Nat.le_trans hb.size hal.out.size)); have hlt1 := Lib.hid (Nat.lt_of_lt_of_le hsz'.out hb.size); clear ho hb hA)
  go_ret
  exact ⟨_, rfl, ho1.out.below hal.out, hb1A.out⟩
set_option maxRecDepth 100000 in
set_option maxHeartbeats 8000000 in
theorem sets31_3 {w : World} {u : Value} {n : Nat} {L : Atts} (hd : DisR w u n L) (hD : OkD n L) : Calls Tryd.prog 31 #[u, .int .i64 3] w (Made w (natI (sets n (staB n L)))) := by
  have hA := Lib.hid (fun (W : World) (h : Below w.heap.size w W) => all62_3 (hd.below h) hD)
  obtain ⟨a, c, b, d, rfl, h1, h2⟩ := hd
  obtain ⟨W0, hW0⟩ : ∃ W0, W0 = w.alloc (.cells #[.int .i64 (n : Int), .slice a n c, .slice b n d] 34) := ⟨_, rfl⟩
  obtain ⟨hbA, hsz, k0, k1, k2⟩ := dis_box hW0
  have hbA' := Lib.hid hbA
  have hsz' := Lib.hid hsz
  clear h1 h2 hD hbA hsz
  go_enter Tryd.func31, Tryd.ntmps31
  go_upto_region 1 with fail
  rw [← hW0]
  clear hW0
  go_wp2_with (go_at_call 62; refine (hA.out _ hbA'.out).mono ?_; rintro e w1 ⟨v1, rfl, ho, hb⟩; obtain ⟨a1, c1, rfl, -⟩ := id ho.shape; have ho1 := Lib.hid (ho.base hbA'.out.size); have hb1 := Lib.hid (below_call hbA'.out hb); have hal := Lib.hid (below_alloc1 w1 (.cells #[] 3)); have hb1A := Lib.hid (below_call hb1.out hal.out); replace k0 := ((hal.out.cell (p := ⟨w.heap.size, 0, none⟩) (Nat.lt_of_lt_of_le hsz'.out hb.size)).trans ((hb.cell (p := ⟨w.heap.size, 0, none⟩) hsz'.out).trans k0)); replace k1 := ((hal.out.cell (p := ⟨w.heap.size, 1, none⟩) (Nat.lt_of_lt_of_le hsz'.out hb.size)).trans ((hb.cell (p := ⟨w.heap.size, 1, none⟩) hsz'.out).trans k1)); replace k2 := ((hal.out.cell (p := ⟨w.heap.size, 2, none⟩) (Nat.lt_of_lt_of_le hsz'.out hb.size)).trans ((hb.cell (p := ⟨w.heap.size, 2, none⟩) hsz'.out).trans k2)); have hlit := Lib.hid (Ints.lit w1 w1.heap.size (Nat.le_refl _)); have hs1 := Lib.hid (Nat.lt_of_lt_of_le hsz'.out (Nat.le_trans hb.size hal.out.size)); have hlt1 := Lib.hid (Nat.lt_of_lt_of_le hsz'.out hb.size); clear ho hb hA)
  go_ret
  exact ⟨_, rfl, ho1.out.below hal.out, hb1A.out⟩
set_option maxRecDepth 100000 in
set_option maxHeartbeats 8000000 in
theorem sets31_2 {w : World} {u : Value} {n : Nat} {L : Atts} (hd : DisR w u n L) (hD : OkD n L) : Calls Tryd.prog 31 #[u, .int .i64 2] w (Made w (natI (grt (sets n (admB n L)) (id)))) := by
  have hA := Lib.hid (fun (W : World) (h : Below w.heap.size w W) => all62_2 (hd.below h) hD)
  have hA2 := Lib.hid (fun (W : World) (h : Below w.heap.size w W) => all62_0 (hd.below h) hD)
  obtain ⟨a, c, b, d, rfl, h1, h2⟩ := hd
  obtain ⟨W0, hW0⟩ : ∃ W0, W0 = w.alloc (.cells #[.int .i64 (n : Int), .slice a n c, .slice b n d] 34) := ⟨_, rfl⟩
  obtain ⟨hbA, hsz, k0, k1, k2⟩ := dis_box hW0
  have hbA' := Lib.hid hbA
  have hsz' := Lib.hid hsz
  have hSl := Lib.hid (sets_lt (n := n) hD.nn (k := admB n L))
  have hSn := Lib.hid (fun S (h : S ∈ sets n (admB n L)) => (mem_sets.1 h).1)
  have hlen := sets_len (n := n) hD.nn (k := admB n L)
  have hgr := Lib.hid (grt_eq (sets n (admB n L)) (id))
  clear h1 h2 hD hbA hsz
  generalize sets n (admB n L) = Ls at hA2 hSl hSn hlen hgr ⊢
  generalize grt Ls (id) = GR at hgr ⊢
  obtain ⟨N, hN⟩ : ∃ N, N = Ls.length := ⟨_, rfl⟩
  have hLsl := Lib.hid (show (natI Ls).length = N from by rw [hN]; simp [natI])
  have hN' := Lib.hid hN
  rw [← hN] at hlen
  clear hN
  have hget := Lib.hid (fun (i : Nat) (h : i < N) => show (natI Ls).getD i 0 = ((Ls.getD i 0 : Nat) : Int) ∧ Ls.getD i 0 < 4096 ∧ Ls.getD i 0 < 2 ^ n from by
    rw [hN'.out] at h
    have hm : Ls.getD i 0 ∈ Ls := by rw [List.getD_eq_getElem?_getD, List.getElem?_eq_getElem h]; exact List.getElem_mem _
    exact ⟨natI_get h, hSl.out _ hm, hSn.out _ hm⟩)
  obtain ⟨P, hP⟩ : ∃ P : Nat → Bool, P = fun s => !(Ls.any fun o => abvM (id) s o) := ⟨_, rfl⟩
  have hP' := Lib.hid hP
  have hgr2 := Lib.hid (show GR = Ls.filter P from by rw [hgr.out, hP])
  clear hP
  go_enter Tryd.func31, Tryd.ntmps31
  go_upto_region 1 with fail
  rw [← hW0]
  clear hW0
  go_wp2_with (first
    | (go_at_call 62; refine (hA.out _ hbA'.out).mono ?_; rintro e w1 ⟨v1, rfl, ho, hb⟩; obtain ⟨a1, c1, rfl, -⟩ := id ho.shape; have ho1 := Lib.hid (ho.base hbA'.out.size); have hb1 := Lib.hid (below_call hbA'.out hb); have hal := Lib.hid (below_alloc1 w1 (.cells #[] 3)); have hb1A := Lib.hid (below_call hb1.out hal.out); replace k0 := ((hal.out.cell (p := ⟨w.heap.size, 0, none⟩) (Nat.lt_of_lt_of_le hsz'.out hb.size)).trans ((hb.cell (p := ⟨w.heap.size, 0, none⟩) hsz'.out).trans k0)); replace k1 := ((hal.out.cell (p := ⟨w.heap.size, 1, none⟩) (Nat.lt_of_lt_of_le hsz'.out hb.size)).trans ((hb.cell (p := ⟨w.heap.size, 1, none⟩) hsz'.out).trans k1)); replace k2 := ((hal.out.cell (p := ⟨w.heap.size, 2, none⟩) (Nat.lt_of_lt_of_le hsz'.out hb.size)).trans ((hb.cell (p := ⟨w.heap.size, 2, none⟩) hsz'.out).trans k2)); have hlit := Lib.hid (Ints.lit w1 w1.heap.size (Nat.le_refl _)); have hs1 := Lib.hid (Nat.lt_of_lt_of_le hsz'.out (Nat.le_trans hb.size hal.out.size)); have hlt1 := Lib.hid (Nat.lt_of_lt_of_le hsz'.out hb.size); clear ho hb hA)
    | (go_at_call 62; refine (hA2.out _ hb1A.out).mono ?_; rintro e w2 ⟨v2, rfl, ho, hb⟩; obtain ⟨a2, c2, rfl, -⟩ := id ho.shape; rw [hLsl.out] at ho ⊢; have ho2 := Lib.hid (show Mid w2 w1.heap.size w2.heap.size (.slice a2 N c2) (natI Ls) from Mid.made ho (by simp)); have hb2 := Lib.hid (below_call hb1A.out hb); replace k0 := (hb.cell (p := ⟨w.heap.size, 0, none⟩) hs1.out).trans k0; replace k1 := (hb.cell (p := ⟨w.heap.size, 1, none⟩) hs1.out).trans k1; replace k2 := (hb.cell (p := ⟨w.heap.size, 2, none⟩) hs1.out).trans k2; have hs2 := Lib.hid (Nat.lt_of_lt_of_le hs1.out hb.size); have hlit2 := Lib.hid (hlit.out.below hb); have hd2 := Lib.hid (show DisAt w2 w.heap.size n a c b d from ⟨k0, k1, k2⟩); have hw1 := Lib.hid (show w.heap.size < w1.heap.size from hlt1.out); have hsB := Lib.hid (show w1.heap.size ≤ w2.heap.size from Nat.le_trans hal.out.size hb.size); clear ho hb hA2))

  clear k0 k1 k2
  go_loopw [6, 7] (fun pv iv wr => ∃ i : Nat, i ≤ N ∧ iv = .int .i64 (i : Int) ∧ Hid (Ints wr w1.heap.size pv (natI ((Ls.take i).filter P))) ∧ Hid (∀ q, pv.ownBlock = some q → q = w1.heap.size ∨ w2.heap.size ≤ q) ∧ Hid (w2.heap.size ≤ wr.heap.size) ∧ Hid (Mid wr w1.heap.size w2.heap.size (.slice a2 N c2) (natI Ls)) ∧ Hid (Below w.heap.size w wr) ∧ Hid (DisAt wr w.heap.size n a c b d)) (fun _ iv _ => N - (intOf iv).toNat)
  case atStart => exact ⟨0, Nat.zero_le _, rfl, hlit2, Lib.hid (fun q h => .inl (by simpa [Value.ownBlock] using h.symm)), Lib.hid (Nat.le_refl _), ho2, hb2, hd2⟩
  case round =>
    obtain ⟨i, hi, rfl, hp, hpb, hsw, hM, hb, hdA⟩ := hrel
    obtain ⟨ap, cp, rfl, -⟩ := id hp.out.shape
    obtain ⟨ln, hln⟩ : ∃ ln, ln = (natI ((Ls.take i).filter P)).length := ⟨_, rfl⟩
    have hll := Lib.hid (show (natI ((Ls.take i).filter P)).length ≤ 5000 from Nat.le_trans (fil_len i P) (by rw [← hN'.out]; omega))
    rw [← hln] at hp hpb ⊢
    clear hln
    by_cases hiN : i < N
    · obtain ⟨e1, hS4, hSn2⟩ := hget.out i hiN
      have hsn := Lib.hid (fil_snocN (l := Ls) (k := i) (by rw [← hN'.out]; exact hiN) P)
      have hPv := Lib.hid (show P (Ls.getD i 0) = !(Ls.any fun o => abvM (id) (Ls.getD i 0) o) from by rw [hP'.out])
      have hiI : (i : Int) < N := by omega
      obtain ⟨wz, hwz⟩ : ∃ wz, wz = wr := ⟨_, rfl⟩
      subst hwz
      have hzer := Lib.hid (show ((Ls.take 0).any fun o => abvM (id) (Ls.getD i 0) o) = false from by simp)
      have e1' := Lib.hid e1
      obtain ⟨S, hSq⟩ : ∃ S, S = Ls.getD i 0 := ⟨_, rfl⟩
      rw [← hSq] at hS4 hSn2 hsn hPv hzer e1'
      have hSn3 := Lib.hid hSn2
      clear hSq e1 hSn2
      go_wp2_with fail
      go_loopw [8, 9] (fun gv kv wr => ∃ k : Nat, k ≤ N ∧ kv = .int .i64 (k : Int) ∧ gv = .bool ((Ls.take k).any fun o => abvM (id) S o) ∧ Hid (Below wz.heap.size wz wr)) (fun _ kv _ => N - (intOf kv).toNat)
      case atStart => exact ⟨0, Nat.zero_le _, rfl, by rw [hzer.out], Lib.hid (Below.refl _ _)⟩
      case round =>
        obtain ⟨k, hk, rfl, rfl, hbk⟩ := hrel
        have hMr := Lib.hid (hM.out.below hbk.out)
        have hdr := Lib.hid (hdA.out.below hbk.out)
        have hbr := Lib.hid (below_call hb.out hbk.out)
        by_cases hkN : k < N
        · obtain ⟨g, og, rfl, hg, hcl⟩ := hMr.out.reads.at hLsl.out hkN
          have cxS := hcl i hiN
          rw [e1'.out] at cxS
          have cyO := hcl k hkN
          obtain ⟨e2, hO4, hOn⟩ := hget.out k hkN
          rw [e2] at cyO
          have hsk := Lib.hid (any_snocN (l := Ls) (k := k) (by rw [← hN'.out]; exact hkN) (fun o => abvM (id) S o))
          have hkI : (k : Int) < N := by omega
          generalize Ls.getD k 0 = O at cyO hO4 hOn hsk
          have hOn' := Lib.hid hOn
          clear hcl e2 hOn
          generalize ((Ls.take k).any fun o => abvM (id) S o) = G at hsk ⊢
          go_upto_region 15 with fail
          go_quiet (fail)
          go_upto_region 18 with fail
          have hbq := Lib.hid (below_drewN hbk.out nq)
          have hsk2 := Lib.hid (show ((Ls.take (k + 1)).any fun o => abvM id S o) = (G || ((O != S) && (O ||| S == O))) from hsk.out)
          clear hsk
          obtain ⟨r, hr, hr0⟩ := andNot_i64 S O hS4 hO4
          have hr0' := Lib.hid hr0
          clear hr0
          have hfv := Lib.hid (fun (v : Bool) (h : (G || ((O != S) && (O ||| S == O))) = v) => show ((Ls.take (k + 1)).any fun o => abvM (id) S o) = v from by rw [hsk2.out]; exact h)
          clear hsk2
          cases G
          · by_cases hXY : S = O
            · have hfin := Lib.hid (hfv.out false (by rw [hXY]; simp))
              have t1 : ((S : Int) == (O : Int)) = true := by rw [hXY]; simp
              have t2 : ((S : Int) != (O : Int)) = false := by rw [bne, t1]; rfl
              have t3 : (S : Int) = (O : Int) := by rw [hXY]
              clear hfv hr0'
              go_wp2
              go_roundw
              case rel => exact ⟨k + 1, by omega, by go_num, by rw [hfin.out], hbq⟩
              case measure => simp [intOf]; omega
            · have t1 : ((S : Int) == (O : Int)) = false := beq_eq_false_iff_ne.2 (by omega)
              have t2 : ((S : Int) != (O : Int)) = true := by rw [bne, t1]; rfl
              have t3 : ¬ (S : Int) = (O : Int) := by omega
              by_cases hrz : r = 0
              · have hfin := Lib.hid (hfv.out true (by rw [Bool.false_or, beq_iff_eq.2 (hr0'.out.1 hrz), Bool.and_true]; exact bne_iff_ne.2 (fun e => hXY e.symm)))
                subst hrz
                clear hfv hr0' hXY
                go_wp2
                go_roundw
                case rel => exact ⟨k + 1, by omega, by go_num, by rw [hfin.out], hbq⟩
                case measure => simp [intOf]; omega
              · have hfin := Lib.hid (hfv.out false (by rw [Bool.false_or, beq_eq_false_iff_ne.2 (fun e => hrz (hr0'.out.2 e)), Bool.and_false]))
                have t4 : ((r : Int) == 0) = false := beq_eq_false_iff_ne.2 (by omega)
                have t5 : (r == 0) = false := beq_eq_false_iff_ne.2 hrz
                clear hfv hr0' hXY
                go_wp2
                go_roundw
                case rel => exact ⟨k + 1, by omega, by go_num, by rw [hfin.out], hbq⟩
                case measure => simp [intOf]; omega
          · have hfin := Lib.hid (hfv.out true (by simp))
            clear hfv hr0'
            go_wp2
            go_roundw
            case rel => exact ⟨k + 1, by omega, by go_num, by rw [hfin.out], hbq⟩
            case measure => simp [intOf]; omega
        · obtain rfl : k = N := by omega
          have hfull : (Ls.take k).any (fun o => abvM (id) S o) = Ls.any fun o => abvM (id) S o := by rw [List.take_of_length_le (by rw [← hN'.out]; exact Nat.le_refl _)]
          rw [hfull]
          clear hfull
          have hpr := Lib.hid (hp.out.below hbk.out)
          have hsz2 := Lib.hid (Nat.le_trans hsw.out hbk.out.size)
          have hPv2 := hPv.out
          generalize (Ls.any fun o => abvM (id) S o) = G at hPv2 ⊢
          cases G
          · have hsn2 := Lib.hid (show natI ((Ls.take (i + 1)).filter P) = natI ((Ls.take i).filter P) ++ [(S : Int)] from by rw [hsn.out, hPv2]; simp [natI])
            obtain ⟨g, og, rfl, hg, hcl⟩ := hMr.out.reads.at hLsl.out hiN
            have cxS := hcl i hiN
            rw [e1'.out] at cxS
            have hwb := Lib.hid (show w1.heap.size ≤ wr.heap.size from Nat.le_trans hsB.out hsz2.out)
            clear hPv2 hcl
            go_wp2_with (at_builtin; refine app_int_k hpr.out (by have := hll.out; omega) hwb.out rfl _ _ rfl rfl rfl ?_; intro v5 w5 ho5 hb5 hk5 hv5; have ho5' := Lib.hid ho5; have hb5' := Lib.hid hb5; have hM5 := Lib.hid (hMr.out.grown hb5.size hk5 hpb.out); have hv5' := Lib.hid (show ∀ q, v5.ownBlock = some q → q = w1.heap.size ∨ w2.heap.size ≤ q from fun q hq => by
              rcases hv5 with e | ⟨q2, e, hq2⟩
              · exact hpb.out q (by rw [← e]; exact hq)
              · rw [e] at hq; injection hq with hq; exact .inr (by rw [← hq]; exact Nat.le_trans hsz2.out hq2)); have hd5 := Lib.hid (hdr.out.keep hb5 hw1.out); have hb5w := Lib.hid (hbr.out.trans (hb5.mono (Nat.le_of_lt hw1.out))); clear ho5 hb5 hk5 hv5)
            go_roundw
            case rel => exact ⟨i + 1, by omega, by go_num, Lib.hid (by rw [hsn2.out]; exact ho5'.out), hv5', Lib.hid (Nat.le_trans hsz2.out hb5'.out.size), hM5, hb5w, hd5⟩
            case measure => simp [intOf]; omega
          · have hsn2 := Lib.hid (show natI ((Ls.take (i + 1)).filter P) = natI ((Ls.take i).filter P) from by rw [hsn.out, hPv2]; simp)
            clear hPv2
            go_wp2
            go_roundw
            case rel => exact ⟨i + 1, by omega, by go_num, Lib.hid (by rw [hsn2.out]; exact hpr.out), hpb, hsz2, hMr, hbr, hdr⟩
            case measure => simp [intOf]; omega
    · obtain rfl : i = N := by omega
      have hfin := Lib.hid (show (Ls.take i).filter P = GR from by rw [hgr2.out, List.take_of_length_le (by rw [← hN'.out]; exact Nat.le_refl _)])
      go_wp2
      go_ret
      exact ⟨_, rfl, by rw [← hfin.out]; exact hp.out.base (Nat.le_of_lt hw1.out), hb.out⟩
set_option maxRecDepth 100000 in
set_option maxHeartbeats 8000000 in
theorem sets31_4 {w : World} {u : Value} {n : Nat} {L : Atts} (hd : DisR w u n L) (hD : OkD n L) : Calls Tryd.prog 31 #[u, .int .i64 4] w (Made w (natI (grt (sets n (comB n L)) (fun s => s ||| hit L s)))) := by
  have hA := Lib.hid (fun (W : World) (h : Below w.heap.size w W) => all62_4 (hd.below h) hD)
  have hA2 := Lib.hid (fun (W : World) (h : Below w.heap.size w W) => all62_1 (hd.below h) hD)
  have hh := Lib.hid (fun (W : World) (S : Nat) (hS : S < 2 ^ n) (h : Below w.heap.size w W) => hit63 (hd.below h) hD hS)
  have hhl := Lib.hid (fun S => hD.hlt S)
  obtain ⟨a, c, b, d, rfl, h1, h2⟩ := hd
  obtain ⟨W0, hW0⟩ : ∃ W0, W0 = w.alloc (.cells #[.int .i64 (n : Int), .slice a n c, .slice b n d] 34) := ⟨_, rfl⟩
  obtain ⟨hbA, hsz, k0, k1, k2⟩ := dis_box hW0
  have hbA' := Lib.hid hbA
  have hsz' := Lib.hid hsz
  have hSl := Lib.hid (sets_lt (n := n) hD.nn (k := comB n L))
  have hSn := Lib.hid (fun S (h : S ∈ sets n (comB n L)) => (mem_sets.1 h).1)
  have hlen := sets_len (n := n) hD.nn (k := comB n L)
  have hgr := Lib.hid (grt_eq (sets n (comB n L)) (fun s => s ||| hit L s))
  clear h1 h2 hD hbA hsz
  generalize sets n (comB n L) = Ls at hA2 hSl hSn hlen hgr ⊢
  generalize grt Ls (fun s => s ||| hit L s) = GR at hgr ⊢
  obtain ⟨N, hN⟩ : ∃ N, N = Ls.length := ⟨_, rfl⟩
  have hLsl := Lib.hid (show (natI Ls).length = N from by rw [hN]; simp [natI])
  have hN' := Lib.hid hN
  rw [← hN] at hlen
  clear hN
  have hget := Lib.hid (fun (i : Nat) (h : i < N) => show (natI Ls).getD i 0 = ((Ls.getD i 0 : Nat) : Int) ∧ Ls.getD i 0 < 4096 ∧ Ls.getD i 0 < 2 ^ n from by
    rw [hN'.out] at h
    have hm : Ls.getD i 0 ∈ Ls := by rw [List.getD_eq_getElem?_getD, List.getElem?_eq_getElem h]; exact List.getElem_mem _
    exact ⟨natI_get h, hSl.out _ hm, hSn.out _ hm⟩)
  obtain ⟨P, hP⟩ : ∃ P : Nat → Bool, P = fun s => !(Ls.any fun o => abvM (fun s => s ||| hit L s) s o) := ⟨_, rfl⟩
  have hP' := Lib.hid hP
  have hgr2 := Lib.hid (show GR = Ls.filter P from by rw [hgr.out, hP])
  clear hP
  go_enter Tryd.func31, Tryd.ntmps31
  go_upto_region 1 with fail
  rw [← hW0]
  clear hW0
  go_wp2_with (first
    | (go_at_call 62; refine (hA.out _ hbA'.out).mono ?_; rintro e w1 ⟨v1, rfl, ho, hb⟩; obtain ⟨a1, c1, rfl, -⟩ := id ho.shape; have ho1 := Lib.hid (ho.base hbA'.out.size); have hb1 := Lib.hid (below_call hbA'.out hb); have hal := Lib.hid (below_alloc1 w1 (.cells #[] 3)); have hb1A := Lib.hid (below_call hb1.out hal.out); replace k0 := ((hal.out.cell (p := ⟨w.heap.size, 0, none⟩) (Nat.lt_of_lt_of_le hsz'.out hb.size)).trans ((hb.cell (p := ⟨w.heap.size, 0, none⟩) hsz'.out).trans k0)); replace k1 := ((hal.out.cell (p := ⟨w.heap.size, 1, none⟩) (Nat.lt_of_lt_of_le hsz'.out hb.size)).trans ((hb.cell (p := ⟨w.heap.size, 1, none⟩) hsz'.out).trans k1)); replace k2 := ((hal.out.cell (p := ⟨w.heap.size, 2, none⟩) (Nat.lt_of_lt_of_le hsz'.out hb.size)).trans ((hb.cell (p := ⟨w.heap.size, 2, none⟩) hsz'.out).trans k2)); have hlit := Lib.hid (Ints.lit w1 w1.heap.size (Nat.le_refl _)); have hs1 := Lib.hid (Nat.lt_of_lt_of_le hsz'.out (Nat.le_trans hb.size hal.out.size)); have hlt1 := Lib.hid (Nat.lt_of_lt_of_le hsz'.out hb.size); clear ho hb hA)
    | (go_at_call 62; refine (hA2.out _ hb1A.out).mono ?_; rintro e w2 ⟨v2, rfl, ho, hb⟩; obtain ⟨a2, c2, rfl, -⟩ := id ho.shape; rw [hLsl.out] at ho ⊢; have ho2 := Lib.hid (show Mid w2 w1.heap.size w2.heap.size (.slice a2 N c2) (natI Ls) from Mid.made ho (by simp)); have hb2 := Lib.hid (below_call hb1A.out hb); replace k0 := (hb.cell (p := ⟨w.heap.size, 0, none⟩) hs1.out).trans k0; replace k1 := (hb.cell (p := ⟨w.heap.size, 1, none⟩) hs1.out).trans k1; replace k2 := (hb.cell (p := ⟨w.heap.size, 2, none⟩) hs1.out).trans k2; have hs2 := Lib.hid (Nat.lt_of_lt_of_le hs1.out hb.size); have hlit2 := Lib.hid (hlit.out.below hb); have hd2 := Lib.hid (show DisAt w2 w.heap.size n a c b d from ⟨k0, k1, k2⟩); have hw1 := Lib.hid (show w.heap.size < w1.heap.size from hlt1.out); have hsB := Lib.hid (show w1.heap.size ≤ w2.heap.size from Nat.le_trans hal.out.size hb.size); clear ho hb hA2))

  clear k0 k1 k2
  go_loopw [6, 7] (fun pv iv wr => ∃ i : Nat, i ≤ N ∧ iv = .int .i64 (i : Int) ∧ Hid (Ints wr w1.heap.size pv (natI ((Ls.take i).filter P))) ∧ Hid (∀ q, pv.ownBlock = some q → q = w1.heap.size ∨ w2.heap.size ≤ q) ∧ Hid (w2.heap.size ≤ wr.heap.size) ∧ Hid (Mid wr w1.heap.size w2.heap.size (.slice a2 N c2) (natI Ls)) ∧ Hid (Below w.heap.size w wr) ∧ Hid (DisAt wr w.heap.size n a c b d)) (fun _ iv _ => N - (intOf iv).toNat)
  case atStart => exact ⟨0, Nat.zero_le _, rfl, hlit2, Lib.hid (fun q h => .inl (by simpa [Value.ownBlock] using h.symm)), Lib.hid (Nat.le_refl _), ho2, hb2, hd2⟩
  case round =>
    obtain ⟨i, hi, rfl, hp, hpb, hsw, hM, hb, hdA⟩ := hrel
    obtain ⟨ap, cp, rfl, -⟩ := id hp.out.shape
    obtain ⟨ln, hln⟩ : ∃ ln, ln = (natI ((Ls.take i).filter P)).length := ⟨_, rfl⟩
    have hll := Lib.hid (show (natI ((Ls.take i).filter P)).length ≤ 5000 from Nat.le_trans (fil_len i P) (by rw [← hN'.out]; omega))
    rw [← hln] at hp hpb ⊢
    clear hln
    by_cases hiN : i < N
    · obtain ⟨e1, hS4, hSn2⟩ := hget.out i hiN
      have hsn := Lib.hid (fil_snocN (l := Ls) (k := i) (by rw [← hN'.out]; exact hiN) P)
      have hPv := Lib.hid (show P (Ls.getD i 0) = !(Ls.any fun o => abvM (fun s => s ||| hit L s) (Ls.getD i 0) o) from by rw [hP'.out])
      have hiI : (i : Int) < N := by omega
      obtain ⟨wz, hwz⟩ : ∃ wz, wz = wr := ⟨_, rfl⟩
      subst hwz
      have hzer := Lib.hid (show ((Ls.take 0).any fun o => abvM (fun s => s ||| hit L s) (Ls.getD i 0) o) = false from by simp)
      have e1' := Lib.hid e1
      obtain ⟨S, hSq⟩ : ∃ S, S = Ls.getD i 0 := ⟨_, rfl⟩
      rw [← hSq] at hS4 hSn2 hsn hPv hzer e1'
      have hSn3 := Lib.hid hSn2
      clear hSq e1 hSn2
      go_wp2_with fail
      go_loopw [8, 9] (fun gv kv wr => ∃ k : Nat, k ≤ N ∧ kv = .int .i64 (k : Int) ∧ gv = .bool ((Ls.take k).any fun o => abvM (fun s => s ||| hit L s) S o) ∧ Hid (Below wz.heap.size wz wr)) (fun _ kv _ => N - (intOf kv).toNat)
      case atStart => exact ⟨0, Nat.zero_le _, rfl, by rw [hzer.out], Lib.hid (Below.refl _ _)⟩
      case round =>
        obtain ⟨k, hk, rfl, rfl, hbk⟩ := hrel
        have hMr := Lib.hid (hM.out.below hbk.out)
        have hdr := Lib.hid (hdA.out.below hbk.out)
        have hbr := Lib.hid (below_call hb.out hbk.out)
        by_cases hkN : k < N
        · obtain ⟨g, og, rfl, hg, hcl⟩ := hMr.out.reads.at hLsl.out hkN
          have cxS := hcl i hiN
          rw [e1'.out] at cxS
          have cyO := hcl k hkN
          obtain ⟨e2, hO4, hOn⟩ := hget.out k hkN
          rw [e2] at cyO
          have hsk := Lib.hid (any_snocN (l := Ls) (k := k) (by rw [← hN'.out]; exact hkN) (fun o => abvM (fun s => s ||| hit L s) S o))
          have hkI : (k : Int) < N := by omega
          generalize Ls.getD k 0 = O at cyO hO4 hOn hsk
          have hOn' := Lib.hid hOn
          clear hcl e2 hOn
          generalize ((Ls.take k).any fun o => abvM (fun s => s ||| hit L s) S o) = G at hsk ⊢
          go_upto_region 15 with fail
          go_quiet (fail)
          go_upto_region 17 with fail
          have hbq := Lib.hid (below_drewN hbk.out nq)
          have hdq := Lib.hid (hdr.out.below (below_drewN (Below.refl _ _) nq))
          obtain ⟨wi, hwi⟩ : ∃ wi, wi = World.drewN wr nq := ⟨_, rfl⟩
          rw [← hwi] at hbq hdq ⊢
          clear hwi
          have hbI := Lib.hid (below_call hb.out hbq.out)
          have hhS := Lib.hid (fun (W : World) (h : Below w.heap.size w W) => hh.out W S hSn3.out h)
          have hhO := Lib.hid (fun (W : World) (h : Below w.heap.size w W) => hh.out W O hOn'.out h)
          have hHS := hhl.out S
          have hHO := hhl.out O
          have hoS := or_i64 S (hit L S) (by omega) (by omega)
          have hoO := or_i64 O (hit L O) (by omega) (by omega)
          have hXl := Lib.hid (show S ||| hit L S < 4096 from Nat.or_lt_two_pow (n := 12) hS4 hHS)
          have hYl := Lib.hid (show O ||| hit L O < 4096 from Nat.or_lt_two_pow (n := 12) hO4 hHO)
          have hsk2 := Lib.hid (show ((Ls.take (k + 1)).any fun o => abvM (fun s => s ||| hit L s) S o) = (G || (((O ||| hit L O) != (S ||| hit L S)) && ((O ||| hit L O) ||| (S ||| hit L S) == (O ||| hit L O)))) from hsk.out)
          clear hsk
          generalize hX : S ||| hit L S = X at hXl hoS hsk2
          generalize hY : O ||| hit L O = Y at hYl hoO hsk2
          clear hX hY
          generalize hit L S = HS at hhS hoS hHS
          generalize hit L O = HO at hhO hoO hHO
          go_cut [10, 11] from 32 to 69 (fun xv yv wx => ∃ w6 : World, w6 = wx ∧ xv = .int .i64 (X : Int) ∧ yv = .int .i64 (Y : Int) ∧ Hid (Below wi.heap.size wi w6))
          case first =>
            obtain ⟨k0, k1, k2⟩ := hdq.out
            have hbD := Lib.hid (hbI.out.drew)
            have hdD := Lib.hid (hdq.out.below (Below.refl _ _).drew)
            have hwD := Lib.hid ((Below.refl wi.heap.size wi).drew)
            go_region_with (first
              | (go_at_call 63; refine (hhS.out _ hbD.out).mono ?_; rintro e w7 ⟨rfl, hb7⟩; have hbS := Lib.hid (below_call hbD.out hb7); have hwS := Lib.hid (below_call hwD.out hb7); obtain ⟨k3, k4, k5⟩ := hdD.out.below hb7; clear hb7 hbD)
              | (go_at_call 63; refine (hhO.out _ hbS.out).mono ?_; rintro e w8 ⟨rfl, hb8⟩; have hwZ := Lib.hid (below_call hwS.out hb8); clear hb8 hbS)
              | (go_at_call 63; refine (hhO.out _ hbD.out).mono ?_; rintro e w7 ⟨rfl, hb7⟩; have hbO := Lib.hid (below_call hbD.out hb7); have hwO := Lib.hid (below_call hwD.out hb7); obtain ⟨k3, k4, k5⟩ := hdD.out.below hb7; clear hb7 hbD)
              | (go_at_call 63; refine (hhS.out _ hbO.out).mono ?_; rintro e w8 ⟨rfl, hb8⟩; have hwZ := Lib.hid (below_call hwO.out hb8); clear hb8 hbO))
            all_goals
              go_wp2_with fail
              go_meet
              exact ⟨_, rfl, rfl, rfl, hwZ⟩
          case rest =>
            obtain ⟨w6, rfl, rfl, rfl, hb6⟩ := hcut
            have hb6q := Lib.hid (below_call hbq.out hb6.out)
            obtain ⟨r, hr, hr0⟩ := andNot_i64 X Y hXl.out hYl.out
            have hr0' := Lib.hid hr0
            clear hr0
            have hfv := Lib.hid (fun (v : Bool) (h : (G || ((Y != X) && (Y ||| X == Y))) = v) => show ((Ls.take (k + 1)).any fun o => abvM (fun s => s ||| hit L s) S o) = v from by rw [hsk2.out]; exact h)
            clear hsk2
            cases G
            · by_cases hXY : X = Y
              · have hfin := Lib.hid (hfv.out false (by rw [hXY]; simp))
                have t1 : ((X : Int) == (Y : Int)) = true := by rw [hXY]; simp
                have t2 : ((X : Int) != (Y : Int)) = false := by rw [bne, t1]; rfl
                have t3 : (X : Int) = (Y : Int) := by rw [hXY]
                clear hfv hr0'
                go_wp2
                go_roundw
                case rel => exact ⟨k + 1, by omega, by go_num, by rw [hfin.out], hb6q⟩
                case measure => simp [intOf]; omega
              · have t1 : ((X : Int) == (Y : Int)) = false := beq_eq_false_iff_ne.2 (by omega)
                have t2 : ((X : Int) != (Y : Int)) = true := by rw [bne, t1]; rfl
                have t3 : ¬ (X : Int) = (Y : Int) := by omega
                by_cases hrz : r = 0
                · have hfin := Lib.hid (hfv.out true (by rw [Bool.false_or, beq_iff_eq.2 (hr0'.out.1 hrz), Bool.and_true]; exact bne_iff_ne.2 (fun e => hXY e.symm)))
                  subst hrz
                  clear hfv hr0' hXY
                  go_wp2
                  go_roundw
                  case rel => exact ⟨k + 1, by omega, by go_num, by rw [hfin.out], hb6q⟩
                  case measure => simp [intOf]; omega
                · have hfin := Lib.hid (hfv.out false (by rw [Bool.false_or, beq_eq_false_iff_ne.2 (fun e => hrz (hr0'.out.2 e)), Bool.and_false]))
                  have t4 : ((r : Int) == 0) = false := beq_eq_false_iff_ne.2 (by omega)
                  have t5 : (r == 0) = false := beq_eq_false_iff_ne.2 hrz
                  clear hfv hr0' hXY
                  go_wp2
                  go_roundw
                  case rel => exact ⟨k + 1, by omega, by go_num, by rw [hfin.out], hb6q⟩
                  case measure => simp [intOf]; omega
            · have hfin := Lib.hid (hfv.out true (by simp))
              clear hfv hr0'
              go_wp2
              go_roundw
              case rel => exact ⟨k + 1, by omega, by go_num, by rw [hfin.out], hb6q⟩
              case measure => simp [intOf]; omega
        · obtain rfl : k = N := by omega
          have hfull : (Ls.take k).any (fun o => abvM (fun s => s ||| hit L s) S o) = Ls.any fun o => abvM (fun s => s ||| hit L s) S o := by rw [List.take_of_length_le (by rw [← hN'.out]; exact Nat.le_refl _)]
          rw [hfull]
          clear hfull
          have hpr := Lib.hid (hp.out.below hbk.out)
          have hsz2 := Lib.hid (Nat.le_trans hsw.out hbk.out.size)
          have hPv2 := hPv.out
          generalize (Ls.any fun o => abvM (fun s => s ||| hit L s) S o) = G at hPv2 ⊢
          cases G
          · have hsn2 := Lib.hid (show natI ((Ls.take (i + 1)).filter P) = natI ((Ls.take i).filter P) ++ [(S : Int)] from by rw [hsn.out, hPv2]; simp [natI])
            obtain ⟨g, og, rfl, hg, hcl⟩ := hMr.out.reads.at hLsl.out hiN
            have cxS := hcl i hiN
            rw [e1'.out] at cxS
            have hwb := Lib.hid (show w1.heap.size ≤ wr.heap.size from Nat.le_trans hsB.out hsz2.out)
            clear hPv2 hcl
            go_wp2_with (at_builtin; refine app_int_k hpr.out (by have := hll.out; omega) hwb.out rfl _ _ rfl rfl rfl ?_; intro v5 w5 ho5 hb5 hk5 hv5; have ho5' := Lib.hid ho5; have hb5' := Lib.hid hb5; have hM5 := Lib.hid (hMr.out.grown hb5.size hk5 hpb.out); have hv5' := Lib.hid (show ∀ q, v5.ownBlock = some q → q = w1.heap.size ∨ w2.heap.size ≤ q from fun q hq => by
              rcases hv5 with e | ⟨q2, e, hq2⟩
              · exact hpb.out q (by rw [← e]; exact hq)
              · rw [e] at hq; injection hq with hq; exact .inr (by rw [← hq]; exact Nat.le_trans hsz2.out hq2)); have hd5 := Lib.hid (hdr.out.keep hb5 hw1.out); have hb5w := Lib.hid (hbr.out.trans (hb5.mono (Nat.le_of_lt hw1.out))); clear ho5 hb5 hk5 hv5)
            go_roundw
            case rel => exact ⟨i + 1, by omega, by go_num, Lib.hid (by rw [hsn2.out]; exact ho5'.out), hv5', Lib.hid (Nat.le_trans hsz2.out hb5'.out.size), hM5, hb5w, hd5⟩
            case measure => simp [intOf]; omega
          · have hsn2 := Lib.hid (show natI ((Ls.take (i + 1)).filter P) = natI ((Ls.take i).filter P) from by rw [hsn.out, hPv2]; simp)
            clear hPv2
            go_wp2
            go_roundw
            case rel => exact ⟨i + 1, by omega, by go_num, Lib.hid (by rw [hsn2.out]; exact hpr.out), hpb, hsz2, hMr, hbr, hdr⟩
            case measure => simp [intOf]; omega
    · obtain rfl : i = N := by omega
      have hfin := Lib.hid (show (Ls.take i).filter P = GR from by rw [hgr2.out, List.take_of_length_le (by rw [← hN'.out]; exact Nat.le_refl _)])
      go_wp2
      go_ret
      exact ⟨_, rfl, by rw [← hfin.out]; exact hp.out.base (Nat.le_of_lt hw1.out), hb.out⟩

attribute [local go_sem] Oper.semAt_some

theorem make_eq (W : World) (n : Nat) (hC : n ≤ 1000000) : Sem.run Tryd.prog (Instr.makeSlice 24 (.int .i64 (n : Int)) (.int .i64 (n : Int))) W = .ok (.slice (some ⟨W.heap.size, 0, none⟩) n n) (W.alloc (.cells (madeCells #[.int .i64 0] n) 3)) := by
  obtain ⟨i0, hi, hz0, hz1, hz2⟩ := info_parts info3
  have hr := run_make (P := Tryd.prog) W 24 3 i0 (.int .i64 0) Tryd.underlying24 hi hz0 .i64 .i64 (n : Int) (n : Int) (by omega) (by omega) (by rw [hz2]; omega) (by omega)
  simp only [Int.toNat_natCast, hz1, Nat.mul_one] at hr
  exact hr
theorem row_made {W : World} {B g n : Nat} (h : W.heap[g]? = some (.cells (madeCells #[.int .i64 0] n) 3)) (hB : B ≤ g) (hn : n ≤ 1000000) : Row W B g n (List.replicate n 0) := by
  refine ⟨⟨by simp, .inr ⟨g, n, _, rfl, hB, h, Nat.le_refl _, by unfold maxLen; omega, by simp [size_madeCells], ?_⟩⟩, by simp⟩
  rw [toList_madeCells_one, Nat.mul_one, List.take_replicate, Nat.min_self, List.map_replicate]
theorem Row.other {W : World} {B g n : Nat} {xs : List Int} (h : Row W B g n xs) {p : Addr} (hp : p.block ≠ g) (u : Value) : Row (W.setCell p u) B g n xs :=
  ⟨own_block h.1 fun k hk => Below.heap_setCell _ _ _ _ (fun e => hp (e.symm.trans (by simpa [Value.ownBlock] using hk.symm))), h.2⟩
/-- A dispute that is being made: two rows and the struct. -/
structure DisW (W : World) (B b g1 g2 n : Nat) (o1 o2 : List Int) : Prop where
  r1 : Row W B g1 n o1
  r2 : Row W B g2 n o2
  ne : g1 ≠ g2
  n1 : b ≠ g1
  n2 : b ≠ g2
  dc : DisAt W b n (some ⟨g1, 0, none⟩) n (some ⟨g2, 0, none⟩) n
theorem DisW.set1 {W : World} {B b g1 g2 n : Nat} {o1 o2 : List Int} (h : DisW W B b g1 g2 n o1 o2) (j : Nat) (y : Int) : DisW (W.setCell ⟨g1, j, none⟩ (.int .i64 y)) B b g1 g2 n (o1.set j y) o2 := by
  obtain ⟨c0, c1, c2⟩ := h.dc
  have hk : ∀ i, (W.setCell ⟨g1, j, none⟩ (.int .i64 y)).cell? ⟨b, i, none⟩ = W.cell? ⟨b, i, none⟩ := fun i => World.cell?_setCell_other _ _ _ _ (by intro e; simp only [Addr.mk.injEq] at e; exact h.n1 e.1.symm)
  exact ⟨h.r1.set j y, h.r2.other h.ne _, h.ne, h.n1, h.n2, (hk 0).trans c0, (hk 1).trans c1, (hk 2).trans c2⟩
theorem DisW.set2 {W : World} {B b g1 g2 n : Nat} {o1 o2 : List Int} (h : DisW W B b g1 g2 n o1 o2) (j : Nat) (y : Int) : DisW (W.setCell ⟨g2, j, none⟩ (.int .i64 y)) B b g1 g2 n o1 (o2.set j y) := by
  obtain ⟨c0, c1, c2⟩ := h.dc
  have hk : ∀ i, (W.setCell ⟨g2, j, none⟩ (.int .i64 y)).cell? ⟨b, i, none⟩ = W.cell? ⟨b, i, none⟩ := fun i => World.cell?_setCell_other _ _ _ _ (by intro e; simp only [Addr.mk.injEq] at e; exact h.n2 e.1.symm)
  exact ⟨h.r1.other (fun e => h.ne e.symm) _, h.r2.set j y, h.ne, h.n1, h.n2, (hk 0).trans c0, (hk 1).trans c1, (hk 2).trans c2⟩
theorem DisW.drew {W : World} {B b g1 g2 n : Nat} {o1 o2 : List Int} (h : DisW W B b g1 g2 n o1 o2) : DisW W.drew B b g1 g2 n o1 o2 :=
  ⟨h.r1.below (Below.refl _ _).drew, h.r2.below (Below.refl _ _).drew, h.ne, h.n1, h.n2, h.dc.below (Below.refl _ _).drew⟩
theorem heap3_2 (w1 : World) (x y z : Obj) : (((w1.alloc x).alloc y).alloc z).drew.heap[w1.heap.size + 1 + 1]? = some z := by
  show (((w1.alloc x).alloc y).alloc z).heap[w1.heap.size + 1 + 1]? = some z
  have := heap_alloc_new ((w1.alloc x).alloc y) z
  simpa using this
theorem heap3_1 (w1 : World) (x y z : Obj) : (((w1.alloc x).alloc y).alloc z).drew.heap[w1.heap.size + 1]? = some y := by
  show (((w1.alloc x).alloc y).alloc z).heap[w1.heap.size + 1]? = some y
  have h1 := heap_alloc_new (w1.alloc x) y
  have h2 := (below_alloc1 ((w1.alloc x).alloc y) z).block (w1.heap.size + 1) (by simp)
  rw [h2]; simpa using h1
theorem heap3_0 (w1 : World) (x y z : Obj) : (((w1.alloc x).alloc y).alloc z).drew.heap[w1.heap.size]? = some x := by
  show (((w1.alloc x).alloc y).alloc z).heap[w1.heap.size]? = some x
  have h1 := heap_alloc_new w1 x
  have h2 := (below_alloc1 (w1.alloc x) y).block w1.heap.size (by simp)
  have h3 := (below_alloc1 ((w1.alloc x).alloc y) z).block w1.heap.size (by simp; omega)
  rw [h3, h2]; exact h1
theorem disw_of {W : World} {B b g1 g2 n : Nat} (h3 : W.heap[b]? = some (.cells #[.int .i64 (n : Int), .slice (some ⟨g1, 0, none⟩) n n, .slice (some ⟨g2, 0, none⟩) n n] 34)) (h1 : W.heap[g1]? = some (.cells (madeCells #[.int .i64 0] n) 3)) (h2 : W.heap[g2]? = some (.cells (madeCells #[.int .i64 0] n) 3))
    (hB1 : B ≤ g1) (hB2 : B ≤ g2) (hn : n ≤ 1000000) (e1 : g1 ≠ g2) (e2 : b ≠ g1) (e3 : b ≠ g2) : DisW W B b g1 g2 n (List.replicate n 0) (List.replicate n 0) := by
  refine ⟨row_made h1 hB1 hn, row_made h2 hB2 hn, e1, e2, e3, ?_, ?_, ?_⟩
  all_goals simp [World.cell?, h3]; try rfl
theorem outI_set {n : Nat} (L : Atts) (a b : Nat) : outI n (L ++ [(a, b)]) = (outI n L).set a (((tg L a ||| 2 ^ b : Nat) : Int)) := by
  apply List.ext_getElem
  · simp [outI]
  · intro i h1 h2
    simp only [outI, List.getElem_map, List.getElem_range, List.getElem_set]
    rw [tg_snoc]
    by_cases e : i = a
    · subst e; simp
    · rw [if_neg e, if_neg (fun h => e h.symm)]
theorem insI_set {n : Nat} (L : Atts) (a b : Nat) : insI n (L ++ [(a, b)]) = (insI n L).set b (((ag L b ||| 2 ^ a : Nat) : Int)) := by
  apply List.ext_getElem
  · simp [insI]
  · intro i h1 h2
    simp only [insI, List.getElem_map, List.getElem_range, List.getElem_set]
    rw [ag_snoc]
    by_cases e : i = b
    · subst e; simp
    · rw [if_neg e, if_neg (fun h => e h.symm)]
theorem outI_nil (n : Nat) : outI n [] = List.replicate n 0 := by
  apply List.ext_getElem
  · simp [outI]
  · intro i h1 h2; simp [outI, tg]
theorem insI_nil (n : Nat) : insI n [] = List.replicate n 0 := by
  apply List.ext_getElem
  · simp [insI]
  · intro i h1 h2; simp [insI, ag]
theorem dis_stored {W : World} {b n c e : Nat} {a d : Option Addr} {u0 u1 u2 : Value} (h : W.cell? ⟨b, 0, none⟩ = some u0 ∧ W.cell? ⟨b, 1, none⟩ = some u1 ∧ W.cell? ⟨b, 2, none⟩ = some u2) :
    DisAt (((W.setCell ⟨b, 0, none⟩ (.int .i64 (n : Int))).setCell ⟨b, 1, none⟩ (.slice a n c)).setCell ⟨b, 2, none⟩ (.slice d n e)) b n a c d e := by
  obtain ⟨h0, h1, h2⟩ := h
  refine ⟨?_, ?_, ?_⟩
  · rw [cell_other (by decide), cell_other (by decide), World.cell?_setCell_same (h := h0)]
  · rw [cell_other (by decide), World.cell?_setCell_same (h := by rw [cell_other (by decide)]; exact h1)]
  · rw [World.cell?_setCell_same (h := by rw [cell_other (by decide), cell_other (by decide)]; exact h2)]
theorem size34 : (Tryd.prog.info? 34).map (·.size) = some 3 := by kernel_rfl
theorem results_cell34 {fn : Func} {p : Tmp} {b n : Nat} {a d : Option Addr} {c e : Nat} {w : World} (h : fn.results = #[.cell p 34]) (tmps : Array Value) (hp : tmps.getD p undef = .pointer (some ⟨b, 0, none⟩)) (hd : DisAt w b n a c d e) : (results fn tmps).run Tryd.prog w = .ok (.agg #[.int .i64 (n : Int), .slice a n c, .slice d n e]) w := by
  obtain ⟨h0, h1, h2⟩ := hd
  have hl := run_loadVar_mid (P := Tryd.prog) w b 0 34 [.int .i64 (n : Int), .slice a n c, .slice d n e] _ (fun j v hj => by
    rw [Nat.zero_add]
    rcases j with _ | _ | _ | j
    · simp at hj; subst hj; exact h0
    · simp at hj; subst hj; exact h1
    · simp at hj; subst hj; exact h2
    · simp at hj) Tryd.underlying34 rfl size34
  have hp' : tmps[p]?.getD undef = .pointer (some ⟨b, 0, none⟩) := by simpa using hp
  simp [results, h, hp', asAddr, hl]
set_option maxRecDepth 100000 in
set_option maxHeartbeats 8000000 in
theorem of21 {w : World} {v : Value} {n : Nat} {L : Atts} (hp : ReadsP w v (toI L)) (hv : vldB (n : Int) (toI L) = true) :
    Calls Tryd.prog 21 #[.int .i64 (n : Int), v] w fun e w' => ∃ u, e = .returned u ∧ DisR w' u n L ∧ Below w.heap.size w w' := by
  have hn12 : n ≤ 12 := by have := (vld_ok hv).2.2.1; omega
  have hD := (vld_ok hv).1
  rw [Int.toNat_natCast, natP_toI] at hD
  have hmk := fun W => make_eq W n (by omega)
  have hb0 := Lib.hid (below_alloc1 w (.cells #[.int .i64 0, .slice none 0 0, .slice none 0 0] 34))
  obtain ⟨ao, c, rfl, hcl⟩ := hp.at
  have hcl' := Lib.hid hcl
  obtain ⟨N, hN⟩ : ∃ N, N = (toI L).length := ⟨_, rfl⟩
  rw [← hN] at ⊢
  have hNL : N = L.length := by rw [hN, toI_len]
  have hN40 : N ≤ 40 := by rw [hN]; exact (vld_ok hv).2.2.2
  have hN' := Lib.hid hN
  clear hp hcl hv hN
  go_enter Tryd.func21, Tryd.ntmps21
  go_upto_region 1 with fail
  obtain ⟨W0, hW0⟩ : ∃ W0, W0 = w.alloc (.cells #[.int .i64 0, .slice none 0 0, .slice none 0 0] 34) := ⟨_, rfl⟩
  have hs0 := Lib.hid (show W0.heap.size = w.heap.size + 1 from by rw [hW0]; simp)
  have zz := Lib.hid (show W0.cell? ⟨w.heap.size, 0, none⟩ = some (.int .i64 0) ∧ W0.cell? ⟨w.heap.size, 1, none⟩ = some (.slice none 0 0) ∧ W0.cell? ⟨w.heap.size, 2, none⟩ = some (.slice none 0 0) from by
    rw [hW0]; refine ⟨?_, ?_, ?_⟩
    all_goals rw [World.cell?_alloc_at (hn := rfl)]; rfl)
  have zf := Lib.hid (fun j => show W0.frozen? ⟨w.heap.size, j, none⟩ = false from by rw [hW0]; exact frozen_of_row _ _ j _ 34 (heap_alloc_new w _))
  rw [← hW0] at hb0 ⊢
  clear hW0
  go_cut [5] from 7 (fun pv wx => ∃ (w6 : World) (b g1 g2 : Nat), w6 = wx ∧ pv = .pointer (some ⟨b, 0, none⟩) ∧ Hid (DisW w6 W0.heap.size b g1 g2 n (List.replicate n 0) (List.replicate n 0)) ∧ Hid (Below W0.heap.size W0 w6))
  case first =>
    go_region
    all_goals
      go_wp2_with fail
      go_meet
    all_goals
      refine ⟨_, _, _, _, rfl, rfl, Lib.hid (disw_of (by first | exact heap3_0 _ _ _ _ | exact heap3_1 _ _ _ _ | exact heap3_2 _ _ _ _) (by first | exact heap3_0 _ _ _ _ | exact heap3_1 _ _ _ _ | exact heap3_2 _ _ _ _) (by first | exact heap3_0 _ _ _ _ | exact heap3_1 _ _ _ _ | exact heap3_2 _ _ _ _) (by omega) (by omega) (by omega) (by omega) (by omega) (by omega)), Lib.hid ?_⟩
      exact ((((Below.refl _ _).alloc (by simp) _).alloc (by simp; try omega) _).alloc (by simp; try omega) _).drew
  case rest =>
  obtain ⟨w6, b, g1, g2, rfl, rfl, hW, hb6⟩ := hcut
  clear hmk
  have hout := Lib.hid (fun (i : Nat) (h : i < N) => show ∃ x y : Nat, x < n ∧ y < n ∧ (toI L).getD i (0, 0) = ((x : Int), (y : Int)) ∧ outI n (L.take (i + 1)) = (outI n (L.take i)).set x (((tg (L.take i) x ||| 2 ^ y : Nat) : Int)) ∧ insI n (L.take (i + 1)) = (insI n (L.take i)).set y (((ag (L.take i) y ||| 2 ^ x : Nat) : Int)) from by
    have hi : i < L.length := by omega
    have hmm : L[i] ∈ L := List.getElem_mem _
    have hw := hD.within _ hmm
    have e : L.take (i + 1) = L.take i ++ [(L[i].1, L[i].2)] := by rw [List.take_succ_eq_append_getElem hi]
    refine ⟨L[i].1, L[i].2, hw.1, hw.2, by simp [toI, List.getD_eq_getElem?_getD, hi], ?_, ?_⟩
    · rw [e, outI_set]
    · rw [e, insI_set])
  have hD2 := Lib.hid (fun (i : Nat) => show OkD n (L.take i) from ⟨hD.nn, fun p hp => hD.within p (List.mem_of_mem_take hp)⟩)
  have h00 := Lib.hid (show outI n (L.take 0) = List.replicate n 0 from outI_nil n)
  have h01 := Lib.hid (show insI n (L.take 0) = List.replicate n 0 from insI_nil n)
  have hall := Lib.hid (show L.take N = L from by rw [hNL, List.take_length])
  clear hD hNL
  go_wp2_with fail
  go_loopw [6] (fun iv wr => ∃ i : Nat, i ≤ N ∧ iv = .int .i64 (i : Int) ∧ Hid (DisW wr W0.heap.size b g1 g2 n (outI n (L.take i)) (insI n (L.take i))) ∧ Hid (Below W0.heap.size W0 wr)) (fun iv _ => N - (intOf iv).toNat)
  case atStart => exact ⟨0, Nat.zero_le _, rfl, by rw [h00.out, h01.out]; exact hW, hb6⟩
  case round =>
    obtain ⟨i, hi, rfl, hW, hb⟩ := hrel
    have hbw := Lib.hid (below_call hb0.out hb.out)
    by_cases hiN : i < N
    · obtain ⟨x, y, hx, hy, e1, e2, e3⟩ := hout.out i hiN
      obtain ⟨g, og, rfl, hg, hcl⟩ := hcl'.out (fun e => by have := hN'.out; rw [e] at this; simp at this; omega)
      obtain ⟨d1, d2⟩ := hcl i (by rw [← hN'.out]; exact hiN)
      rw [e1] at d1 d2
      have hd1 := Lib.hid d1
      have hd2 := Lib.hid d2
      have hgl := Lib.hid hg
      have p1 := (hbw.out.cell (p := ⟨g, og + i * 2, none⟩) hg).trans d1
      have p2 := (hbw.out.cell (p := ⟨g, og + i * 2 + 1, none⟩) hg).trans d2
      have hT := (hD2.out i).tlt x
      have hA := (hD2.out i).alt y
      have e2' := Lib.hid e2
      have e3' := Lib.hid e3
      have r1 := hW.out.r1.cell hx
      rw [outI_at _ hx] at r1
      have f1 := hW.out.r1.frozen x
      obtain ⟨q0, q1, q2⟩ := hW.out.dc
      have hq0 := Lib.hid q0
      have hxy := p2w y (by omega)
      have hor := or_i64 (tg (L.take i) x) (2 ^ y) (by omega) (by have := Nat.pow_lt_pow_right (a := 2) (m := y) (n := 12) (by decide) (by omega); omega)
      have hxy2 := Lib.hid (p2w x (by omega))
      have hor2 := Lib.hid (or_i64 (ag (L.take i) y) (2 ^ x) (by omega) (by have := Nat.pow_lt_pow_right (a := 2) (m := x) (n := 12) (by decide) (by omega); omega))
      have hia := Lib.hid (insI_at (L.take i) hy)
      generalize tg (L.take i) x = T at r1 hor hT e2'
      generalize ag (L.take i) y = A at hor2 hA e3' hia
      generalize 2 ^ y = PY at hxy hor e2'
      generalize 2 ^ x = PX at hxy2 hor2 e3'
      have hiI : (i : Int) < N := by omega
      have hxI : (x : Int) < n := by omega
      have hyI : (y : Int) < n := by omega
      have hx64 : (x : Int) < 64 := by omega
      have hy64 : (y : Int) < 64 := by omega
      clear e1 e2 e3 d1 d2 hcl q0 q2
      go_wp2_with fail
      refine wp_region_still_tail 17 (by kernel_rfl) (by kernel_rfl) ?_
      simp only [List.take_succ_cons, List.take_zero, List.drop_succ_cons, List.drop_zero]
      iterate 17 still_step
      refine wpStill_nil ?_
      change wpList _ _ _ _ _ wr.drew
      have hWd := Lib.hid hW.out.drew
      have hbd := Lib.hid hb.out.drew
      have f1 := hWd.out.r1.frozen x
      have r1 := hWd.out.r1.cell hx
      generalize wr.drew = wd at hWd hbd f1 r1 ⊢
      clear hxy hor p1 p2 q1
      go_upto_region 6 with fail
      have hW2 := Lib.hid (hWd.out.set1 x ((T ||| PY : Nat) : Int))
      have hb2 := Lib.hid (below_set hbd.out (k := x) (u := .int .i64 ((T ||| PY : Nat) : Int)) hWd.out.r1.lt.1)
      generalize wd.setCell ⟨g1, x, none⟩ (.int .i64 ((T ||| PY : Nat) : Int)) = w2 at hW2 hb2 ⊢
      have hbw2 := Lib.hid (below_call hb0.out hb2.out)
      have p1 := (hbw2.out.cell (p := ⟨g, og + i * 2, none⟩) hgl.out).trans hd1.out
      have p2 := (hbw2.out.cell (p := ⟨g, og + i * 2 + 1, none⟩) hgl.out).trans hd2.out
      have r2 := hW2.out.r2.cell hy
      rw [hia.out] at r2
      obtain ⟨q0, q1, q2⟩ := hW2.out.dc
      have hxy := hxy2.out
      have hor := hor2.out
      clear f1 r1 q0 q1
      refine wp_region_still_tail 17 (by kernel_rfl) (by kernel_rfl) ?_
      simp only [List.take_succ_cons, List.take_zero, List.drop_succ_cons, List.drop_zero]
      iterate 17 still_step
      refine wpStill_nil ?_
      change wpList _ _ _ _ _ w2.drew
      have hWd3 := Lib.hid hW2.out.drew
      have hbd3 := Lib.hid hb2.out.drew
      have f3 := hWd3.out.r2.frozen y
      have r3 := hWd3.out.r2.cell hy
      generalize w2.drew = w3 at hWd3 hbd3 f3 r3 ⊢
      clear hxy hor p1 p2 q2 r2
      have hW4 := Lib.hid (hWd3.out.set2 y ((A ||| PX : Nat) : Int))
      have hb4 := Lib.hid (below_set hbd3.out (k := y) (u := .int .i64 ((A ||| PX : Nat) : Int)) hWd3.out.r2.lt.1)
      go_wp2_with fail
      go_roundw
      case rel => exact ⟨i + 1, by omega, by go_num, by rw [e2'.out, e3'.out]; exact hW4, hb4⟩
      case measure => simp [intOf]; omega
    · obtain rfl : i = N := by omega
      rw [hall.out] at hW
      obtain ⟨q0, q1, q2⟩ := hW.out.dc
      have hbb : w.heap.size < W0.heap.size := by have := hs0.out; omega
      have z0 := (hb.out.cell (p := ⟨w.heap.size, 0, none⟩) hbb).trans zz.out.1
      have z1 := (hb.out.cell (p := ⟨w.heap.size, 1, none⟩) hbb).trans zz.out.2.1
      have z2 := (hb.out.cell (p := ⟨w.heap.size, 2, none⟩) hbb).trans zz.out.2.2
      have y0 := (hb.out.frozen (p := ⟨w.heap.size, 0, none⟩) hbb).trans (zf.out 0)
      have y1 := (hb.out.frozen (p := ⟨w.heap.size, 1, none⟩) hbb).trans (zf.out 1)
      have y2 := (hb.out.frozen (p := ⟨w.heap.size, 2, none⟩) hbb).trans (zf.out 2)
      clear hbb
      have e0 := hs0.out
      have l1 := hW.out.r1.lt
      have l2 := hW.out.r2.lt
      have g1' := Lib.hid (show w.heap.size ≠ g1 from by omega)
      have g2' := Lib.hid (show w.heap.size ≠ g2 from by omega)
      clear e0 l1 l2
      have hx0 := Lib.hid (z0 ▸ (rfl : (some (Value.int .i64 0)).isSome = true))
      have hx1 := Lib.hid (z1 ▸ (rfl : (some (Value.slice none 0 0)).isSome = true))
      have hx2 := Lib.hid (z2 ▸ (rfl : (some (Value.slice none 0 0)).isSome = true))
      have hzc := Lib.hid (⟨z0, z1, z2⟩ : wr.cell? ⟨w.heap.size, 0, none⟩ = some (.int .i64 0) ∧ wr.cell? ⟨w.heap.size, 1, none⟩ = some (.slice none 0 0) ∧ wr.cell? ⟨w.heap.size, 2, none⟩ = some (.slice none 0 0))
      go_wp2_with fail
      have hfin := Lib.hid (dis_stored (n := n) (a := some ⟨g1, 0, none⟩) (d := some ⟨g2, 0, none⟩) (c := n) (e := n) hzc.out)
      refine bodyPost_ret (results_cell34 rfl _ rfl hfin.out) rfl ?_
      refine ⟨_, rfl, ⟨_, _, _, _, rfl, ?_, ?_⟩, ?_⟩
      · exact (((hW.out.r1.other g1'.out _).other g1'.out _).other g1'.out _).reads
      · exact (((hW.out.r2.other g2'.out _).other g2'.out _).other g2'.out _).reads
      · exact below_set (below_set (below_set hbw.out (Nat.le_refl _)) (Nat.le_refl _)) (Nat.le_refl _)

attribute [local go_sem] Oper.semAt_some

theorem okP_split (n : Int) (p : Int × Int) : okP n p = ((decide (0 ≤ p.1) && decide (p.1 ≤ n - 1)) && (decide (0 ≤ p.2) && decide (p.2 ≤ n - 1))) := by
  unfold okP
  rw [show decide (p.1 < n) = decide (p.1 ≤ n - 1) from by congr 1; apply propext; omega, show decide (p.2 < n) = decide (p.2 ≤ n - 1) from by congr 1; apply propext; omega]
  cases decide (0 ≤ p.1) <;> cases decide (0 ≤ p.2) <;> cases decide (p.1 ≤ n - 1) <;> cases decide (p.2 ≤ n - 1) <;> rfl
theorem all_at {ps : List (Int × Int)} {f : Int × Int → Bool} (h : ∀ j, j < ps.length → f (ps.getD j (0, 0)) = true) : ps.all f = true := by
  rw [List.all_eq_true]
  intro x hx
  obtain ⟨i, hi, rfl⟩ := List.getElem_of_mem hx
  have := h i hi
  rwa [List.getD_eq_getElem?_getD, List.getElem?_eq_getElem hi] at this
theorem all_not {ps : List (Int × Int)} {f : Int × Int → Bool} {j : Nat} (hj : j < ps.length) (h : f (ps.getD j (0, 0)) = false) : ps.all f = false := by
  rw [List.all_eq_false]
  refine ⟨ps.getD j (0, 0), ?_, by rw [h]; decide⟩
  rw [List.getD_eq_getElem?_getD, List.getElem?_eq_getElem hj]; exact List.getElem_mem _
theorem in52b {w : World} {v lo hi : Int} : Calls Tryd.prog 52 #[.int .i64 v, .int .i64 lo, .int .i64 hi] w fun e w' => e = .returned (.bool (decide (lo ≤ v) && decide (v ≤ hi))) ∧ w = w' := in52.mono fun _ _ ⟨h1, h2⟩ => ⟨h1, h2.symm⟩
set_option maxRecDepth 100000 in
set_option maxHeartbeats 4000000 in
theorem valid_in {w : World} {n : Int} {v : Value} {ps : List (Int × Int)} (hp : ReadsP w v ps) (hl : ps.length ≤ 1000000) (h1 : 1 ≤ n) (h2 : n ≤ 12) :
    Calls Tryd.prog 19 #[.int .i64 n, v] w (BoolEnd w (vldB n ps)) := by
  obtain ⟨ao, c, rfl, hcl⟩ := hp.at
  have hcl' := Lib.hid hcl
  obtain ⟨N, hN⟩ : ∃ N, N = ps.length := ⟨_, rfl⟩
  rw [← hN] at hl ⊢
  have hN' := Lib.hid hN
  have hw1 : IntKind.i64.wrap (n - 1) = n - 1 := IntWalk.i64_in _ ⟨by omega, by omega⟩
  have h52 := Lib.hid (fun (W : World) (v : Int) => in52b (w := W) (v := v) (lo := 0) (hi := n - 1))
  have h52n := Lib.hid (show ∀ W : World, Calls Tryd.prog 52 #[.int .i64 n, .int .i64 1, .int .i64 12] W fun e w' => e = .returned (.bool true) ∧ W = w' from fun W => by
    have := in52b (w := W) (v := n) (lo := 1) (hi := 12)
    rwa [decide_eq_true h1, decide_eq_true h2] at this)
  have hoks := Lib.hid (okP_split n)
  have hv1 := Lib.hid (fun (h : ps.all (okP n) = false) => show false = vldB n ps from by unfold vldB; rw [h, Bool.and_false])
  have hv2 := Lib.hid (fun (h : ps.all (okP n) = true) => show decide (N ≤ 40) = vldB n ps from by unfold vldB; rw [h, decide_eq_true h1, decide_eq_true h2, ← hN]; simp)
  clear hp hcl hN
  go_enter Tryd.func19, Tryd.ntmps19
  go_wp2
  go_loopw [5] (fun iv wr => ∃ k : Nat, k ≤ N ∧ iv = .int .i64 (k : Int) ∧ Hid (∀ j, j < k → okP n (ps.getD j (0, 0)) = true) ∧ wr = w) (fun iv _ => N - (intOf iv).toNat)
  case atStart => exact ⟨0, Nat.zero_le _, rfl, Lib.hid (fun j hj => absurd hj (Nat.not_lt_zero j)), rfl⟩
  case round =>
    obtain ⟨k, hk, rfl, hall, rfl⟩ := hrel
    by_cases hlt : k < N
    · obtain ⟨g, o, rfl, hg, hc⟩ := hcl'.out (fun e => by have := hN'.out; rw [e] at this; simp at this; omega)
      obtain ⟨c1, c2⟩ := hc k (by rw [← hN'.out]; exact hlt)
      have hokk := hoks.out (ps.getD k (0, 0))
      have hno := Lib.hid (fun h => hv1.out (all_not (ps := ps) (f := okP n) (j := k) (by rw [← hN'.out]; exact hlt) h))
      have hnx := Lib.hid (show okP n (ps.getD k (0, 0)) = true → ∀ j, j < k + 1 → okP n (ps.getD j (0, 0)) = true from fun h j hj => by
        rcases Nat.lt_succ_iff_lt_or_eq.1 hj with h2 | h2
        · exact hall.out j h2
        · rw [h2]; exact h)
      generalize okP n (ps.getD k (0, 0)) = R at hokk hno hnx
      generalize (ps.getD k (0, 0)).1 = x at c1 hokk
      generalize (ps.getD k (0, 0)).2 = y at c2 hokk
      have hkI : (k : Int) < N := by omega
      have hx := Lib.hid (fun (W : World) => h52.out W x)
      have hy := Lib.hid (fun (W : World) => h52.out W y)
      generalize (decide (0 ≤ x) && decide (x ≤ n - 1)) = A at hx hokk
      generalize (decide (0 ≤ y) && decide (y ≤ n - 1)) = B at hy hokk
      have hokk' := Lib.hid hokk
      clear hc hokk
      cases A
      · have hfin := Lib.hid (hno.out (by rw [hokk'.out]; rfl))
        go_wp2_with (go_at_call 52; refine (hx.out _).mono ?_; rintro e w2 ⟨rfl, rfl⟩)
        go_ret
        exact ⟨ret_b hfin.out, Below.refl _ _⟩
      · cases B
        · have hfin := Lib.hid (hno.out (by rw [hokk'.out]; rfl))
          go_wp2_with (first
            | (go_at_call 52; refine (hx.out _).mono ?_; rintro e w2 ⟨rfl, rfl⟩; clear hx)
            | (go_at_call 52; refine (hy.out _).mono ?_; rintro e w2 ⟨rfl, rfl⟩))
          go_ret
          exact ⟨ret_b hfin.out, Below.refl _ _⟩
        · have hfin := Lib.hid (hnx.out (by rw [hokk'.out]; rfl))
          go_wp2_with (first
            | (go_at_call 52; refine (hx.out _).mono ?_; rintro e w2 ⟨rfl, rfl⟩; clear hx)
            | (go_at_call 52; refine (hy.out _).mono ?_; rintro e w2 ⟨rfl, rfl⟩))
          go_roundw
          case rel => exact ⟨k + 1, by omega, by go_num, hfin, trivial⟩
          case measure => simp [intOf]; omega
    · obtain rfl : k = N := by omega
      have hfin := Lib.hid (hv2.out (all_at (ps := ps) (f := okP n) (fun j hj => hall.out j (by rw [hN'.out]; exact hj))))
      by_cases h40 : k ≤ 40
      · have h40i : (k : Int) ≤ 40 := by omega
        have hf2 := Lib.hid (show true = vldB n ps from by rw [← hfin.out, decide_eq_true h40])
        go_wp2_with (go_at_call 52; refine (h52n.out _).mono ?_; rintro e w2 ⟨rfl, rfl⟩)
        go_ret
        exact ⟨ret_b hf2.out, Below.refl _ _⟩
      · have h40i : ¬ (k : Int) ≤ 40 := by omega
        have d40 : decide ((k : Int) ≤ 40) = false := decide_eq_false h40i
        have hf2 := Lib.hid (show false = vldB n ps from by rw [← hfin.out, decide_eq_false h40])
        go_wp2_with (go_at_call 52; refine (h52n.out _).mono ?_; rintro e w2 ⟨rfl, rfl⟩)
        go_ret
        exact ⟨ret_b hf2.out, Below.refl _ _⟩
set_option maxRecDepth 100000 in
set_option maxHeartbeats 4000000 in
theorem valid_out {w : World} {n : Int} {v : Value} {ps : List (Int × Int)} (hp : ReadsP w v ps) (hl : ps.length ≤ 1000000) (h : ¬ (1 ≤ n ∧ n ≤ 12)) :
    Calls Tryd.prog 19 #[.int .i64 n, v] w (BoolEnd w (vldB n ps)) := by
  obtain ⟨ao, c, rfl, hcl⟩ := hp.at
  have hcl' := Lib.hid hcl
  obtain ⟨N, hN⟩ : ∃ N, N = ps.length := ⟨_, rfl⟩
  rw [← hN] at hl ⊢
  have hN' := Lib.hid hN
  have hfin := Lib.hid (show false = vldB n ps from by
    unfold vldB
    by_cases h1 : 1 ≤ n
    · rw [decide_eq_true h1, decide_eq_false (fun h2 => h ⟨h1, h2⟩)]; rfl
    · rw [decide_eq_false h1]; rfl)
  have hff : (decide (1 ≤ n) && decide (n ≤ 12)) = false := by
    by_cases h1 : 1 ≤ n
    · rw [decide_eq_true h1, decide_eq_false (fun h2 => h ⟨h1, h2⟩)]; rfl
    · rw [decide_eq_false h1]; rfl
  have h52 := Lib.hid (fun (W : World) (v hi : Int) => show ∃ R, Calls Tryd.prog 52 #[.int .i64 v, .int .i64 0, .int .i64 hi] W fun e w' => e = .returned (.bool R) ∧ W = w' from ⟨_, in52b⟩)
  have h52n := Lib.hid (show ∀ W : World, Calls Tryd.prog 52 #[.int .i64 n, .int .i64 1, .int .i64 12] W fun e w' => e = .returned (.bool false) ∧ W = w' from fun W => by
    have := in52b (w := W) (v := n) (lo := 1) (hi := 12)
    rwa [hff] at this)
  obtain ⟨m, hm⟩ : ∃ m, IntKind.i64.wrap (n - 1) = m := ⟨_, rfl⟩
  clear hp hcl hN h hff
  go_enter Tryd.func19, Tryd.ntmps19
  go_wp2
  go_loopw [5] (fun iv wr => ∃ k : Nat, k ≤ N ∧ iv = .int .i64 (k : Int) ∧ wr = w) (fun iv _ => N - (intOf iv).toNat)
  case atStart => exact ⟨0, Nat.zero_le _, rfl, rfl⟩
  case round =>
    obtain ⟨k, hk, rfl, rfl⟩ := hrel
    by_cases hlt : k < N
    · obtain ⟨g, o, rfl, hg, hc⟩ := hcl'.out (fun e => by have := hN'.out; rw [e] at this; simp at this; omega)
      obtain ⟨c1, c2⟩ := hc k (by rw [← hN'.out]; exact hlt)
      generalize (ps.getD k (0, 0)).1 = x at c1
      generalize (ps.getD k (0, 0)).2 = y at c2
      have hkI : (k : Int) < N := by omega
      obtain ⟨A, hx⟩ := h52.out wr x m
      obtain ⟨B, hy⟩ := h52.out wr y m
      have hx' := Lib.hid hx
      have hy' := Lib.hid hy
      clear hc hx hy
      cases A
      · go_wp2_with (go_at_call 52; refine (hx'.out).mono ?_; rintro e w2 ⟨rfl, rfl⟩)
        go_ret
        exact ⟨ret_b hfin.out, Below.refl _ _⟩
      · cases B
        · go_wp2_with (first
            | (go_at_call 52; refine (hx'.out).mono ?_; rintro e w2 ⟨rfl, rfl⟩; clear hx')
            | (go_at_call 52; refine (hy'.out).mono ?_; rintro e w2 ⟨rfl, rfl⟩))
          go_ret
          exact ⟨ret_b hfin.out, Below.refl _ _⟩
        · go_wp2_with (first
            | (go_at_call 52; refine (hx'.out).mono ?_; rintro e w2 ⟨rfl, rfl⟩; clear hx')
            | (go_at_call 52; refine (hy'.out).mono ?_; rintro e w2 ⟨rfl, rfl⟩))
          go_roundw
          case rel => exact ⟨k + 1, by omega, by go_num, trivial⟩
          case measure => simp [intOf]; omega
    · clear hm
      obtain rfl : k = N := by omega
      go_wp2_with (go_at_call 52; refine (h52n.out _).mono ?_; rintro e w2 ⟨rfl, rfl⟩)
      go_ret
      exact ⟨ret_b hfin.out, Below.refl _ _⟩
theorem valid19 {w : World} {n : Int} {v : Value} {ps : List (Int × Int)} (hp : ReadsP w v ps) (hl : ps.length ≤ 1000000) :
    Calls Tryd.prog 19 #[.int .i64 n, v] w (BoolEnd w (vldB n ps)) := by
  by_cases h : 1 ≤ n ∧ n ≤ 12
  · exact valid_in hp hl h.1 h.2
  · exact valid_out hp hl h
end Go.Proofs.YtpcjigdmfchbdaaDoor
