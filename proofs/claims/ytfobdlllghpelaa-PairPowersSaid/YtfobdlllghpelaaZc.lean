import Derived.Test.YtfobdlllghpelaaZb
import Derived.BigQuiet
import Derived.Deep.RegionLaw
namespace Go.Proofs.Ytfobdlllghpelaa
open Go.RowKit Go.Shelf Pair
attribute [local go_sem] Oper.semAt_some

/-- The costs of a pairing. -/
def costsN (cs : List (List Int)) (l : List Nat) : List Nat := (List.range l.length).map fun i => (costAt cs i (l.getD i 0)).toNat
def fallTo (cs : List (List Int)) (l : List Nat) (k : Nat) : List Nat := ((costsN cs l).take k).foldl (fun out v => ins v out) []
theorem fallTo_all (cs : List (List Int)) (l : List Nat) : fallTo cs l l.length = falling (costsN cs l) := by
  unfold fallTo
  rw [List.take_of_length_le (by simp [costsN])]; rfl
theorem ins_len (v : Nat) (l : List Nat) : (ins v l).length = l.length + 1 := by simpa using (ins_perm v l).length_eq
theorem fallTo_succ (cs : List (List Int)) (l : List Nat) (k : Nat) (h : k < l.length) : fallTo cs l (k + 1) = ins (costAt cs k (l.getD k 0)).toNat (fallTo cs l k) := by
  unfold fallTo
  have hk : k < (costsN cs l).length := by simpa [costsN] using h
  rw [List.take_succ_eq_append_getElem hk, List.foldl_append]
  simp [costsN]
theorem fallTo_len (cs : List (List Int)) (l : List Nat) : ∀ k, k ≤ l.length → (fallTo cs l k).length = k
  | 0, _ => rfl
  | k + 1, h => by rw [fallTo_succ cs l k (by omega), ins_len, fallTo_len cs l k (by omega)]
def InsAt (v : Nat) (O : List Nat) (k : Nat) : Prop := ins v O = O.take k ++ ins v (O.drop k)
theorem insAt_zero (v : Nat) (O : List Nat) : InsAt v O 0 := rfl
theorem insAt_succ {v : Nat} {O : List Nat} {k : Nat} (h : InsAt v O k) (hk : k < O.length) (hv : v ≤ O.getD k 0) : InsAt v O (k + 1) := by
  unfold InsAt at h ⊢
  have e : O.take (k + 1) = O.take k ++ [O.getD k 0] := by
    rw [List.take_succ_eq_append_getElem hk, List.getD_eq_getElem?_getD, List.getElem?_eq_getElem hk]; rfl
  rw [h, drop_nat O k hk, ins, if_pos hv, e, List.append_assoc]
  rfl
theorem insAt_end {v : Nat} {O : List Nat} {k : Nat} (h : InsAt v O k) (hk : k < O.length → ¬ v ≤ O.getD k 0) : ins v O = O.take k ++ [v] ++ O.drop k := by
  unfold InsAt at h
  rw [h]
  by_cases e : k < O.length
  · rw [drop_nat O k e, ins, if_neg (hk e)]; simp
  · rw [List.drop_eq_nil_of_le (by omega)]; simp [ins]

theorem Ints.drew {W : World} {B : Nat} {v : Value} {xs : List Int} (h : Ints W B v xs) : Ints W.drew B v xs := h.below (Below.refl _ _).drew
theorem Reads.drew {W : World} {v : Value} {xs : List Int} (h : Reads W v xs) : Reads W.drew v xs := h.below (Below.refl _ _).drew
theorem lit_at (w : World) (B g : Nat) (hB : B ≤ w.heap.size) (hg : g = w.heap.size) : Ints (w.alloc (.cells #[] 3)) B (.slice (some ⟨g, 0, none⟩) 0 0) [] := by rw [hg]; exact Ints.lit w B hB
theorem reads_one {W : World} {g : Nat} {y : Int} (h : W.cell? ⟨g, 0, none⟩ = some (.int .i64 y)) : Reads W (.slice (some ⟨g, 0, none⟩) 1 1) [y] := by
  refine ⟨_, 1, rfl, Nat.le_refl _, fun _ => ⟨g, 0, rfl, ?_, fun j hj => ?_⟩⟩
  · have := World.block_lt_of_cell? W _ h
    simpa using this
  · simp at hj; subst hj; exact h
theorem reads_drop {w : World} {g n c k off : Nat} {xs : List Int} (h : Reads w (.slice (some ⟨g, 0, none⟩) n c) xs) (hn : xs.length = n) (hk : k ≤ n) (ho : k < n → off = k) : Reads w (.slice (some ⟨g, off, none⟩) (n - k) (c - k)) (xs.drop k) := by
  have hc : n ≤ c := by obtain ⟨_, _, e, h2, _⟩ := h; injection e with _ _ e3; omega
  have hl : (xs.drop k).length = n - k := by rw [List.length_drop, hn]
  refine ⟨_, c - k, by rw [hl], by rw [hl]; omega, fun hne => ?_⟩
  have hkn : k < n := by
    apply Classical.byContradiction
    intro e
    exact hne (List.drop_eq_nil_of_le (by omega))
  obtain ⟨g', o', e1, hg, hcell⟩ := h.at hn hkn
  injection e1 with e2
  injection e2 with e3 e4
  subst e3
  refine ⟨g, off, rfl, hg, fun j hj => ?_⟩
  rw [hl] at hj
  have := hcell (k + j) (by omega)
  rw [← e4] at this
  rw [ho hkn, show k + j = 0 + (k + j) by omega, this]
  simp [List.getD_eq_getElem?_getD]
set_option maxRecDepth 100000 in
/-- append(s, src...) of ints, at one step of a region that draws its order. -/
theorem step_ints {ops : Array Oper} {o : Oper} {a : Act} {w : World} {K : Act → World → Prop} {Q : Exit → Act → World → Prop} {E : Prop} {B : Nat} {v : Value} {xs ys : List Int}
    (hg : o.guard = none) (s x : Operand) (hop : o.op = Op.call { callee := Callee.builtin Builtin.append, args := #[s, x], argTypes := #[24, 24] })
    (hown : Ints w B v xs) (hs : a.eval s = v) (g p m c : Nat) (hx : a.eval x = .slice (some ⟨g, p, none⟩) m c) (hu : Reads w (.slice (some ⟨g, p, none⟩) m c) ys) (hm : ys.length = m) (hlen : xs.length + ys.length ≤ 1000000) (hB : B ≤ w.heap.size)
    (hK : ∀ v' w', Ints w' B v' (xs ++ ys) → Below B w w' → (∀ q j u, some q ≠ v.ownBlock → w.cell? ⟨q, j, none⟩ = some u → w'.cell? ⟨q, j, none⟩ = some u) → K (a.put o.dst v') w') :
    if Region.wanted o (yielded ops a.tmps) = true then Oper.wp Try.prog o a w K Q else E := by
  have hw : Region.wanted o (yielded ops a.tmps) = true := by simp [Region.wanted, hg]
  rw [if_pos hw]
  obtain ⟨i0, hi, hz0, hz1, hz2⟩ := info_parts info3
  have hc : ∀ j u, (ys.map (Value.int .i64))[j]? = some u → w.cell? ((⟨g, p, none⟩ : Addr).add j) = some u := by
    intro j z hj
    rw [List.getElem?_map, Option.map_eq_some_iff] at hj
    obtain ⟨y, hy, rfl⟩ := hj
    obtain ⟨hj1, hj2⟩ := List.getElem?_eq_some_iff.1 hy
    obtain ⟨_, _, e0, _, hcl⟩ := hu
    obtain ⟨g', p', e1, _, hcell⟩ := hcl (fun e => by rw [e] at hj1; simp at hj1)
    have e2 : some (⟨g, p, none⟩ : Addr) = some ⟨g', p', none⟩ := by injection e0 with e3; rw [e3]; exact e1
    cases e2
    have := hcell j hj1
    rw [show (⟨g, p, none⟩ : Addr).add j = ⟨g, p + j, none⟩ from by simp [Addr.add], this, List.getD_eq_getElem?_getD, hy]; rfl
  obtain ⟨v', w', hrun, r1, r2, _⟩ := run_append_own (P := Try.prog) w B 24 o.type 3 i0 (.int .i64 0) 1 8 Try.underlying24 hi hz0 hz1 hz2 rfl (by decide) v xs.length (xs.map (Value.int .i64)) hown ⟨g, p, none⟩ m c (ys.map (Value.int .i64)) (by simp [hm]) hc
    (by intro z hz; rw [List.mem_map] at hz; obtain ⟨y, _, rfl⟩ := hz; rfl) (by unfold maxLen; omega) (by omega) hB
  unfold Oper.wp
  simp [execOp, hop, resolve, invoke, builtin, hs, hx, hrun, Result.andThen]
  refine hK v' w' ?_ ?_ ?_
  · unfold Ints; simpa [hm] using r1
  · exact (Below.refl B w).grown r2 hB (fun k hk => (World.ownsRow.lt hown k hk).1)
  · intro q j u hq hcq
    have hlt : q < w.heap.size := by have := World.block_lt_of_cell? w _ hcq; simpa using this
    have := r2.block q hlt hq
    rw [← hcq]
    simp only [World.cell?, this]

set_option maxHeartbeats 4000000 in
set_option maxRecDepth 100000 in
theorem falling46 {w : World} {v u : Value} {cs : List (List Int)} {n : Nat} {l : List Nat} (hv : Sq w v cs n) (hg : Good cs n) (hu : Reads w u (natI l)) (hl : l.length = n) (hb : ∀ a ∈ l, a < n) :
    Calls Try.prog 46 #[v, u] w fun e w' => ∃ v', e = .returned v' ∧ Ints w' w.heap.size v' (natI (falling (costsN cs l))) ∧ Below w.heap.size w w' := by
  obtain ⟨ao, c, rfl⟩ := hv.val
  obtain ⟨bo, d, rfl, _⟩ := hu.len
  have hll : (natI l).length = n := by rw [natI_len, hl]
  rw [hll] at hu ⊢
  have hv' := Lib.hid hv
  have hu' := Lib.hid hu
  have hn8 := hg.eight
  have hl' := Lib.hid hl
  have hll' := Lib.hid hll
  have hb' := Lib.hid hb
  have hbd := Lib.hid hg.bd
  have hend := Lib.hid (show falling (costsN cs l) = fallTo cs l n by rw [← hl, fallTo_all])
  clear hv hu hl hll hb hg
  have hi0 := Lib.hid (Ints.lit w w.heap.size (Nat.le_refl _))
  have hb0 := Lib.hid (below_alloc1 w (.cells #[] 3))
  go_enter Try.func46, Try.ntmps46
  go_wp2_with fail
  go_loopw [5, 6] (fun p iv wr => ∃ i : Nat, i ≤ n ∧ iv = .int .i64 i ∧ Hid (Ints wr w.heap.size p (natI (fallTo cs l i))) ∧ Hid (∃ b cap, p = .slice (some ⟨b, 0, none⟩) i cap) ∧ Hid (Below w.heap.size w wr)) (fun _ iv _ => n - (intOf iv).toNat)
  case atStart => exact ⟨0, Nat.zero_le _, rfl, hi0, Lib.hid ⟨_, _, rfl⟩, hb0⟩
  case round =>
    obtain ⟨i, hi, rfl, hout, hpv, hbw⟩ := hrel
    by_cases hlt : i < n
    · have hkl : i < l.length := by rw [hl'.out]; exact hlt
      obtain ⟨g, o, rfl, hg, g2, o2, rc, c1, hg2, hc2⟩ := hv'.out.at hlt
      obtain ⟨f, p, rfl, hf, hc3⟩ := hu'.out.at hll'.out hlt
      have hx := hb'.out (l.getD i 0) (by rw [List.getD_eq_getElem?_getD, List.getElem?_eq_getElem hkl]; simp)
      have c3 := (hbw.out.cell (p := ⟨f, p + i, none⟩) hf).trans (hc3 i hlt)
      rw [natI_at l i hkl] at c3
      have hfs := Lib.hid (fallTo_succ cs l i hkl)
      have hol := Lib.hid (fallTo_len cs l i (by omega))
      obtain ⟨x, hxq⟩ : ∃ x, x = l.getD i 0 := ⟨_, rfl⟩
      rw [← hxq] at hx c3 hfs
      have cc1 := (hbw.out.cell (p := ⟨g, o + i, none⟩) hg).trans c1
      have cc2 := (hbw.out.cell (p := ⟨g2, o2 + x, none⟩) hg2).trans (hc2 x hx)
      obtain ⟨hy0, hy1⟩ := hbd.out i x hlt hx
      obtain ⟨y, hyq⟩ : ∃ y, y = (costAt cs i x).toNat := ⟨_, rfl⟩
      rw [show costAt cs i x = ((costAt cs i x).toNat : Int) by omega] at cc2
      rw [← hyq] at cc2 hfs
      have hy8 : y ≤ 1000 := by omega
      obtain ⟨O, hO⟩ : ∃ O, O = fallTo cs l i := ⟨_, rfl⟩
      rw [← hO] at hout hfs hol
      clear hyq hxq hc2 hc3 c1 hO hy0 hy1
      go_wp2_with fail
      go_quiet (fail)
      go_wp2_with fail
      have hbq := below_drewN (Below.refl wr.heap.size wr) nq
      have hout1 := Lib.hid (hout.out.below hbq)
      have hbw1 := Lib.hid (below_drewN hbw.out nq)
      obtain ⟨wi, hwi⟩ : ∃ wi, wi = World.drewN wr nq := ⟨_, rfl⟩
      rw [← hwi] at hout1 hbw1 ⊢
      clear hwi hbq hout hbw cc1 cc2 c3
      have hsh := hout1.out.shape
      obtain ⟨bo, pc, rfl⟩ := hpv.out
      have hpc : i ≤ pc := by obtain ⟨_, _, e, h, _⟩ := hsh; rw [natI_len, hol.out] at h; injection e with _ _ e3; rw [e3]; exact h
      have hsh' := Lib.hid hsh
      clear hsh
      go_loop [8] (fun kv => ∃ k : Nat, k ≤ i ∧ kv = .int .i64 k ∧ Hid (InsAt y O k)) (fun kv => i - (intOf kv).toNat)
      case atStart => exact ⟨0, Nat.zero_le _, rfl, Lib.hid (insAt_zero _ _)⟩
      case round =>
        obtain ⟨k, hk, rfl, hin⟩ := hrel
        by_cases hki : k < i
        · have hkO : k < O.length := by rw [hol.out]; exact hki
          obtain ⟨g5, o5, e5, hg5, hc5⟩ := hsh'.out.at (by rw [natI_len, hol.out]) hki
          have c5 := hc5 k hki
          rw [natI_at O k hkO] at c5
          obtain ⟨rfl, rfl⟩ : bo = g5 ∧ 0 = o5 := by injection e5 with e6; injection e6 with e7 e8; exact ⟨e7, e8⟩
          rw [Nat.zero_add] at c5
          obtain ⟨z, hz⟩ : ∃ z, z = O.getD k 0 := ⟨_, rfl⟩
          rw [← hz] at c5
          clear hc5 e5
          by_cases hyz : y ≤ z
          · have hin2 := Lib.hid (insAt_succ hin.out hkO (by rw [← hz]; exact hyz))
            have hyz' : (y : Int) ≤ (z : Int) := by omega
            clear hz
            go_wp2_with fail
            go_round
            case rel => exact ⟨k + 1, by omega, by go_num, hin2⟩
            case measure => simp [intOf]; omega
          · have hfin := Lib.hid (insAt_end hin.out (fun _ => by rw [← hz]; exact hyz))
            have hyz' : decide ((y : Int) ≤ (z : Int)) = false := by simp; omega
            clear hz
            go_wp2_with fail
            have hkp : (k : Int) ≤ (pc : Int) := by omega
            have hq := hbw1.out.size
            have rT : Reads wi (.slice (some ⟨bo, 0, none⟩) k pc) ((natI O).take k) := Reads.take (by rw [natI_len, hol.out]) hsh'.out hk
            have rD : Reads wi (.slice (some ⟨bo, if pc = k then 0 else k, none⟩) (i - k) (pc - k)) ((natI O).drop k) := reads_drop hsh'.out (by rw [natI_len, hol.out]) hk (fun h => by rw [if_neg (by omega)])
            have A1 := Lib.hid (Ints.drew (lit_at wi wi.heap.size wi.heap.size (Nat.le_refl _) rfl))
            have bA := Lib.hid (((Below.refl wi.heap.size wi).alloc (Nat.le_refl _) (.cells #[] 3)).drew)
            have rA := Lib.hid (rT.below bA.out)
            have B1 := Lib.hid (Ints.drew (Ints.alloc (lit_at wi wi.heap.size wi.heap.size (Nat.le_refl _) rfl) (.cells #[.int .i64 (y : Int)] 3)))
            have bB := Lib.hid ((((Below.refl wi.heap.size wi).alloc (Nat.le_refl _) (.cells #[] 3)).alloc (by simp) (.cells #[.int .i64 (y : Int)] 3)).drew)
            have rB := Lib.hid (rT.below bB.out)
            have C1 := Lib.hid (Ints.drew (lit_at (wi.alloc (.cells #[.int .i64 (y : Int)] 3)) wi.heap.size (wi.heap.size + 1) (by simp) (by simp)))
            have bC := Lib.hid ((((Below.refl wi.heap.size wi).alloc (Nat.le_refl _) (.cells #[.int .i64 (y : Int)] 3)).alloc (by simp) (.cells #[] 3)).drew)
            have rC := Lib.hid (rT.below bC.out)
            have hlk := Lib.hid (show ((natI O).take k).length = k by rw [List.length_take, natI_len, hol.out]; omega)
            have hld := Lib.hid (show ((natI O).drop k).length = i - k by rw [List.length_drop, natI_len, hol.out])
            have cB := Lib.hid (show ((wi.alloc (.cells #[] 3)).alloc (.cells #[.int .i64 (y : Int)] 3)).drew.cell? ⟨wi.heap.size + 1, 0, none⟩ = some (.int .i64 (y : Int)) by
              rw [World.cell?_drew, World.cell?_alloc_at (hn := by simp)]; rfl)
            have cC := Lib.hid (show ((wi.alloc (.cells #[.int .i64 (y : Int)] 3)).alloc (.cells #[] 3)).drew.cell? ⟨wi.heap.size, 0, none⟩ = some (.int .i64 (y : Int)) by
              rw [World.cell?_drew]
              exact ((below_alloc1 (wi.alloc (.cells #[.int .i64 (y : Int)] 3)) (.cells #[] 3)).cell (p := ⟨wi.heap.size, 0, none⟩) (by simp)).trans (by rw [World.cell?_alloc_at (hn := rfl)]; rfl))
            go_region_law (first
              | (refine step_ints rfl (.tmp 40) (.tmp 43) rfl A1.out (by simp [Act.eval]) bo 0 k pc (by simp [Act.eval]) rA.out hlk.out (by rw [hlk.out]; first | (simp; done) | (simp; omega)) (by first | (simp; done) | (simp; omega)) ?_; intro v44 w44 h44 hb44 hk44; have b44 := bA.out.trans hb44)
              | (refine step_ints rfl (.tmp 40) (.tmp 43) rfl B1.out (by simp [Act.eval]) bo 0 k pc (by simp [Act.eval]) rB.out hlk.out (by rw [hlk.out]; first | (simp; done) | (simp; omega)) (by first | (simp; done) | (simp; omega)) ?_; intro v44 w44 h44 hb44 hk44; have b44 := bB.out.trans hb44; have hyc := hk44 _ 0 _ (by simp [Value.ownBlock]) cB.out)
              | (refine step_ints rfl (.tmp 40) (.tmp 43) rfl C1.out (by simp [Act.eval]) bo 0 k pc (by simp [Act.eval]) rC.out hlk.out (by rw [hlk.out]; first | (simp; done) | (simp; omega)) (by first | (simp; done) | (simp; omega)) ?_; intro v44 w44 h44 hb44 hk44; have b44 := bC.out.trans hb44; have hyc := hk44 _ 0 _ (by simp [Value.ownBlock]) cC.out)
              | (refine step_ints rfl (.tmp 44) (.tmp 46) rfl (h44.alloc _) (by simp [Act.eval]) w44.heap.size 0 1 1 (by simp [Act.eval]) (reads_one (y := (y : Int)) (by rw [World.cell?_alloc_at (hn := rfl)]; rfl)) rfl (by rw [List.nil_append, hlk.out]; simp; omega) (by have := b44.size; simp; omega) ?_; intro v47 w47 h47 hb47 hk47; have b47 := (b44.alloc b44.size _).trans hb47)
              | (refine step_ints rfl (.tmp 44) (.tmp 46) rfl h44 (by simp [Act.eval]) _ 0 1 1 (by simp [Act.eval]) (reads_one hyc) rfl (by rw [List.nil_append, hlk.out]; simp; omega) b44.size ?_; intro v47 w47 h47 hb47 hk47; have b47 := b44.trans hb47)
              | (refine step_ints rfl (.tmp 47) (.tmp 50) rfl h47 (by simp [Act.eval]) bo (if pc = k then 0 else k) (i - k) (pc - k) (by simp [Act.eval]; split <;> rfl) (rD.below b47) hld.out (by rw [hld.out, List.nil_append, List.length_append, hlk.out]; simp; omega) b47.size ?_; intro v51 w51 h51 hb51 hk51; have b51 := b47.trans hb51))
            all_goals
              have e51 : (([] ++ (natI O).take k) ++ [(y : Int)]) ++ (natI O).drop k = natI (fallTo cs l (i + 1)) := by
                rw [hfs.out, hfin.out]; simp [natI, List.map_take, List.map_drop]
              rw [e51] at h51
              have hl51 : (natI (fallTo cs l (i + 1))).length = i + 1 := by rw [natI_len, fallTo_len cs l (i + 1) (by rw [hl'.out]; omega)]
              obtain ⟨b5, c5, e5, _⟩ := ints_parts h51 (by intro e; rw [e] at hl51; simp at hl51)
              rw [hl51] at e5
              have h51' := Lib.hid (h51.base hq)
              have hp51 := Lib.hid (show ∃ b cap, v51 = .slice (some ⟨b, 0, none⟩) (i + 1) cap from ⟨_, _, e5⟩)
              have hb51' := Lib.hid (below_call hbw1.out b51)
              clear h51 e51 e5 hl51 hb51 hk51 b51 h47 hb47 hk47 b47 h44 hb44 hk44 b44
              go_wp2_with fail
              go_roundw
            all_goals first
              | exact ⟨i + 1, by omega, by go_num, h51', hp51, hb51'⟩
              | (simp [intOf]; omega)
        · have hfin := Lib.hid (insAt_end hin.out (fun e => by rw [hol.out] at e; omega))
          go_wp2_with fail
          have hkp : (k : Int) ≤ (pc : Int) := by omega
          have hq := hbw1.out.size
          have rT : Reads wi (.slice (some ⟨bo, 0, none⟩) k pc) ((natI O).take k) := Reads.take (by rw [natI_len, hol.out]) hsh'.out hk
          have rD : Reads wi (.slice (some ⟨bo, if pc = k then 0 else k, none⟩) (i - k) (pc - k)) ((natI O).drop k) := reads_drop hsh'.out (by rw [natI_len, hol.out]) hk (fun h => by rw [if_neg (by omega)])
          have A1 := Lib.hid (Ints.drew (lit_at wi wi.heap.size wi.heap.size (Nat.le_refl _) rfl))
          have bA := Lib.hid (((Below.refl wi.heap.size wi).alloc (Nat.le_refl _) (.cells #[] 3)).drew)
          have rA := Lib.hid (rT.below bA.out)
          have B1 := Lib.hid (Ints.drew (Ints.alloc (lit_at wi wi.heap.size wi.heap.size (Nat.le_refl _) rfl) (.cells #[.int .i64 (y : Int)] 3)))
          have bB := Lib.hid ((((Below.refl wi.heap.size wi).alloc (Nat.le_refl _) (.cells #[] 3)).alloc (by simp) (.cells #[.int .i64 (y : Int)] 3)).drew)
          have rB := Lib.hid (rT.below bB.out)
          have C1 := Lib.hid (Ints.drew (lit_at (wi.alloc (.cells #[.int .i64 (y : Int)] 3)) wi.heap.size (wi.heap.size + 1) (by simp) (by simp)))
          have bC := Lib.hid ((((Below.refl wi.heap.size wi).alloc (Nat.le_refl _) (.cells #[.int .i64 (y : Int)] 3)).alloc (by simp) (.cells #[] 3)).drew)
          have rC := Lib.hid (rT.below bC.out)
          have hlk := Lib.hid (show ((natI O).take k).length = k by rw [List.length_take, natI_len, hol.out]; omega)
          have hld := Lib.hid (show ((natI O).drop k).length = i - k by rw [List.length_drop, natI_len, hol.out])
          have cB := Lib.hid (show ((wi.alloc (.cells #[] 3)).alloc (.cells #[.int .i64 (y : Int)] 3)).drew.cell? ⟨wi.heap.size + 1, 0, none⟩ = some (.int .i64 (y : Int)) by
            rw [World.cell?_drew, World.cell?_alloc_at (hn := by simp)]; rfl)
          have cC := Lib.hid (show ((wi.alloc (.cells #[.int .i64 (y : Int)] 3)).alloc (.cells #[] 3)).drew.cell? ⟨wi.heap.size, 0, none⟩ = some (.int .i64 (y : Int)) by
            rw [World.cell?_drew]
            exact ((below_alloc1 (wi.alloc (.cells #[.int .i64 (y : Int)] 3)) (.cells #[] 3)).cell (p := ⟨wi.heap.size, 0, none⟩) (by simp)).trans (by rw [World.cell?_alloc_at (hn := rfl)]; rfl))
          go_region_law (first
            | (refine step_ints rfl (.tmp 40) (.tmp 43) rfl A1.out (by simp [Act.eval]) bo 0 k pc (by simp [Act.eval]) rA.out hlk.out (by rw [hlk.out]; first | (simp; done) | (simp; omega)) (by first | (simp; done) | (simp; omega)) ?_; intro v44 w44 h44 hb44 hk44; have b44 := bA.out.trans hb44)
            | (refine step_ints rfl (.tmp 40) (.tmp 43) rfl B1.out (by simp [Act.eval]) bo 0 k pc (by simp [Act.eval]) rB.out hlk.out (by rw [hlk.out]; first | (simp; done) | (simp; omega)) (by first | (simp; done) | (simp; omega)) ?_; intro v44 w44 h44 hb44 hk44; have b44 := bB.out.trans hb44; have hyc := hk44 _ 0 _ (by simp [Value.ownBlock]) cB.out)
            | (refine step_ints rfl (.tmp 40) (.tmp 43) rfl C1.out (by simp [Act.eval]) bo 0 k pc (by simp [Act.eval]) rC.out hlk.out (by rw [hlk.out]; first | (simp; done) | (simp; omega)) (by first | (simp; done) | (simp; omega)) ?_; intro v44 w44 h44 hb44 hk44; have b44 := bC.out.trans hb44; have hyc := hk44 _ 0 _ (by simp [Value.ownBlock]) cC.out)
            | (refine step_ints rfl (.tmp 44) (.tmp 46) rfl (h44.alloc _) (by simp [Act.eval]) w44.heap.size 0 1 1 (by simp [Act.eval]) (reads_one (y := (y : Int)) (by rw [World.cell?_alloc_at (hn := rfl)]; rfl)) rfl (by rw [List.nil_append, hlk.out]; simp; omega) (by have := b44.size; simp; omega) ?_; intro v47 w47 h47 hb47 hk47; have b47 := (b44.alloc b44.size _).trans hb47)
            | (refine step_ints rfl (.tmp 44) (.tmp 46) rfl h44 (by simp [Act.eval]) _ 0 1 1 (by simp [Act.eval]) (reads_one hyc) rfl (by rw [List.nil_append, hlk.out]; simp; omega) b44.size ?_; intro v47 w47 h47 hb47 hk47; have b47 := b44.trans hb47)
            | (refine step_ints rfl (.tmp 47) (.tmp 50) rfl h47 (by simp [Act.eval]) bo (if pc = k then 0 else k) (i - k) (pc - k) (by simp [Act.eval]; split <;> rfl) (rD.below b47) hld.out (by rw [hld.out, List.nil_append, List.length_append, hlk.out]; simp; omega) b47.size ?_; intro v51 w51 h51 hb51 hk51; have b51 := b47.trans hb51))
          all_goals
            have e51 : (([] ++ (natI O).take k) ++ [(y : Int)]) ++ (natI O).drop k = natI (fallTo cs l (i + 1)) := by
              rw [hfs.out, hfin.out]; simp [natI, List.map_take, List.map_drop]
            rw [e51] at h51
            have hl51 : (natI (fallTo cs l (i + 1))).length = i + 1 := by rw [natI_len, fallTo_len cs l (i + 1) (by rw [hl'.out]; omega)]
            obtain ⟨b5, c5, e5, _⟩ := ints_parts h51 (by intro e; rw [e] at hl51; simp at hl51)
            rw [hl51] at e5
            have h51' := Lib.hid (h51.base hq)
            have hp51 := Lib.hid (show ∃ b cap, v51 = .slice (some ⟨b, 0, none⟩) (i + 1) cap from ⟨_, _, e5⟩)
            have hb51' := Lib.hid (below_call hbw1.out b51)
            clear h51 e51 e5 hl51 hb51 hk51 b51 h47 hb47 hk47 b47 h44 hb44 hk44 b44
            go_wp2_with fail
            go_roundw
          all_goals first
            | exact ⟨i + 1, by omega, by go_num, h51', hp51, hb51'⟩
            | (simp [intOf]; omega)
    · obtain rfl : n = i := by omega
      go_wp2_with fail
      go_ret
      exact ⟨_, rfl, by rw [hend.out]; exact hout.out, hbw.out⟩
end Go.Proofs.Ytfobdlllghpelaa
