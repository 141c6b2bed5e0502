import Derived.Test.YtpcjigdmfchbdaaDoorYx
import Derived.Test.YtpcjigdmfchbdaaDoorZo
import Derived.Test.YtpcjigdmfchbdaaDoorZx
namespace Go.Proofs.YtpcjigdmfchbdaaDoor
open Go.RowKit Go.Shelf Cl
attribute [local go_sem] Oper.semAt_some

/-- The attacks by other names, the last ones first, from number `i` on. -/
def mvL (n k : Nat) (L : Atts) (i : Nat) : Atts := ((L.drop i).map fun p => (fAdd n k p.1, fAdd n k p.2)).reverse
theorem mvL_prev {n k : Nat} {L : Atts} {i : Nat} (h : i < L.length) : mvL n k L i = mvL n k L (i + 1) ++ [(fAdd n k (L.getD i (0, 0)).1, fAdd n k (L.getD i (0, 0)).2)] := by
  unfold mvL
  rw [List.drop_eq_getElem_cons h, List.map_cons, List.reverse_cons, List.getD_eq_getElem?_getD, List.getElem?_eq_getElem h]; rfl
theorem mvL_end (n k : Nat) (L : Atts) : mvL n k L L.length = [] := by simp [mvL]
theorem mvL_len (n k : Nat) (L : Atts) (i : Nat) : (mvL n k L i).length = L.length - i := by simp [mvL]
/-- And the first one again, where there is room. -/
def mvA (n k : Nat) (L : Atts) : Atts := if 0 < L.length ∧ L.length < 40 then mvL n k L 0 ++ [(mvL n k L 0).getD 0 (0, 0)] else mvL n k L 0
theorem mem_mvL {n k : Nat} {L : Atts} {a b : Nat} : (a, b) ∈ mvL n k L 0 ↔ ∃ x y, (x, y) ∈ L ∧ fAdd n k x = a ∧ fAdd n k y = b := by
  unfold mvL
  rw [List.mem_reverse, List.drop_zero, List.mem_map]
  constructor
  · rintro ⟨⟨x, y⟩, h, e⟩
    simp only [Prod.mk.injEq] at e
    exact ⟨x, y, h, e.1, e.2⟩
  · rintro ⟨x, y, h, rfl, rfl⟩; exact ⟨(x, y), h, rfl⟩
theorem mvA_moved (n k : Nat) (L : Atts) : Moved (fAdd n k) L (mvA n k L) := fun a b => by
  rw [← mem_mvL]
  unfold mvA
  split
  · next h =>
    rw [List.mem_append]
    constructor
    · rintro (h2 | h2)
      · exact h2
      · have hl : 0 < (mvL n k L 0).length := by rw [mvL_len]; omega
        rw [List.getD_eq_getElem?_getD, List.getElem?_eq_getElem hl] at h2
        simp only [Option.getD_some, List.mem_cons, List.not_mem_nil, or_false] at h2
        rw [h2]; exact List.getElem_mem _
    · exact fun h => .inl h
  · exact Iff.rfl
theorem mvA_len {n k : Nat} {L : Atts} (h : L.length ≤ 40) : (mvA n k L).length ≤ 40 := by
  unfold mvA
  split
  · next h2 => rw [List.length_append, mvL_len]; simp; omega
  · rw [mvL_len]; omega
theorem toI_get {L : Atts} {i : Nat} (h : i < L.length) : (toI L).getD i (0, 0) = (((L.getD i (0, 0)).1 : Int), ((L.getD i (0, 0)).2 : Int)) := by simp [toI, List.getD_eq_getElem?_getD, h]
set_option maxRecDepth 100000 in
set_option maxHeartbeats 8000000 in
theorem walk15 {w : World} (hT : Tab w) {n by' : Nat} {v : Value} {xs : List (Nat × Nat)} (hn : n < 256) (hx : InDuo w v xs) (hby : by' < 256) :
    Calls Tryd.prog 15 #[.int .u8 (n : Int), v, .int .u8 (by' : Int)] w fun e w' => e = .returned (.bool true) ∧ Below w.heap.size w w' := by
  have hT' := Lib.hid hT
  have hm := Lib.hid (show Calls Tryd.prog 43 #[.int .u8 (n : Int), v, .int .i64 10] w (MadeD w (szM n 10) (mkL (szM n 10) xs)) from made43 (most := 10) hn (by omega) (by omega) hx)
  have hs10 : szM n 10 ≤ 10 := by unfold szM; omega
  have hs1 : 1 ≤ szM n 10 := by unfold szM; omega
  have hs12 : szM n 10 ≤ 12 := by omega
  have hv := mk_vld hs1 hs12 xs
  have hW := mkL_within (sz := szM n 10) (by omega) xs
  have hL40 := mkL_len (szM n 10) xs
  clear hT hx hn
  generalize szM n 10 = sz at hm hs12 hs1 hv hs10 hW hL40
  generalize mkL sz xs = L at hm hv hW hL40
  obtain ⟨k, hk⟩ : ∃ k, k = by' % sz := ⟨_, rfl⟩
  have hkn : k < sz := by rw [hk]; exact Nat.mod_lt _ (by omega)
  have hki : (by' : Int) % (sz : Int) = (k : Int) := by rw [hk]; push_cast; rfl
  clear hk
  have hR := ren_add hkn
  have hMv := mvA_moved sz k L
  have hWM := hR.within hW hMv
  have hvM := vld_toI hs1 hs12 hWM (mvA_len hL40)
  have hpp := hR.prefs hs12 hW hMv
  have hpc := hR.coms hs12 hW hMv
  have h25 := Lib.hid (fun (W : World) (v : Value) (h : Below w.heap.size w W) (hp : OwnP W w.heap.size v (toI L)) => preferredM (hT'.out.call h) hv hp)
  have h27 := Lib.hid (fun (W : World) (v : Value) (h : Below w.heap.size w W) (hp : OwnP W w.heap.size v (toI L)) => completeM (hT'.out.call h) hv hp)
  have h25b := Lib.hid (fun (W : World) (v : Value) (h : Below w.heap.size w W) (hp : OwnP W w.heap.size v (toI (mvA sz k L))) => preferredM (hT'.out.call h) hvM hp)
  have h27b := Lib.hid (fun (W : World) (v : Value) (h : Below w.heap.size w W) (hp : OwnP W w.heap.size v (toI (mvA sz k L))) => completeM (hT'.out.call h) hvM hp)
  have hml : ∀ {l m : List Nat}, (l.map (mvS (fAdd sz k))).Perm m → lists (l.map (mvS (fAdd sz k))) = lists m := fun h => by
    rw [lists_eq, lists_eq]; exact srt_perm_eq (h.map _)
  have h46 := Lib.hid (fun (W : World) (v : Value) (hu : ReadsG W v (lists (prefs sz L))) => show Calls Tryd.prog 46 #[v, .int .i64 (k : Int), .int .i64 (sz : Int)] W (ListsEnd W (lists (prefs sz (mvA sz k L)))) from by
    have := moved46 (k := k) hu (fun S hS => ((mem_prefs hs12).1 hS).1) hs12 hkn (grt_len (sets_len hs12))
    rwa [hml hpp] at this)
  have h46b := Lib.hid (fun (W : World) (v : Value) (hu : ReadsG W v (lists (coms sz L))) => show Calls Tryd.prog 46 #[v, .int .i64 (k : Int), .int .i64 (sz : Int)] W (ListsEnd W (lists (coms sz (mvA sz k L)))) from by
    have := moved46 (k := k) hu (fun S hS => ((mem_coms hs12).1 hS).1) hs12 hkn (sets_len hs12)
    rwa [hml hpc] at this)
  have h29 := Lib.hid (fun (W : World) (u v : Value) (l : List Nat) (hl : l.length ≤ 4096) (hu : ReadsG W u (lists l)) (hv : ReadsG W v (lists l)) => show Calls Tryd.prog 29 #[u, v] W (BoolEnd W true) from by
    have := refSame29 hu hv (by rw [lists_len]; omega) (lists_row l) (lists_row l)
    rwa [beq_self_eq_true] at this)
  have hl1 := Lib.hid (show (prefs sz (mvA sz k L)).length ≤ 4096 from grt_len (sets_len hs12))
  have hl2 := Lib.hid (show (coms sz (mvA sz k L)).length ≤ 4096 from sets_len hs12)
  have hli := Lib.hid (fun (W : World) (h : Below w.heap.size w W) => lives20 (hT'.out.call h))
  have hget := Lib.hid (fun (i : Nat) (h : i < L.length) => show ∃ a b : Nat, (toI L).getD i (0, 0) = ((a : Int), (b : Int)) ∧ a < sz ∧ b < sz ∧ mvL sz k L i = mvL sz k L (i + 1) ++ [((a + k) % sz, (b + k) % sz)] from by
    have hmm : L.getD i (0, 0) ∈ L := by rw [List.getD_eq_getElem?_getD, List.getElem?_eq_getElem h]; exact List.getElem_mem _
    exact ⟨_, _, toI_get h, (hW _ hmm).1, (hW _ hmm).2, mvL_prev h⟩)
  have hnil := Lib.hid (mvL_end sz k L)
  have hml2 := Lib.hid (fun i => show (toI (mvL sz k L i)).length = L.length - i from by rw [toI_len, mvL_len])
  have hfin := Lib.hid (fun (h : 0 < L.length ∧ L.length < 40) => show mvA sz k L = mvL sz k L 0 ++ [(mvL sz k L 0).getD 0 (0, 0)] from by unfold mvA; rw [if_pos h])
  have hfin2 := Lib.hid (fun (h : ¬ (0 < L.length ∧ L.length < 40)) => show mvA sz k L = mvL sz k L 0 from by unfold mvA; rw [if_neg h])
  have hg0 := Lib.hid (fun (h : 0 < L.length) => toI_get (L := mvL sz k L 0) (i := 0) (by rw [mvL_len]; omega))
  have hLl := Lib.hid (toI_len L)
  clear hv hW hR hMv hWM hvM hpp hpc hml hT'
  generalize mvL sz k L = ML at hget hnil hml2 hfin hfin2 hg0
  generalize mvA sz k L = MA at h25b h27b h46 h46b hfin hfin2 hl1 hl2
  generalize prefs sz L = P1 at h25 h46
  generalize coms sz L = C1 at h27 h46b
  generalize prefs sz MA = P2 at h25b h46 hl1
  generalize coms sz MA = C2 at h27b h46b hl2
  obtain ⟨N, hN⟩ : ∃ N, N = L.length := ⟨_, rfl⟩
  have hN' := Lib.hid hN
  rw [← hN] at hL40 hget hnil hml2 hfin hfin2 hg0 hLl
  clear hN
  have hnz : ¬ (sz : Int) = 0 := by omega
  have hnz2 : ¬ sz = 0 := by omega
  have hwby : (by' : Int) < 256 := by omega
  go_enter Tryd.func15, Tryd.ntmps15
  go_upto_region 4 with (first
    | (go_at_call 43; refine (hm.out).mono ?_; rintro e w1 ⟨v1, rfl, ho, hb⟩; obtain ⟨a1, c1, rfl, -⟩ := id (own_cells ho); rw [hLl.out] at ho ⊢; have ho1 := Lib.hid ho; have hb1 := Lib.hid hb; have hlit := Lib.hid (OwnP.lit w1 w1.heap.size (Nat.le_refl _)); have hal := Lib.hid (below_alloc1 w1 (.cells #[] 58)); clear ho hb hm))
  rw [hki]
  clear hki hwby
  have hbA := Lib.hid (below_call hb1.out hal.out)
  have hlA := Lib.hid (own_base hlit.out hb1.out.size)
  have ho1A := Lib.hid (own_below ho1.out hal.out)
  go_wp2_with fail

  go_loopw [10, 11] (fun mv iv wr => ∃ i : Nat, i ≤ N ∧ iv = .int .i64 ((i : Int) - 1) ∧ Hid (OwnP wr w1.heap.size mv (toI (ML i))) ∧ Hid (∃ g cap, mv = .slice (some ⟨g, 0, none⟩) (N - i) cap) ∧ Hid (Below w1.heap.size w1 wr)) (fun _ iv _ => (intOf iv + 1).toNat)
  case atStart => exact ⟨N, Nat.le_refl _, rfl, by rw [hnil.out]; exact hlit, Lib.hid ⟨w1.heap.size, 0, by rw [Nat.sub_self]⟩, hal⟩
  case round =>
    obtain ⟨i, hi, rfl, hp, hpv, hb⟩ := hrel
    obtain ⟨gm, cm, rfl⟩ := hpv.out
    have hbW := Lib.hid (below_call hb1.out hb.out)
    by_cases h0 : 0 < i
    · obtain ⟨j, rfl⟩ : ∃ j, i = j + 1 := ⟨i - 1, by omega⟩
      have hjN : j < N := by omega
      have e1 : ((j + 1 : Nat) : Int) - 1 = (j : Int) := by omega
      rw [e1]
      obtain ⟨a, b, hab, ha, hbn, hsn⟩ := hget.out j hjN
      obtain ⟨ao2, c2, e2, hcl⟩ := (OwnP.reads ho1.out).at
      simp only [Value.slice.injEq] at e2
      obtain ⟨rfl, -, rfl⟩ := e2
      obtain ⟨g, of, rfl, hg, hcl2⟩ := hcl (fun e => by have := hLl.out; rw [e] at this; simp at this; omega)
      obtain ⟨d1, d2⟩ := hcl2 j (by rw [hLl.out]; exact hjN)
      rw [hab] at d1 d2
      replace d1 := (hb.out.cell (p := ⟨g, of + j * 2, none⟩) hg).trans d1
      replace d2 := (hb.out.cell (p := ⟨g, of + j * 2 + 1, none⟩) hg).trans d2
      have hjI : (j : Int) < N := by omega
      have hlen := Lib.hid (hml2.out (j + 1))
      have hsn' := Lib.hid hsn
      obtain ⟨x, hx⟩ : ∃ x, x = (a + k) % sz := ⟨_, rfl⟩
      obtain ⟨y, hy⟩ : ∃ y, y = (b + k) % sz := ⟨_, rfl⟩
      have hxi : ((a : Int) + (k : Int)) % (sz : Int) = (x : Int) := by rw [hx]; push_cast; rfl
      have hyi : ((b : Int) + (k : Int)) % (sz : Int) = (y : Int) := by rw [hy]; push_cast; rfl
      have hxt : ((a : Int) + (k : Int)).tmod (sz : Int) = (x : Int) := by rw [Int.tmod_eq_emod_of_nonneg (by omega)]; exact hxi
      have hyt : ((b : Int) + (k : Int)).tmod (sz : Int) = (y : Int) := by rw [Int.tmod_eq_emod_of_nonneg (by omega)]; exact hyi
      have hwx : IntKind.i64.wrap ((a : Int) + (k : Int)) = (a : Int) + (k : Int) := IntWalk.i64_in _ ⟨by omega, by omega⟩
      have hwy : IntKind.i64.wrap ((b : Int) + (k : Int)) = (b : Int) + (k : Int) := IntWalk.i64_in _ ⟨by omega, by omega⟩
      rw [← hx, ← hy] at hsn'
      have hx12 : x < 12 := by have := Nat.mod_lt (a + k) (show 0 < sz by omega); omega
      have hy12 : y < 12 := by have := Nat.mod_lt (b + k) (show 0 < sz by omega); omega
      have hwx2 : IntKind.i64.wrap (x : Int) = x := IntWalk.i64_in _ ⟨by omega, by omega⟩
      have hwy2 : IntKind.i64.wrap (y : Int) = y := IntWalk.i64_in _ ⟨by omega, by omega⟩
      clear hcl hcl2 hab hsn hx hy e1
      go_wp2_with fail
      have hg9 : g < wr.heap.size := Nat.lt_of_lt_of_le hg hb.out.size
      have ca := Lib.hid d1
      have cb := Lib.hid d2
      have hji := Lib.hid hjI
      have hMA := Lib.hid hxt
      have hMB := Lib.hid hyt
      have hMA2 := Lib.hid hxi
      have hMB2 := Lib.hid hyi
      have hWA := Lib.hid hwx
      have hWB := Lib.hid hwy
      have hWA2 := Lib.hid hwx2
      have hWB2 := Lib.hid hwy2
      have hs0 := Lib.hid hnz2
      have hlenj := Lib.hid (show (toI (ML (j + 1))).length = N - (j + 1) from hml2.out (j + 1))
      have ho' := Lib.hid (show wr.ownsRow w1.heap.size 58 2 (.slice (some ⟨gm, 0, none⟩) (N - (j + 1)) cm) (N - (j + 1)) (flat encP (toI (ML (j + 1)))) from by have := hp.out; unfold OwnP at this; rw [hlenj.out] at this; exact this)
      refine wp_region_noPanic ?_
      refine wp_region_any (by kernel_rfl) (wpAny_of_held (S := fun w' => Below w1.heap.size w1 w' ∧ w'.cell? ⟨g, of + j * 2, none⟩ = some (.int .i64 (a : Int)) ∧ w'.cell? ⟨g, of + j * 2 + 1, none⟩ = some (.int .i64 (b : Int))) _ _ _ _ ?_)
      have hHeld : Below w1.heap.size w1 wr.drew ∧ wr.drew.cell? ⟨g, of + j * 2, none⟩ = some (.int .i64 (a : Int)) ∧ wr.drew.cell? ⟨g, of + j * 2 + 1, none⟩ = some (.int .i64 (b : Int)) := ⟨hb.out.drew, ca.out, cb.out⟩
      change wpAnyH _ _ _ _ _ _ _ _ wr.drew
      simp only [List.size_toArray, List.length_cons, List.length_nil, Nat.reduceAdd, Array.replicate_succ, Array.replicate_zero, List.push_toArray, List.nil_append, List.cons_append]
      clear hwx hwy hxt hyt hxi hyi
      refine wpAnyH_take (i := 0) (v := .slice (some ⟨gm, 0, none⟩) (N - (j + 1)) cm) rfl (by kernel_rfl) (by kernel_rfl) (by kernel_rfl) (fun _ _ _ h => h) (Or.inl ⟨by rfl, ?_⟩) hHeld ?_
      · intro w' hSw; go_simp
      simp only [Act.put, List.setIfInBounds_toArray, List.set_cons_zero, List.set_cons_succ, List.getElem_toArray, List.getElem_cons_zero]
      refine wpAnyH_take (i := 1) (v := .slice (some ⟨g, of, none⟩) N c1) rfl (by kernel_rfl) (by kernel_rfl) (by kernel_rfl) (fun _ _ _ h => h) (Or.inl ⟨by rfl, ?_⟩) hHeld ?_
      · intro w' hSw; go_simp
      simp only [Act.put, List.setIfInBounds_toArray, List.set_cons_zero, List.set_cons_succ, List.getElem_toArray, List.getElem_cons_succ, List.getElem_cons_zero]
      refine wpAnyH_take (i := 2) (v := .int .i64 (j : Int)) rfl (by kernel_rfl) (by kernel_rfl) (by kernel_rfl) (fun _ _ _ h => h) (Or.inl ⟨by rfl, ?_⟩) hHeld ?_
      · intro w' hSw; go_simp
      simp only [Act.put, List.setIfInBounds_toArray, List.set_cons_zero, List.set_cons_succ, List.getElem_toArray, List.getElem_cons_succ, List.getElem_cons_zero]
      refine wpAnyH_take (i := 3) (v := .pointer (some ⟨g, of + j * 2, none⟩)) rfl (by kernel_rfl) (by kernel_rfl) (by kernel_rfl) (fun _ _ _ h => h) (Or.inl ⟨by rfl, ?_⟩) hHeld ?_
      · intro w' hSw; have hi1 : (j : Int) < N := hji.out; go_simp
      simp only [Act.put, List.setIfInBounds_toArray, List.set_cons_zero, List.set_cons_succ, List.getElem_toArray, List.getElem_cons_succ, List.getElem_cons_zero]
      refine wpAnyH_take (i := 4) (v := .pointer (some ⟨g, of + j * 2, none⟩)) rfl (by kernel_rfl) (by kernel_rfl) (by kernel_rfl) (fun _ _ _ h => h) (Or.inl ⟨by rfl, ?_⟩) hHeld ?_
      · intro w' hSw; go_simp
      simp only [Act.put, List.setIfInBounds_toArray, List.set_cons_zero, List.set_cons_succ, List.getElem_toArray, List.getElem_cons_succ, List.getElem_cons_zero]
      refine wpAnyH_take (i := 5) (v := .int .i64 (a : Int)) rfl (by kernel_rfl) (by kernel_rfl) (by kernel_rfl) (fun _ _ _ h => h) (Or.inl ⟨by rfl, ?_⟩) hHeld ?_
      · intro w' hSw; have a0 := hSw.2.1; go_simp
      simp only [Act.put, List.setIfInBounds_toArray, List.set_cons_zero, List.set_cons_succ, List.getElem_toArray, List.getElem_cons_succ, List.getElem_cons_zero]
      refine wpAnyH_take (i := 6) (v := .int .i64 (k : Int)) rfl (by kernel_rfl) (by kernel_rfl) (by kernel_rfl) (fun _ _ _ h => h) (Or.inl ⟨by rfl, ?_⟩) hHeld ?_
      · intro w' hSw; go_simp
      simp only [Act.put, List.setIfInBounds_toArray, List.set_cons_zero, List.set_cons_succ, List.getElem_toArray, List.getElem_cons_succ, List.getElem_cons_zero]
      refine wpAnyH_take (i := 7) (v := .int .i64 ((a : Int) + (k : Int))) rfl (by kernel_rfl) (by kernel_rfl) (by kernel_rfl) (fun _ _ _ h => h) (Or.inl ⟨by rfl, ?_⟩) hHeld ?_
      · intro w' hSw; have a0 := hWA.out; go_simp
      simp only [Act.put, List.setIfInBounds_toArray, List.set_cons_zero, List.set_cons_succ, List.getElem_toArray, List.getElem_cons_succ, List.getElem_cons_zero]
      refine wpAnyH_take (i := 8) (v := .int .i64 (sz : Int)) rfl (by kernel_rfl) (by kernel_rfl) (by kernel_rfl) (fun _ _ _ h => h) (Or.inl ⟨by rfl, ?_⟩) hHeld ?_
      · intro w' hSw; go_simp
      simp only [Act.put, List.setIfInBounds_toArray, List.set_cons_zero, List.set_cons_succ, List.getElem_toArray, List.getElem_cons_succ, List.getElem_cons_zero]
      refine wpAnyH_take (i := 9) (v := .int .i64 (x : Int)) rfl (by kernel_rfl) (by kernel_rfl) (by kernel_rfl) (fun _ _ _ h => h) (Or.inl ⟨by rfl, ?_⟩) hHeld ?_
      · intro w' hSw; have a0 := hMA.out; have a2 := hMA2.out; have a1 := hs0.out; have a3 := hWA2.out; go_simp
      simp only [Act.put, List.setIfInBounds_toArray, List.set_cons_zero, List.set_cons_succ, List.getElem_toArray, List.getElem_cons_succ, List.getElem_cons_zero]
      refine wpAnyH_take (i := 10) (v := .slice (some ⟨g, of, none⟩) N c1) rfl (by kernel_rfl) (by kernel_rfl) (by kernel_rfl) (fun _ _ _ h => h) (Or.inl ⟨by rfl, ?_⟩) hHeld ?_
      · intro w' hSw; go_simp
      simp only [Act.put, List.setIfInBounds_toArray, List.set_cons_zero, List.set_cons_succ, List.getElem_toArray, List.getElem_cons_succ, List.getElem_cons_zero]
      refine wpAnyH_take (i := 11) (v := .int .i64 (j : Int)) rfl (by kernel_rfl) (by kernel_rfl) (by kernel_rfl) (fun _ _ _ h => h) (Or.inl ⟨by rfl, ?_⟩) hHeld ?_
      · intro w' hSw; go_simp
      simp only [Act.put, List.setIfInBounds_toArray, List.set_cons_zero, List.set_cons_succ, List.getElem_toArray, List.getElem_cons_succ, List.getElem_cons_zero]
      refine wpAnyH_take (i := 12) (v := .pointer (some ⟨g, of + j * 2, none⟩)) rfl (by kernel_rfl) (by kernel_rfl) (by kernel_rfl) (fun _ _ _ h => h) (Or.inl ⟨by rfl, ?_⟩) hHeld ?_
      · intro w' hSw; have hi1 : (j : Int) < N := hji.out; go_simp
      simp only [Act.put, List.setIfInBounds_toArray, List.set_cons_zero, List.set_cons_succ, List.getElem_toArray, List.getElem_cons_succ, List.getElem_cons_zero]
      refine wpAnyH_take (i := 13) (v := .pointer (some ⟨g, of + j * 2 + 1, none⟩)) rfl (by kernel_rfl) (by kernel_rfl) (by kernel_rfl) (fun _ _ _ h => h) (Or.inl ⟨by rfl, ?_⟩) hHeld ?_
      · intro w' hSw; go_simp
      simp only [Act.put, List.setIfInBounds_toArray, List.set_cons_zero, List.set_cons_succ, List.getElem_toArray, List.getElem_cons_succ, List.getElem_cons_zero]
      refine wpAnyH_take (i := 14) (v := .int .i64 (b : Int)) rfl (by kernel_rfl) (by kernel_rfl) (by kernel_rfl) (fun _ _ _ h => h) (Or.inl ⟨by rfl, ?_⟩) hHeld ?_
      · intro w' hSw; have a0 := hSw.2.2; go_simp
      simp only [Act.put, List.setIfInBounds_toArray, List.set_cons_zero, List.set_cons_succ, List.getElem_toArray, List.getElem_cons_succ, List.getElem_cons_zero]
      refine wpAnyH_take (i := 15) (v := .int .i64 (k : Int)) rfl (by kernel_rfl) (by kernel_rfl) (by kernel_rfl) (fun _ _ _ h => h) (Or.inl ⟨by rfl, ?_⟩) hHeld ?_
      · intro w' hSw; go_simp
      simp only [Act.put, List.setIfInBounds_toArray, List.set_cons_zero, List.set_cons_succ, List.getElem_toArray, List.getElem_cons_succ, List.getElem_cons_zero]
      refine wpAnyH_take (i := 16) (v := .int .i64 ((b : Int) + (k : Int))) rfl (by kernel_rfl) (by kernel_rfl) (by kernel_rfl) (fun _ _ _ h => h) (Or.inl ⟨by rfl, ?_⟩) hHeld ?_
      · intro w' hSw; have a0 := hWB.out; go_simp
      simp only [Act.put, List.setIfInBounds_toArray, List.set_cons_zero, List.set_cons_succ, List.getElem_toArray, List.getElem_cons_succ, List.getElem_cons_zero]
      refine wpAnyH_take (i := 17) (v := .int .i64 (sz : Int)) rfl (by kernel_rfl) (by kernel_rfl) (by kernel_rfl) (fun _ _ _ h => h) (Or.inl ⟨by rfl, ?_⟩) hHeld ?_
      · intro w' hSw; go_simp
      simp only [Act.put, List.setIfInBounds_toArray, List.set_cons_zero, List.set_cons_succ, List.getElem_toArray, List.getElem_cons_succ, List.getElem_cons_zero]
      refine wpAnyH_take (i := 18) (v := .int .i64 (y : Int)) rfl (by kernel_rfl) (by kernel_rfl) (by kernel_rfl) (fun _ _ _ h => h) (Or.inl ⟨by rfl, ?_⟩) hHeld ?_
      · intro w' hSw; have a0 := hMB.out; have a2 := hMB2.out; have a1 := hs0.out; have a3 := hWB2.out; go_simp
      simp only [Act.put, List.setIfInBounds_toArray, List.set_cons_zero, List.set_cons_succ, List.getElem_toArray, List.getElem_cons_succ, List.getElem_cons_zero]
      refine wpAnyH_take (i := 19) (v := .agg #[.int .i64 (x : Int), .int .i64 (y : Int)]) rfl (by kernel_rfl) (by kernel_rfl) (by kernel_rfl) (fun _ _ _ h => h) (Or.inl ⟨by rfl, ?_⟩) hHeld ?_
      · intro w' hSw; go_simp
      simp only [Act.put, List.setIfInBounds_toArray, List.set_cons_zero, List.set_cons_succ, List.getElem_toArray, List.getElem_cons_succ, List.getElem_cons_zero]
      refine wpAnyH_ready (rs := [20]) (by kernel_rfl) (by simp) ?_
      refine AllReadyH.cons rfl (fun K hK => ?_) AllReadyH.nil
      have hal : Below w1.heap.size w1 (wr.drew.alloc (.cells #[.int .i64 (x : Int), .int .i64 (y : Int)] 58)) ∧ (wr.drew.alloc (.cells #[.int .i64 (x : Int), .int .i64 (y : Int)] 58)).cell? ⟨g, of + j * 2, none⟩ = some (.int .i64 (a : Int)) ∧ (wr.drew.alloc (.cells #[.int .i64 (x : Int), .int .i64 (y : Int)] 58)).cell? ⟨g, of + j * 2 + 1, none⟩ = some (.int .i64 (b : Int)) := ⟨hHeld.1.alloc hHeld.1.size _, ((below_alloc1 _ _).cell (p := ⟨g, of + j * 2, none⟩) hg9).trans hHeld.2.1, ((below_alloc1 _ _).cell (p := ⟨g, of + j * 2 + 1, none⟩) hg9).trans hHeld.2.2⟩
      go_simp
      refine hK.out _ _ hal (fun hHeld => ?_)
      clear hK K hal
      simp only [List.setIfInBounds_toArray, List.set_cons_zero, List.set_cons_succ]
      refine wpAnyH_ready (rs := [21]) (by kernel_rfl) (by simp) ?_
      refine AllReadyH.cons rfl (fun K hK => ?_) AllReadyH.nil
      obtain ⟨i0, hi, hz0, hz1, hz2⟩ := info_parts info58
      have hoa := own_below (own_below ho'.out (Below.refl wr.heap.size wr).drew) (below_alloc1 wr.drew (.cells #[.int .i64 (x : Int), .int .i64 (y : Int)] 58))
      refine step_row Tryd.underlying22 hi hz0 hz1 hz2 rfl (by decide) (by decide) rfl (.tmp 38) (.tmp 58) rfl hoa rfl wr.drew.heap.size rfl [.int .i64 (x : Int), .int .i64 (y : Int)] rfl (fun j u hj => by show (wr.drew.alloc (.cells #[.int .i64 (x : Int), .int .i64 (y : Int)] 58)).cell? ⟨wr.drew.heap.size, j, none⟩ = _; rw [cells_new]; simpa using hj) (by intro u hu; simp at hu; rcases hu with rfl | rfl <;> rfl) (by omega) hHeld.1.size ?_
      intro v' w4 h1 h2
      refine hK.out _ _ ⟨hHeld.1.trans h2, (h2.cell (p := ⟨g, of + j * 2, none⟩) hg).trans hHeld.2.1, (h2.cell (p := ⟨g, of + j * 2 + 1, none⟩) hg).trans hHeld.2.2⟩ (fun hHeld => ?_)
      clear hK K
      simp only [List.setIfInBounds_toArray, List.set_cons_zero, List.set_cons_succ]
      refine wpAnyH_take (i := 22) (v := v') rfl (by kernel_rfl) (by kernel_rfl) (by kernel_rfl) (fun _ _ _ h => h) (Or.inl ⟨by rfl, ?_⟩) hHeld ?_
      · intro w' hSw; go_simp
      simp only [Act.put, List.setIfInBounds_toArray, List.set_cons_zero, List.set_cons_succ, List.getElem_toArray, List.getElem_cons_succ, List.getElem_cons_zero]
      refine wpAnyH_done (by kernel_rfl) ?_ _
      have hfin4 := Lib.hid hHeld.1
      have h1q := Lib.hid (show OwnP w4 w1.heap.size v' (toI (ML (j + 1)) ++ [((x : Int), (y : Int))]) from by
        unfold OwnP
        rw [List.length_append, hlenj.out, flat_app]
        exact h1)
      clear hHeld h1 h2 hoa
      refine NoPanic.normal ?_
      go_wp2_with fail
      have h1r := Lib.hid (show OwnP w4 w1.heap.size v' (toI (ML j)) from by rw [hsn'.out, toI_snoc]; exact h1q.out)
      have hvq := Lib.hid (show ∃ g cap, v' = .slice (some ⟨g, 0, none⟩) (N - j) cap from by
        rcases h1r.out.cases with ⟨_, e⟩ | ⟨g, cap, e⟩
        · have h3 := hml2.out j; rw [e] at h3; have h4 : (0 : Nat) = N - j := h3; omega
        · rw [hml2.out] at e; exact ⟨g, cap, e⟩)
      go_roundw
      case rel => exact ⟨j, by omega, by go_num, h1r, hvq, hfin4⟩
      case measure => simp [intOf]
    · obtain rfl : i = 0 := by omega
      have e1 : ((0 : Nat) : Int) - 1 = -1 := by decide
      rw [e1]
      have hP0 := Lib.hid (own_below ho1.out hb.out)
      have hl0 := Lib.hid (show (toI (ML 0)).length = N from by rw [hml2.out]; omega)
      rw [Nat.sub_zero] at hp ⊢
      have hpx := Lib.hid (show OwnP wr w1.heap.size (.slice (some ⟨gm, 0, none⟩) N cm) (toI (ML 0)) from hp.out)
      by_cases hN0 : 0 < N ∧ N < 40
      · obtain ⟨ao2, c2, e2, hcl⟩ := (OwnP.reads hpx.out).at
        simp only [Value.slice.injEq] at e2
        obtain ⟨rfl, -, rfl⟩ := e2
        obtain ⟨g, of, e3, hg, hcl2⟩ := hcl (fun e => by have h3 := hl0.out; rw [e] at h3; have h4 : (0 : Nat) = N := h3; omega)
        obtain ⟨rfl, rfl⟩ : gm = g ∧ 0 = of := by injection e3 with e4; injection e4 with e5 e6; exact ⟨e5, e6⟩
        obtain ⟨d1, d2⟩ := hcl2 0 (by rw [hl0.out]; omega)
        rw [hg0.out hN0.1] at d1 d2
        have hMA := hfin.out hN0
        generalize (ML 0).getD 0 (0, 0) = ab at d1 d2 hMA
        obtain ⟨a, b⟩ := ab
        have hMA' := Lib.hid hMA
        simp only [Nat.zero_mul, Nat.add_zero] at d1 d2
        have t1 : (N : Int) > 0 := by omega
        have t2 : (N : Int) < 40 := by omega
        clear hcl hcl2 e3 hMA hfin hfin2
        go_upto_region 10 with (at_builtin; refine app_pair hpx.out (by rw [hl0.out]; omega) hb.out.size rfl _ _ rfl rfl rfl ?_; intro v' w4 h1 h2; have hM4 := Lib.hid (show OwnP w4 w.heap.size v' (toI MA) from by rw [hMA'.out, toI_snoc]; exact own_base h1 hb1.out.size); have hb4 := Lib.hid (below_call hb1.out (hb.out.trans h2)); have hL4 := Lib.hid (own_below ho1.out (hb.out.trans h2)); clear h1 h2)
        go_wp2_with (first
          | (go_at_call 25; refine (h25.out _ _ hb4.out hL4.out).mono ?_; rintro e w5 ⟨v5, rfl, hz, hb⟩; have hp5 := Lib.hid hz.shape; have hb5 := Lib.hid (below_call hb4.out hb); have hL5 := Lib.hid (own_below hL4.out hb); have hM5 := Lib.hid (own_below hM4.out hb); clear hz hb h25)
          | (go_at_call 25; refine (h25b.out _ _ hb5.out hM5.out).mono ?_; rintro e w6 ⟨v6, rfl, hz, hb⟩; have hq6 := Lib.hid hz.shape; have hp6 := Lib.hid (hp5.out.below hb); have hb6 := Lib.hid (below_call hb5.out hb); have hL6 := Lib.hid (own_below hL5.out hb); have hM6 := Lib.hid (own_below hM5.out hb); clear hz hb h25b)
          | (go_at_call 27; refine (h27.out _ _ hb6.out hL6.out).mono ?_; rintro e w7 ⟨v7, rfl, hz, hb⟩; have hc7 := Lib.hid hz.shape; have hp7 := Lib.hid (hp6.out.below hb); have hq7 := Lib.hid (hq6.out.below hb); have hb7 := Lib.hid (below_call hb6.out hb); have hM7 := Lib.hid (own_below hM6.out hb); clear hz hb h27)
          | (go_at_call 27; refine (h27b.out _ _ hb7.out hM7.out).mono ?_; rintro e w8 ⟨v8, rfl, hz, hb⟩; have hd8 := Lib.hid hz.shape; have hc8 := Lib.hid (hc7.out.below hb); have hp8 := Lib.hid (hp7.out.below hb); have hq8 := Lib.hid (hq7.out.below hb); have hb8 := Lib.hid (below_call hb7.out hb); clear hz hb h27b)
          | (go_at_call 46; refine (h46.out _ _ hp8.out).mono ?_; rintro e w9 ⟨v9, rfl, hz, hb⟩; have he9 := Lib.hid hz.shape; have hd9 := Lib.hid (hd8.out.below hb); have hc9 := Lib.hid (hc8.out.below hb); have hq9 := Lib.hid (hq8.out.below hb); have hb9 := Lib.hid (below_call hb8.out hb); clear hz hb h46)
          | (go_at_call 29; refine (h29.out _ _ _ P2 hl1.out he9.out hq9.out).mono ?_; rintro e wA ⟨rfl, hb⟩; have hdA := Lib.hid (hd9.out.below hb); have hcA := Lib.hid (hc9.out.below hb); have hbA2 := Lib.hid (below_call hb9.out hb); clear hb he9)
          | (go_at_call 46; refine (h46b.out _ _ hcA.out).mono ?_; rintro e wB ⟨vB, rfl, hz, hb⟩; have heB := Lib.hid hz.shape; have hdB := Lib.hid (hdA.out.below hb); have hbB := Lib.hid (below_call hbA2.out hb); clear hz hb h46b)
          | (go_at_call 29; refine (h29.out _ _ _ C2 hl2.out heB.out hdB.out).mono ?_; rintro e wC ⟨rfl, hb⟩; have hbC := Lib.hid (below_call hbB.out hb); clear hb heB)
          | (go_at_call 20; refine (hli.out _ hbC.out).mono ?_; rintro e wD ⟨rfl, hb⟩; have hb10 := Lib.hid (below_call hbC.out hb); clear hb))
        go_ret
        exact ⟨rfl, hb10.out⟩
      · have hMA := hfin2.out hN0
        have hM4 := Lib.hid (show OwnP wr w.heap.size (.slice (some ⟨gm, 0, none⟩) N cm) (toI MA) from by rw [hMA]; exact own_base hpx.out hb1.out.size)
        have hL4 := hP0
        clear hMA hfin hfin2
        rcases (show (¬ (N : Int) > 0) ∨ ((N : Int) > 0 ∧ ¬ (N : Int) < 40) by omega) with t1 | ⟨t1, t2⟩
        all_goals

          go_wp2_with (first
            | (go_at_call 25; refine (h25.out _ _ hbW.out hL4.out).mono ?_; rintro e w5 ⟨v5, rfl, hz, hb⟩; have hp5 := Lib.hid hz.shape; have hb5 := Lib.hid (below_call hbW.out hb); have hL5 := Lib.hid (own_below hL4.out hb); have hM5 := Lib.hid (own_below hM4.out hb); clear hz hb h25)
            | (go_at_call 25; refine (h25b.out _ _ hb5.out hM5.out).mono ?_; rintro e w6 ⟨v6, rfl, hz, hb⟩; have hq6 := Lib.hid hz.shape; have hp6 := Lib.hid (hp5.out.below hb); have hb6 := Lib.hid (below_call hb5.out hb); have hL6 := Lib.hid (own_below hL5.out hb); have hM6 := Lib.hid (own_below hM5.out hb); clear hz hb h25b)
            | (go_at_call 27; refine (h27.out _ _ hb6.out hL6.out).mono ?_; rintro e w7 ⟨v7, rfl, hz, hb⟩; have hc7 := Lib.hid hz.shape; have hp7 := Lib.hid (hp6.out.below hb); have hq7 := Lib.hid (hq6.out.below hb); have hb7 := Lib.hid (below_call hb6.out hb); have hM7 := Lib.hid (own_below hM6.out hb); clear hz hb h27)
            | (go_at_call 27; refine (h27b.out _ _ hb7.out hM7.out).mono ?_; rintro e w8 ⟨v8, rfl, hz, hb⟩; have hd8 := Lib.hid hz.shape; have hc8 := Lib.hid (hc7.out.below hb); have hp8 := Lib.hid (hp7.out.below hb); have hq8 := Lib.hid (hq7.out.below hb); have hb8 := Lib.hid (below_call hb7.out hb); clear hz hb h27b)
            | (go_at_call 46; refine (h46.out _ _ hp8.out).mono ?_; rintro e w9 ⟨v9, rfl, hz, hb⟩; have he9 := Lib.hid hz.shape; have hd9 := Lib.hid (hd8.out.below hb); have hc9 := Lib.hid (hc8.out.below hb); have hq9 := Lib.hid (hq8.out.below hb); have hb9 := Lib.hid (below_call hb8.out hb); clear hz hb h46)
            | (go_at_call 29; refine (h29.out _ _ _ P2 hl1.out he9.out hq9.out).mono ?_; rintro e wA ⟨rfl, hb⟩; have hdA := Lib.hid (hd9.out.below hb); have hcA := Lib.hid (hc9.out.below hb); have hbA2 := Lib.hid (below_call hb9.out hb); clear hb he9)
            | (go_at_call 46; refine (h46b.out _ _ hcA.out).mono ?_; rintro e wB ⟨vB, rfl, hz, hb⟩; have heB := Lib.hid hz.shape; have hdB := Lib.hid (hdA.out.below hb); have hbB := Lib.hid (below_call hbA2.out hb); clear hz hb h46b)
            | (go_at_call 29; refine (h29.out _ _ _ C2 hl2.out heB.out hdB.out).mono ?_; rintro e wC ⟨rfl, hb⟩; have hbC := Lib.hid (below_call hbB.out hb); clear hb heB)
            | (go_at_call 20; refine (hli.out _ hbC.out).mono ?_; rintro e wD ⟨rfl, hb⟩; have hb10 := Lib.hid (below_call hbC.out hb); clear hb))
          go_ret
          exact ⟨rfl, hb10.out⟩
  
end Go.Proofs.YtpcjigdmfchbdaaDoor
