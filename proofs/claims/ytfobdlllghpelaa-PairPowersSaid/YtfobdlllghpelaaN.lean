import Derived.Test.YtfobdlllghpelaaM
namespace Go.Proofs.Ytfobdlllghpelaa
open Go.RowKit Go.Shelf Pair

/-- Costs that are read. -/
structure Cst (w : World) (v : Value) (cs : List (List Int)) : Prop where
  reads : ReadsG w v cs
  len : cs.length ≤ 1000000
  row : ∀ j, j < cs.length → (cs.getD j []).length ≤ 1000000
theorem Cst.below {w w' : World} {v : Value} {cs : List (List Int)} (h : Cst w v cs) (hb : Below w.heap.size w w') : Cst w' v cs := ⟨h.reads.below hb, h.len, h.row⟩
theorem valid48' {w : World} {v : Value} {cs : List (List Int)} (h : Cst w v cs) : Calls Try.prog 48 #[v] w fun e w' => e = .returned (.bool (validC cs)) ∧ w = w' := valid48 h.reads h.len h.row

theorem rowsOk_at {n : Nat} : ∀ {l : List (List Int)}, rowsOk n l = true → ∀ i, i < l.length → (l.getD i []).length = n ∧ entOk (l.getD i []) = true := by
  intro l h i hi
  unfold rowsOk at h
  rw [List.all_eq_true] at h
  have := h (l.getD i []) (by rw [List.getD_eq_getElem?_getD, List.getElem?_eq_getElem hi]; exact List.getElem_mem hi)
  simpa using this
theorem entOk_at {l : List Int} (h : entOk l = true) (j : Nat) (hj : j < l.length) : 0 ≤ l.getD j 0 ∧ l.getD j 0 ≤ 1000 := by
  unfold entOk at h
  rw [List.all_eq_true] at h
  have := h (l.getD j 0) (by rw [List.getD_eq_getElem?_getD, List.getElem?_eq_getElem hj]; exact List.getElem_mem hj)
  simpa using this
/-- What is known of valid costs. -/
structure Good (cs : List (List Int)) (n : Nat) : Prop where
  len : cs.length = n
  one : 1 ≤ n
  eight : n ≤ 8
  row : ∀ i, i < n → (cs.getD i []).length = n
  bd : ∀ i j, i < n → j < n → 0 ≤ costAt cs i j ∧ costAt cs i j ≤ 1000
theorem good_of {cs : List (List Int)} (h : validC cs = true) : Good cs cs.length := by
  unfold validC at h
  simp only [Bool.and_eq_true, decide_eq_true_eq] at h
  obtain ⟨⟨h1, h2⟩, h3⟩ := h
  refine ⟨rfl, h1, h2, fun i hi => (rowsOk_at h3 i hi).1, fun i j hi hj => ?_⟩
  obtain ⟨a, b⟩ := rowsOk_at h3 i hi
  exact entOk_at b j (by omega)
theorem Cst.sq {w : World} {v : Value} {cs : List (List Int)} {n : Nat} (h : Cst w v cs) (hg : Good cs n) : Sq w v cs n := ⟨h.reads, hg.len, hg.row⟩

set_option maxRecDepth 100000 in
theorem worst19_bad {w : World} {v : Value} {cs : List (List Int)} (h : Cst w v cs) (hb : validC cs = false) :
    Calls Try.prog 19 #[v] w fun e w' => e = .returned (.tuple #[.slice none 0 0, .int .i64 0, .int .i64 1]) ∧ w = w' := by
  have hv := Lib.hid (valid48' h)
  rw [hb] at hv
  clear h
  go_enter Try.func19, Try.ntmps19
  go_wp2_with fail
  refine (hv.out).mono ?_
  rintro e w1 ⟨rfl, rfl⟩
  go_wp2_with fail
  go_ret3
  exact ⟨rfl, rfl⟩
set_option maxRecDepth 100000 in
theorem count40_bad {w : World} {v : Value} {cs : List (List Int)} (h : Cst w v cs) (hb : validC cs = false) (lim : Int) :
    Calls Try.prog 40 #[v, .int .i64 lim] w fun e w' => e = .returned (.tuple #[.int .i64 0, .int .i64 1]) ∧ w = w' := by
  have hv := Lib.hid (valid48' h)
  rw [hb] at hv
  clear h
  go_enter Try.func40, Try.ntmps40
  go_wp2_with fail
  refine (hv.out).mono ?_
  rintro e w1 ⟨rfl, rfl⟩
  go_wp2_with fail
  go_ret2
  exact ⟨rfl, rfl⟩
set_option maxRecDepth 100000 in
theorem at41_bad {w : World} {v : Value} {cs : List (List Int)} (h : Cst w v cs) (hb : validC cs = false) (lim r : Int) :
    Calls Try.prog 41 #[v, .int .i64 lim, .int .i64 r] w fun e w' => e = .returned (.tuple #[.slice none 0 0, .int .i64 1]) ∧ w = w' := by
  have hv := Lib.hid (valid48' h)
  rw [hb] at hv
  clear h
  go_enter Try.func41, Try.ntmps41
  go_wp2_with fail
  refine (hv.out).mono ?_
  rintro e w1 ⟨rfl, rfl⟩
  go_wp2_with fail
  go_ret2
  exact ⟨rfl, rfl⟩

/-- The worst of a pairing is least. -/
def WorstIs (cs : List (List Int)) (n : Nat) (w : World) (e : Ending) (w' : World) : Prop :=
  ∃ (m : Nat) (pv : Value), e = .returned (.tuple #[pv, .int .i64 (m : Int), .int .i64 0]) ∧ Least (fun m => decide (0 < waysM cs 0 m n)) 1000 m ∧ Found w' w.heap.size n ((sufs (okM cs 0 m) n n (2 ^ n - 1))[0]?) (.returned pv) ∧ Below w.heap.size w w'
set_option maxRecDepth 100000 in
theorem worst19 {w : World} {v : Value} {cs : List (List Int)} {n : Nat} (h : Cst w v cs) (hb : validC cs = true) (hg : Good cs n) : Calls Try.prog 19 #[v] w (WorstIs cs n w) := by
  have hv := Lib.hid (valid48' h)
  rw [hb] at hv
  have ha := Lib.hid (above49 (h.sq hg) hg.one hg.eight 0)
  clear h hg
  go_enter Try.func19, Try.ntmps19
  go_wp2_with fail
  refine (hv.out).mono ?_
  rintro e w1 ⟨rfl, rfl⟩
  go_wp2_with fail
  refine (ha.out).mono ?_
  rintro e w2 ⟨m, pv, rfl, hm, hf, hb2⟩
  have hm' := Lib.hid hm
  have hf' := Lib.hid hf
  have hb2' := Lib.hid hb2
  clear hm hf hb2
  go_wp2_with fail
  go_ret3
  exact ⟨m, pv, rfl, hm'.out, hf'.out, hb2'.out⟩
set_option maxRecDepth 100000 in
theorem count40 {w : World} {v : Value} {cs : List (List Int)} {n : Nat} (h : Cst w v cs) (hb : validC cs = true) (hg : Good cs n) (lim : Int) :
    Calls Try.prog 40 #[v, .int .i64 lim] w fun e w' => e = .returned (.tuple #[.int .i64 (waysM cs 0 lim n), .int .i64 0]) ∧ Below w.heap.size w w' := by
  have hv := Lib.hid (valid48' h)
  rw [hb] at hv
  obtain ⟨N, hN⟩ : ∃ N, N = 2 ^ n := ⟨_, rfl⟩
  have hnl := Lib.hid (newListing70' (h.sq hg) hg.one hg.eight hN 0 lim)
  have hN2 : 1 ≤ N := by rw [hN]; exact Nat.one_le_two_pow
  have hN3 : N ≤ 256 := by rw [hN]; exact pow_le n hg.eight
  have hct := Lib.hid (show (cwT (okM cs 0 lim) n N).getD (N - 1) 0 = ((waysM cs 0 lim n : Nat) : Int) by rw [hN]; exact cwT_last _ hg.eight)
  clear hN h hg
  obtain ⟨Y, hY⟩ : ∃ Y, Y = waysM cs 0 lim n := ⟨_, rfl⟩
  rw [← hY] at hct ⊢
  clear hY
  go_enter Try.func40, Try.ntmps40
  go_wp2_with fail
  refine (hv.out).mono ?_
  rintro e w1 ⟨rfl, rfl⟩
  go_wp2_with fail
  refine (hnl.out).mono ?_
  rintro e w1 ⟨gA, gC, rfl, hA, hC, hb1⟩
  have hct2 := Lib.hid (count71 (gA := gA) (n := n) hC hN2 (by omega))
  rw [hct.out] at hct2
  have hb1' := Lib.hid hb1
  clear hA hC hb1
  go_wp2_with fail
  refine (hct2.out).mono ?_
  rintro e w2 ⟨rfl, hb2⟩
  go_wp2_with fail
  go_ret2
  exact ⟨rfl, below_call hb1'.out hb2⟩

theorem nil_eq (W : World) (a : Option Addr) (n c : Nat) : (binOp .eql 24 (.slice a n c) (.slice none 0 0)).run Try.prog W = .ok (.bool a.isNone) W := Lib.run_eql_slice_nil W 24 3 a n c 0 0 Try.underlying24
/-- The pairing with a number, if there is one. -/
def atM (cs : List (List Int)) (lim : Int) (n : Nat) (r : Int) : Option (List Nat) := if r < 0 then none else (sufs (okM cs 0 lim) n n (2 ^ n - 1))[r.toNat]?
def AtRes (w w' : World) (n : Nat) (o : Option (List Nat)) (e : Ending) : Prop :=
  match o with
  | none => e = .returned (.tuple #[.slice none 0 0, .int .i64 5])
  | some l => ∃ g, e = .returned (.tuple #[.slice (some ⟨g, 0, none⟩) n n, .int .i64 0]) ∧ Row w' w.heap.size g n (natI l)
def AtEnd (w : World) (n : Nat) (o : Option (List Nat)) (e : Ending) (w' : World) : Prop := AtRes w w' n o e ∧ Below w.heap.size w w'
theorem at72_any {w : World} {BA BC gA gC n N : Nat} {cs : List (List Int)} {lim : Int} (hA : SRow w BA gA n (alwL cs 0 lim n)) (hC : Row w BC gC N (cwT (okM cs 0 lim) n N)) (hN : N = 2 ^ n) (hn1 : 1 ≤ n) (hn8 : n ≤ 8) (r : Int) (hr : r < 9223372036854775808) :
    Calls Try.prog 72 #[.agg #[.slice (some ⟨gA, 0, none⟩) n n, .slice (some ⟨gC, 0, none⟩) N N], .int .i64 r] w (AtDone w n (atM cs lim n r)) := by
  unfold atM
  by_cases h : r < 0
  · rw [if_pos h]; exact at72_neg r h
  · rw [if_neg h]
    have := at72 hA hC hN hn1 hn8 r.toNat (by omega)
    rw [show ((r.toNat : Nat) : Int) = r by omega] at this
    exact this
set_option maxHeartbeats 1000000 in
set_option maxRecDepth 100000 in
theorem at41 {w : World} {v : Value} {cs : List (List Int)} {n : Nat} (h : Cst w v cs) (hb : validC cs = true) (hg : Good cs n) (lim r : Int) (hr : r < 9223372036854775808) :
    Calls Try.prog 41 #[v, .int .i64 lim, .int .i64 r] w (AtEnd w n (atM cs lim n r)) := by
  have hv := Lib.hid (valid48' h)
  rw [hb] at hv
  obtain ⟨N, hN⟩ : ∃ N, N = 2 ^ n := ⟨_, rfl⟩
  have hnl := Lib.hid (newListing70' (h.sq hg) hg.one hg.eight hN 0 lim)
  have hg' := Lib.hid hg
  have hN' := Lib.hid hN
  have hat := Lib.hid (fun (w : World) (gA gC : Nat) (BA BC : Nat) (hA : SRow w BA gA n (alwL cs 0 lim n)) (hC : Row w BC gC N (cwT (okM cs 0 lim) n N)) => at72_any hA hC hN hg.one hg.eight r hr)
  clear hN h hg
  obtain ⟨o, ho⟩ : ∃ o, o = atM cs lim n r := ⟨_, rfl⟩
  rw [← ho] at hat ⊢
  clear ho
  have hnil := nil_eq
  cases o with
  | none =>
    go_enter Try.func41, Try.ntmps41
    go_wp2_with fail
    refine (hv.out).mono ?_
    rintro e w1 ⟨rfl, rfl⟩
    go_wp2_with fail
    refine (hnl.out).mono ?_
    rintro e w1 ⟨gA, gC, rfl, hA, hC, hb1⟩
    have hat2 := Lib.hid (hat.out w1 gA gC _ _ hA hC)
    have hb1' := Lib.hid hb1
    clear hA hC hb1 hat
    go_wp2_with fail
    refine (hat2.out).mono ?_
    rintro e w2 ⟨rfl, hb2⟩
    have hb2' := Lib.hid hb2
    clear hb2
    go_wp2_with fail
    go_ret2
    exact ⟨rfl, below_call hb1'.out hb2'.out⟩
  | some l =>
    go_enter Try.func41, Try.ntmps41
    go_wp2_with fail
    refine (hv.out).mono ?_
    rintro e w1 ⟨rfl, rfl⟩
    go_wp2_with fail
    refine (hnl.out).mono ?_
    rintro e w1 ⟨gA, gC, rfl, hA, hC, hb1⟩
    have hat2 := Lib.hid (hat.out w1 gA gC _ _ hA hC)
    have hb1' := Lib.hid hb1
    clear hA hC hb1 hat
    go_wp2_with fail
    refine (hat2.out).mono ?_
    rintro e w2 ⟨⟨g, rfl, hrow⟩, hb2⟩
    have hb2' := Lib.hid hb2
    have hrow' := Lib.hid hrow
    clear hb2 hrow
    go_wp2_with fail
    go_ret2
    exact ⟨⟨g, rfl, hrow'.out.base hb1'.out.size⟩, below_call hb1'.out hb2'.out⟩
end Go.Proofs.Ytfobdlllghpelaa
