import Derived.Test.YtbcoaiaocfommaaF
import Derived.Laws.AppendOwnNone
import Derived.Shelf.Small.Bits
import Derived.Laws.StructEq
namespace Go.Proofs.Ytbcoaiaocfommaa
open Go.RowKit

/-- append(s, t...) of runs. -/
theorem app_runs {ops : Array Oper} {rest : List Oper} {o : Oper} {a : Act} {Q : Exit → Act → World → Prop} {w : World} {B B' : Nat} {v u : Value} {xs ys : List RunT}
    (hown : Runs3 w B v xs) (hsrc : Runs3 w B' u ys) (hlen : xs.length + ys.length ≤ 1000000000) (hB : B ≤ w.heap.size) (hgd : o.guard = none) (s x : Operand)
    (ho : o.op = .call { callee := .builtin .append, args := #[s, x], argTypes := #[39, 39] }) (hs : a.eval s = v) (hx : a.eval x = u)
    (h : ∀ v' w', Runs3 w' B v' (xs ++ ys) → Below B w w' → wpList Try.prog ops Q rest (a.put o.dst v') w') : wpList Try.prog ops Q (o :: rest) a w := by
  obtain ⟨i0, hi, hz0, hz1, hz2⟩ := info_parts info62
  have hl := hsrc.1
  rcases hsrc.2 with ⟨hu, h0⟩ | ⟨g, cap, cur, hu, _, hg, h1, h2, h3, h4⟩
  · have : ys = [] := List.length_eq_zero_iff.1 h0
    subst this
    refine wpList_append_own_none hgd s x 39 ho B 62 i0 3 Try.underlying39 hi v xs.length (rcells xs) hs hown (hx.trans hu) ?_
    exact h v w (by simpa using hown) (Below.refl _ _)
  · have hcells := World.ownsRow.cells hsrc (g := g) (by rw [hu]; rfl)
    refine wpList_append_own _ hgd s x 39 ho B 62 i0 (.agg #[.int .i64 0, .int .i64 0, .int .i64 0]) 3 24 Try.underlying39 hi hz0 hz1 hz2 rfl (by decide) v xs.length (rcells xs) hs hown ⟨g, 0, none⟩ ys.length cap (rcells ys) (hx.trans hu) hl hcells ?_ ?_ ?_ hB ?_
    · intro u hu
      unfold rcells at hu
      rw [List.mem_flatMap] at hu
      obtain ⟨r, _, hu⟩ := hu
      simp at hu; rcases hu with rfl | rfl | rfl <;> rfl
    · unfold maxLen; omega
    · omega
    · intro v' w' h2 h3 _
      refine h v' w' ?_ ?_
      · unfold Runs3; rw [rcells_append, List.length_append]; exact h2
      · exact (Below.refl B w).grown h3 hB (fun k hk => (World.ownsRow.lt hown k hk).1)

def runsCat (l : List UInt8) : Nat → List RunT
  | 0 => []
  | k + 1 => runsCat l k ++ runsL l (k + 1) (l.length + 1) 0

theorem runsL_len (l : List UInt8) (p : Nat) : ∀ f a, (runsL l p f a).length ≤ f := by
  intro f
  induction f with
  | zero => intro a; simp [runsL]
  | succ f ih =>
    intro a
    unfold runsL
    split
    · rw [List.length_append]
      have := ih (extTo l p (a + p) - p + 1)
      split
      · rw [List.length_singleton]; omega
      · simp; omega
    · simp
theorem runsCat_len (l : List UInt8) (k : Nat) : (runsCat l k).length ≤ k * (l.length + 1) := by
  induction k with
  | zero => simp [runsCat]
  | succ k ih =>
    have := runsL_len l (k + 1) (l.length + 1) 0
    rw [runsCat, List.length_append, Nat.succ_mul]
    omega

theorem len8_1 : Lib.len8 1 = 1 := by kernel_rfl
theorem len76_one (w : World) : Calls Try.prog 76 #[.int .u64 1] w fun e w' => e = .returned (.int .i64 1) ∧ w = w' := by
  go_enter Try.func76, Try.ntmps76
  go_wp2
  go_ret
  exact ⟨by simp [len8_1, wrap64], rfl⟩

theorem ins82_one (fv : Value) (a : Option Addr) (c : Nat) (w : World) :
    Calls Try.prog 82 #[.slice a 1 c, .int .i64 0, .int .i64 1, fv] w fun e w' => e = .returned (.tuple #[]) ∧ w = w' := by
  go_enter Try.func82, Try.ntmps82
  go_wp2
  refine wp_loop_rounds 1 ?_
  rw [rounds_succ]
  go_wp2
  go_end0
  exact ⟨rfl, rfl⟩

theorem pdq75_one (fv : Value) (a : Option Addr) (c : Nat) (w : World) :
    Calls Try.prog 75 #[.slice a 1 c, .int .i64 0, .int .i64 1, .int .i64 1, fv] w fun e w' => e = .returned (.tuple #[]) ∧ w = w' := by
  go_enter Try.func75, Try.ntmps75
  go_wp2_with fail
  refine wp_loop_rounds 1 ?_
  rw [rounds_succ]
  go_wp2_with (first | (go_at_call 82; refine (ins82_one _ _ _ _).mono ?_; rintro e w1 ⟨rfl, rfl⟩))
  exact bodyPost_ret (results_none rfl _ _ _) rfl ⟨rfl, rfl⟩

/-- The sort, at a row of one run. -/
theorem sort63_one (fv : Value) (a : Option Addr) (c : Nat) (w : World) :
    Calls Try.prog 63 #[.slice a 1 c, fv] w fun e w' => e = .returned (.tuple #[]) ∧ w = w' := by
  go_enter Try.func63, Try.ntmps63
  go_wp2_with (first | (go_at_call 76; refine (len76_one _).mono ?_; rintro e w1 ⟨rfl, rfl⟩) | (go_at_call 75; refine (pdq75_one _ _ _ _).mono ?_; rintro e w1 ⟨rfl, rfl⟩))
  go_end0
  exact ⟨rfl, rfl⟩

def MadeRunsE (w : World) (xs : List RunT) (err : Int) (e : Ending) (w' : World) : Prop := ∃ v, e = .returned (.tuple #[v, .int .i64 err]) ∧ Runs3 w' w.heap.size v xs ∧ Below w.heap.size w w'

theorem Runs3.slice {w : World} {B : Nat} {v : Value} {xs : List RunT} (h : Runs3 w B v xs) : ∃ a c, v = .slice a xs.length c := by
  rcases h.2 with ⟨rfl, h0⟩ | ⟨g, cap, cur, rfl, _⟩
  · exact ⟨none, 0, by rw [h0]⟩
  · exact ⟨_, cap, rfl⟩

set_option maxHeartbeats 1000000 in
set_option maxRecDepth 100000 in
theorem runs35_one (s : ByteArray) (w : World) (hc : chk s = 0) (hone : (runsCat s.data.toList (s.size / 2)).length = 1) :
    Calls Try.prog 35 #[.string s] w (MadeRunsE w (runsCat s.data.toList (s.size / 2)) 0) := by
  obtain ⟨h1, h2, hg⟩ := chk_size hc
  have hs : s.size ≤ 1000000 := by omega
  have hc1 : (chk s != 0) = false := by simpa using hc
  have hm : s.size ≤ maxLen := by unfold maxLen; omega
  have hone' := Lib.hid hone
  clear hg hc hone
  go_enter Try.func35, Try.ntmps35
  go_wp2_with (first | (go_at_call 55; refine (check55 _ _ hm).mono ?_; rintro e w1 ⟨rfl, rfl⟩))
  go_loopw [5, 6] (fun v i wr => ∃ k : Nat, k ≤ s.size / 2 ∧ i = .int .i64 ((k : Int) + 1) ∧ Runs3 wr w.heap.size v (runsCat s.data.toList k) ∧ Below w.heap.size w wr) (fun _ i _ => s.size + 1 - (intOf i).toNat)
  case atStart => exact ⟨0, Nat.zero_le _, rfl, Runs3.nil _ _, Below.refl _ _⟩
  case round =>
    obtain ⟨k, hk, rfl, hown, hb⟩ := hrel
    by_cases hlt : 2 * ((k : Int) + 1) ≤ s.size
    · have hlen := runsCat_len s.data.toList k
      have hlen2 := runsL_len s.data.toList (k + 1) (s.size + 1) 0
      rw [size_len] at hlen
      have hmul : k * (s.size + 1) ≤ 100 * 201 := Nat.mul_le_mul (by omega) (by omega)
      have hlen' := Lib.hid (show (runsCat s.data.toList k).length + (runsL s.data.toList (k + 1) (s.size + 1) 0).length ≤ 1000000000 by omega)
      clear hlen hlen2 hmul
      have hsz := hb.size
      go_wp2_with (first | (go_at_call 62; refine (runsOf62 _ (k + 1) _ hs (by omega) (by omega)).mono ?_; rintro e w1 ⟨u, rfl, hu, hb1⟩) | (at_builtin; refine app_runs (hown.below hb1) hu hlen'.out (by have := hb1.size; omega) rfl _ _ rfl rfl rfl ?_; intro v' w2 hown2 hb2))
      go_roundw
      case rel => exact ⟨k + 1, by omega, by go_num, by rw [runsCat, size_len]; exact hown2, (below_seq hb hb1 (Nat.le_refl _)).trans hb2⟩
      case measure => simp [intOf]; omega
    · have hkl : s.size / 2 = k := by omega
      have hkl := Lib.hid hkl
      rw [hkl.out] at hone'
      obtain ⟨ao, c, rfl⟩ := hown.slice
      rw [hone'.out] at *
      go_wp2_with (first | (go_at_call 63; refine (sort63_one _ _ _ _).mono ?_; rintro e w1 ⟨rfl, rfl⟩))
      go_ret2
      exact ⟨_, rfl, by rw [hkl.out]; exact hown, hb⟩

/-! ## SameRuns -/
def sameR (a b : List RunT) : Bool := a == b
theorem sameR_len {a b : List RunT} (h : a.length ≠ b.length) : false = sameR a b := by
  unfold sameR; symm; rw [beq_eq_false_iff_ne]; intro e; exact h (by rw [e])
theorem sameR_at {a b : List RunT} (k : Nat) (h : (a.getD k (0, 0, 0)) ≠ b.getD k (0, 0, 0)) : false = sameR a b := by
  unfold sameR; symm; rw [beq_eq_false_iff_ne]; intro e; exact h (by rw [e])
theorem sameR_all {a b : List RunT} (h : a.length = b.length) (k : Nat) (hk : a.length ≤ k) (hj : ∀ j, j < k → a.getD j (0, 0, 0) = b.getD j (0, 0, 0)) : true = sameR a b := by
  unfold sameR; symm; rw [beq_iff_eq]
  refine List.ext_getElem h fun i h1 h2 => ?_
  have := hj i (by omega)
  simpa [List.getD_eq_getElem?_getD, h1, h2] using this

theorem rcells_get (rs : List RunT) : ∀ j, j < rs.length → (rcells rs)[j * 3]? = some (.int .i64 (rs.getD j (0, 0, 0)).1) ∧ (rcells rs)[j * 3 + 1]? = some (.int .i64 (rs.getD j (0, 0, 0)).2.1) ∧ (rcells rs)[j * 3 + 2]? = some (.int .i64 (rs.getD j (0, 0, 0)).2.2) := by
  induction rs with
  | nil => intro j h; simp at h
  | cons r rs ih =>
    intro j h
    have e : rcells (r :: rs) = [.int .i64 (r.1 : Int), .int .i64 (r.2.1 : Int), .int .i64 (r.2.2 : Int)] ++ rcells rs := by unfold rcells; rw [List.flatMap_cons]
    rw [e]
    cases j with
    | zero => exact ⟨rfl, rfl, rfl⟩
    | succ j =>
      have := ih j (by simpa using h)
      rw [show (j + 1) * 3 = j * 3 + 3 from by omega]
      simp only [List.cons_append, List.nil_append, List.getElem?_cons_succ, List.getD_cons_succ]
      exact this

/-- `v` reads as the runs `xs`. -/
def ReadsR (w : World) (v : Value) (xs : List RunT) : Prop := ∃ ao c, v = .slice ao xs.length c ∧ (xs ≠ [] → ∃ g, ao = some ⟨g, 0, none⟩ ∧ g < w.heap.size ∧ (∀ j, w.frozen? ⟨g, j, none⟩ = false) ∧ ∀ j, j < xs.length → w.cell? ⟨g, j * 3, none⟩ = some (.int .i64 (xs.getD j (0, 0, 0)).1) ∧ w.cell? ⟨g, j * 3 + 1, none⟩ = some (.int .i64 (xs.getD j (0, 0, 0)).2.1) ∧ w.cell? ⟨g, j * 3 + 2, none⟩ = some (.int .i64 (xs.getD j (0, 0, 0)).2.2))
theorem ReadsR.below {w w' : World} {v : Value} {xs : List RunT} (h : ReadsR w v xs) (hb : Below w.heap.size w w') : ReadsR w' v xs := by
  obtain ⟨ao, c, rfl, h⟩ := h
  refine ⟨ao, c, rfl, fun hne => ?_⟩
  obtain ⟨g, rfl, hg, hf, hc⟩ := h hne
  refine ⟨g, rfl, Nat.lt_of_lt_of_le hg hb.size, fun j => (hb.frozen (p := ⟨g, j, none⟩) hg).trans (hf j), fun j hj => ?_⟩
  rw [hb.cell (p := ⟨g, _, none⟩) hg, hb.cell (p := ⟨g, _, none⟩) hg, hb.cell (p := ⟨g, _, none⟩) hg]
  exact hc j hj
theorem Runs3.shape {w : World} {B : Nat} {v : Value} {xs : List RunT} (h : Runs3 w B v xs) : ReadsR w v xs := by
  have hh := h
  rcases h.2 with ⟨rfl, h0⟩ | ⟨g, cap, cur, rfl, hB, hg, _⟩
  · refine ⟨none, 0, by rw [h0], fun hne => absurd (List.length_eq_zero_iff.1 h0) hne⟩
  · refine ⟨_, cap, rfl, fun _ => ⟨g, rfl, (Array.getElem?_eq_some_iff.1 hg).1, fun j => hh.frozenAt j, fun j hj => ?_⟩⟩
    rw [hh.cellAt _ (by omega), hh.cellAt _ (by omega), hh.cellAt _ (by omega)]
    exact rcells_get xs j hj

theorem eq62 (a b c d e f : Int) (w : World) : (Op.equalIn 10000 62 (.agg #[.int .i64 a, .int .i64 b, .int .i64 c]) (.agg #[.int .i64 d, .int .i64 e, .int .i64 f])).run Try.prog w = .ok (a == d && b == e && c == f) w := by
  have u3 := Try.underlying3
  have a3 := Try.isAgg3
  have z3 := Try.sizeOf3
  have hS : Try.prog.underlying 62 = some (.struct (Try.prog.fieldsOf 62)) := by kernel_rfl
  have hp : Try.prog.stoodInHeld 62 = false := by kernel_rfl
  rw [show (10000 : Nat) = 9999 + 1 from rfl, run_equalIn_agg w 9999 62 _ _ hS hp]
  simp only [Program.fieldsOf, Try.underlying62]
  go_simp
  by_cases h1 : a = d <;> by_cases h2 : b = e <;> by_cases h3 : c = f <;> simp [h1, h2, h3]

set_option maxHeartbeats 1000000 in
set_option maxRecDepth 100000 in
theorem same36 {w : World} {u v : Value} {xs ys : List RunT} (hu : ReadsR w u xs) (hv : ReadsR w v ys) (hl : xs.length ≤ 1000000) :
    Calls Try.prog 36 #[u, v] w fun e w' => e = .returned (.bool (sameR xs ys)) ∧ Below w.heap.size w w' := by
  obtain ⟨ao, c, rfl, h1⟩ := hu
  obtain ⟨bo, d, rfl, h2⟩ := hv
  obtain ⟨n, hn⟩ : ∃ n, n = xs.length := ⟨_, rfl⟩
  obtain ⟨m, hm⟩ : ∃ n, n = ys.length := ⟨_, rfl⟩
  rw [← hn] at hl ⊢
  rw [← hm]
  by_cases hnm : n = m
  · by_cases h0 : n = 0
    · have hz : true = sameR xs ys := sameR_all (by omega) 0 (by omega) (fun j hj => by omega)
      have hz' := Lib.hid hz
      clear hz h1 h2 hn
      subst hnm
      subst h0
      clear hm
      go_enter Try.func36, Try.ntmps36
      go_wp2
      refine wp_loop_rounds 1 ?_
      rw [rounds_succ]
      go_wp2
      go_ret
      exact ⟨ret_b hz'.out, Below.refl _ _⟩
    · obtain ⟨g, rfl, hg, _, hc1⟩ := h1 (fun e => by simp [e] at hn; omega)
      obtain ⟨f, rfl, hf, _, hc2⟩ := h2 (fun e => by simp [e] at hm; omega)
      clear h1 h2
      subst hnm
      have hn' := Lib.hid hn
      have hm' := Lib.hid hm
      rw [← hn] at hc1
      rw [← hm] at hc2
      have hc1' := Lib.hid hc1
      have hc2' := Lib.hid hc2
      clear hn hm hc1 hc2
      go_enter Try.func36, Try.ntmps36
      go_wp2
      go_loopw [5] (fun i wr => ∃ k : Nat, k ≤ n ∧ i = .int .i64 k ∧ Hid (∀ j, j < k → xs.getD j (0, 0, 0) = ys.getD j (0, 0, 0)) ∧ Below w.heap.size w wr) (fun i _ => n - (intOf i).toNat)
      case atStart => exact ⟨0, Nat.zero_le _, rfl, Lib.hid (fun j hj => by omega), Below.refl _ _⟩
      case round =>
        obtain ⟨k, hk, rfl, hj, hb⟩ := hrel
        by_cases hlt : k < n
        · obtain ⟨x, hx⟩ : ∃ x, x = xs.getD k (0, 0, 0) := ⟨_, rfl⟩
          obtain ⟨y, hy⟩ : ∃ x, x = ys.getD k (0, 0, 0) := ⟨_, rfl⟩
          have cc1 := hc1'.out k hlt
          have cc2 := hc2'.out k hlt
          rw [← hx] at cc1
          rw [← hy] at cc2
          obtain ⟨x1, x2, x3⟩ := x
          obtain ⟨y1, y2, y3⟩ := y
          obtain ⟨p1, p2, p3⟩ := cc1
          obtain ⟨q1, q2, q3⟩ := cc2
          have c1 : wr.cell? ⟨g, k * 3, none⟩ = some (.int .i64 x1) := (hb.cell hg).trans p1
          have c2 : wr.cell? ⟨g, k * 3 + 1, none⟩ = some (.int .i64 x2) := (hb.cell hg).trans p2
          have c3 : wr.cell? ⟨g, k * 3 + 2, none⟩ = some (.int .i64 x3) := (hb.cell hg).trans p3
          have d1 : wr.cell? ⟨f, k * 3, none⟩ = some (.int .i64 y1) := (hb.cell hf).trans q1
          have d2 : wr.cell? ⟨f, k * 3 + 1, none⟩ = some (.int .i64 y2) := (hb.cell hf).trans q2
          have d3 : wr.cell? ⟨f, k * 3 + 2, none⟩ = some (.int .i64 y3) := (hb.cell hf).trans q3
          have hx' := Lib.hid hx
          have hy' := Lib.hid hy
          clear hx hy p1 p2 p3 q1 q2 q3
          have hgd : Try.prog.eqGuardType Try.prog.depth 62 = false := by kernel_rfl
          by_cases hxy : (x1, x2, x3) = (y1, y2, y3)
          · have heq : ∀ w : World, (Op.equalIn 10000 62 (.agg #[.int .i64 x1, .int .i64 x2, .int .i64 x3]) (.agg #[.int .i64 y1, .int .i64 y2, .int .i64 y3])).run Try.prog w = .ok true w := fun w => by
              rw [eq62]; simp only [Prod.mk.injEq] at hxy; obtain ⟨rfl, rfl, rfl⟩ := hxy; simp
            have hxy' := Lib.hid hxy
            clear hxy
            go_wp2
            go_quiet (fail)
            go_wp2
            go_roundw
            case rel => exact ⟨k + 1, by omega, by go_num, Lib.hid (fun j hjk => by
              by_cases e : j = k
              · rw [e, ← hx'.out, ← hy'.out]; exact hxy'.out
              · exact hj.out j (by omega)), below_drewN hb _⟩
            case measure => simp [intOf]; omega
          · have heq : ∀ w : World, (Op.equalIn 10000 62 (.agg #[.int .i64 x1, .int .i64 x2, .int .i64 x3]) (.agg #[.int .i64 y1, .int .i64 y2, .int .i64 y3])).run Try.prog w = .ok false w := fun w => by
              rw [eq62]
              congr 1
              simp only [Prod.mk.injEq] at hxy
              rw [Bool.eq_false_iff]
              intro hc
              simp at hc
              exact hxy (by omega)
            have hxy' := Lib.hid hxy
            clear hxy
            go_wp2
            go_quiet (fail)
            go_wp2
            go_ret
            exact ⟨ret_b (sameR_at k (by rw [← hx'.out, ← hy'.out]; exact hxy'.out)), below_drewN hb _⟩
        · go_wp2
          go_ret
          exact ⟨ret_b (sameR_all (by rw [← hn'.out, ← hm'.out]) k (by rw [← hn'.out]; omega) hj.out), hb⟩
  · have ht : ((n : Int) != (m : Int)) = true := by simp; omega
    have hz : false = sameR xs ys := sameR_len (by omega)
    have hz' := Lib.hid hz
    clear hz h1 h2 hn hm
    have hnm' := Lib.hid hnm
    clear hnm
    go_enter Try.func36, Try.ntmps36
    go_wp2
    go_ret
    exact ⟨ret_b hz'.out, Below.refl _ _⟩
end Go.Proofs.Ytbcoaiaocfommaa
