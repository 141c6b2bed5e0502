import Derived.Test.YtccmabckmpelcaaD
namespace Go.Proofs.Ytccmabckmpelcaa
open Go.RowKit

def gainTo (l : List Int) (x : Nat) : Int := (l.take x).sum
theorem gainTo_snoc (l : List Int) (x : Nat) (h : x < l.length) : gainTo l (x + 1) = gainTo l x + l.getD x 0 := by
  unfold gainTo
  rw [List.take_succ_eq_append_getElem h, List.sum_append]
  simp [List.getD_eq_getElem?_getD, h]
theorem gainTo_full (l : List Int) (x : Nat) (h : l.length ≤ x) : gainTo l x = gainTo l l.length := by
  unfold gainTo; rw [List.take_of_length_le h, List.take_of_length_le (Nat.le_refl _)]
theorem gainTo_min (l : List Int) (x : Nat) : gainTo l (min x l.length) = gainTo l x := by
  rcases Nat.le_total x l.length with h | h
  · rw [Nat.min_eq_left h]
  · rw [Nat.min_eq_right h, gainTo_full l x h]

theorem gFrom_at : ∀ (l : List Int) (m : Int), gFrom m l = true → ∀ j, j < l.length → 0 ≤ l.getD j 0 ∧ l.getD j 0 ≤ m ∧ (∀ i, i ≤ j → l.getD j 0 ≤ l.getD i 0) := by
  intro l
  induction l with
  | nil => intro m _ j h; simp at h
  | cons x r ih =>
    intro m h j hj
    unfold gFrom at h
    simp only [Bool.and_eq_true, decide_eq_true_eq] at h
    obtain ⟨⟨h1, h2⟩, h3⟩ := h
    cases j with
    | zero => refine ⟨by simpa using h1, by simpa using h2, fun i hi => ?_⟩; obtain rfl : i = 0 := by omega
              exact Int.le_refl _
    | succ j =>
      obtain ⟨a1, a2, a3⟩ := ih x h3 j (by simpa using hj)
      refine ⟨by simpa using a1, by simp at a2 ⊢; omega, fun i hi => ?_⟩
      cases i with
      | zero => simpa using a2
      | succ i => simpa using a3 i (by omega)

/-- What is known of valid gains. -/
theorem gain_at {l : List Int} (h : gainB l = true) : l.length ≤ 20 ∧ ∀ j, j < l.length → 0 ≤ l.getD j 0 ∧ l.getD j 0 ≤ 1000 ∧ (∀ i, i ≤ j → l.getD j 0 ≤ l.getD i 0) := by
  unfold gainB at h
  simp only [Bool.and_eq_true, decide_eq_true_eq] at h
  exact ⟨h.1, gFrom_at l 1000 h.2⟩
theorem gainTo_bd {l : List Int} (h : gainB l = true) : ∀ x, 0 ≤ gainTo l x ∧ gainTo l x ≤ 20000 := by
  obtain ⟨h1, h2⟩ := gain_at h
  have : ∀ x, x ≤ l.length → 0 ≤ gainTo l x ∧ gainTo l x ≤ 1000 * (x : Int) := by
    intro x
    induction x with
    | zero => intro _; simp [gainTo]
    | succ x ih =>
      intro hx
      rw [gainTo_snoc l x (by omega)]
      have := ih (by omega)
      have := h2 x (by omega)
      omega
  intro x
  rw [← gainTo_min]
  have := this (min x l.length) (by omega)
  omega

def GOk (gs : List (List Int)) : Prop := gs.length ≤ 9 ∧ ∀ j, j < gs.length → gainB (gs.getD j []) = true

def worthL : List (List Int) → List Int → Int
  | g :: gs, u :: us => gainTo g u.toNat + worthL gs us
  | _, _ => 0

set_option maxHeartbeats 2000000 in
set_option maxRecDepth 100000 in
theorem worth41 {w : World} {fv gv uv : Value} {fs us : List Int} {gs : List (List Int)} (hf : Reads w fv fs) (hg : ReadsG w gv gs) (hu : Reads w uv us) (hlen : us.length = gs.length) (hok : GOk gs) (hn : NonNeg us) :
    Calls Try.prog 41 #[.agg #[fv, gv], uv] w fun e w' => e = .returned (.int .i64 (worthL gs us)) ∧ Below w.heap.size w w' := by
  obtain ⟨fo, fc, rfl, _, _⟩ := hf
  obtain ⟨go, gc, rfl, hgc, h1⟩ := hg
  obtain ⟨uo, uc, rfl, _, h2⟩ := hu
  obtain ⟨h9, hok⟩ := hok
  obtain ⟨n, hn0⟩ : ∃ n, n = gs.length := ⟨_, rfl⟩
  rw [hlen, ← hn0]
  rw [← hn0] at h9 hgc
  have h1' := Lib.hid h1
  have h2' := Lib.hid h2
  have hok' := Lib.hid hok
  have hn' := Lib.hid hn
  have hgn := Lib.hid hn0
  have hun := Lib.hid hlen
  clear h1 h2 hok hn hn0 hlen
  go_enter Try.func41, Try.ntmps41
  go_wp2_with fail
  obtain ⟨w0, hw0⟩ : ∃ w0, w0 = w.alloc (Obj.cells #[Value.slice fo fs.length fc, Value.slice go n gc] 57) := ⟨_, rfl⟩
  have hb0 : Below w.heap.size w w0 := by rw [hw0]; exact (Below.refl _ _).alloc (Nat.le_refl _) _
  have cb : w0.cell? ⟨w.heap.size, 1, none⟩ = some (.slice go n gc) := by rw [hw0, World.cell?_alloc_at (hn := rfl)]; rfl
  have hlt0 : w.heap.size < w0.heap.size := by rw [hw0]; simp
  rw [← hw0]
  have hw0' := Lib.hid hw0
  clear hw0
  go_loopw [5, 12] (fun s i wr => ∃ (k : Nat) (sum : Int), k ≤ n ∧ i = .int .i64 k ∧ s = .int .i64 sum ∧ 0 ≤ sum ∧ sum ≤ 20000 * (k : Int) ∧ Hid (worthL gs us = sum + worthL (gs.drop k) (us.drop k)) ∧ Below w0.heap.size w0 wr) (fun _ i _ => n - (intOf i).toNat)
  case atStart => exact ⟨0, 0, Nat.zero_le _, rfl, rfl, by omega, by omega, Lib.hid (by simp), Below.refl _ _⟩
  case round =>
    obtain ⟨k, sum, hk, rfl, rfl, hs0, hs1, hj, hb⟩ := hrel
    obtain ⟨wo, rfl⟩ : ∃ wo : World, wo = wr := ⟨_, rfl⟩
    by_cases hlt : k < n
    · have e1 := hgn.out
      have e2 := hun.out
      obtain ⟨g, o, rfl, hg, hc1⟩ := h1'.out (fun e => by rw [e] at e1; simp at e1; omega)
      obtain ⟨g2, o2, rfl, hg2, hc2⟩ := h2'.out (fun e => by rw [e] at e2; simp at e2; omega)
      obtain ⟨y, c1, hy⟩ := hc1 k (by omega)
      have c2 := hc2 k (by omega)
      have cc1 := (hb.cell (p := ⟨g, o + k, none⟩) (show g < w0.heap.size by omega)).trans ((hb0.cell (p := ⟨g, o + k, none⟩) hg).trans c1)
      have cc2 := (hb.cell (p := ⟨g2, o2 + k, none⟩) (show g2 < w0.heap.size by omega)).trans ((hb0.cell (p := ⟨g2, o2 + k, none⟩) hg2).trans c2)
      have cbb := (hb.cell (p := ⟨w.heap.size, 1, none⟩) hlt0).trans cb
      have hd := Lib.hid (drop_consG gs k (by omega))
      have hd2 := Lib.hid (drop_cons us k (by omega))
      have b1 := Lib.hid (hok'.out k (by omega))
      have b2 := hn'.out k (by omega)
      clear hc1 hc2 e1 e2 c1 c2
      obtain ⟨p, hp⟩ : ∃ p : Nat, (p : Int) = us.getD k 0 := ⟨(us.getD k 0).toNat, by omega⟩
      rw [← hp] at cc2 b2
      have hp' := Lib.hid hp
      clear hp
      have hy2 := Lib.hid ((hy.below hb0).below hb)
      obtain ⟨ro, rc, rfl, hrc, _⟩ := hy
      obtain ⟨l, hl⟩ : ∃ l, l = gs.getD k [] := ⟨_, rfl⟩
      rw [← hl] at cc1 hrc hy2 b1
      have hl' := Lib.hid hl
      clear hl
      obtain ⟨m, hm⟩ : ∃ m, m = l.length := ⟨_, rfl⟩
      rw [← hm] at cc1 hrc hy2
      have hm' := Lib.hid hm
      have hm20 : m ≤ 20 := by have := (gain_at b1.out).1; omega
      clear hm
      by_cases hpm : p ≤ m
      · go_wp2
        go_quiet (fail)
        go_wp2_with fail
        have hb2 := below_drewN hb nq
        have hy3 := Lib.hid (hy2.out.below (below_drewN (Below.refl _ _) nq))
        clear hy2
        obtain ⟨wi, hwi⟩ : ∃ wi, wi = World.drewN wo nq := ⟨_, rfl⟩
        rw [← hwi] at hb2 hy3 ⊢
        clear hwi
        go_loop [5, 32] (fun s i => ∃ (j : Nat), j ≤ p ∧ i = .int .i64 j ∧ s = .int .i64 (sum + gainTo l j)) (fun _ i => p - (intOf i).toNat)
        case atStart => exact ⟨0, Nat.zero_le _, rfl, by simp [gainTo]⟩
        case round =>
          obtain ⟨j, hj2, rfl, rfl⟩ := hrel
          by_cases hjl : j < p
          · obtain ⟨ao, c, e, _, hcl⟩ := hy3.out
            have e4 : ro = ao := by cases e; rfl
            subst e4
            clear e
            have e3 := hm'.out
            obtain ⟨g3, o3, rfl, hg3, hc3⟩ := hcl (fun e => by rw [e] at e3; simp at e3; omega)
            have c3 := hc3 j (by omega)
            have bb1 := gainTo_bd b1.out j
            have bb2 := (gain_at b1.out).2 j (by omega)
            have hsn := Lib.hid (gainTo_snoc l j (by omega))
            obtain ⟨x, hx⟩ : ∃ x, x = l.getD j 0 := ⟨_, rfl⟩
            rw [← hx] at c3 bb2
            have hx' := Lib.hid hx
            obtain ⟨y, hyy⟩ : ∃ y, y = gainTo l j := ⟨_, rfl⟩
            rw [← hyy] at bb1 ⊢
            have hyy' := Lib.hid hyy
            obtain ⟨q1, q2, _⟩ := bb2
            obtain ⟨q3, q4⟩ := bb1
            clear hc3 e3 hcl hx hyy
            go_wp2
            go_round
            case rel => exact ⟨j + 1, by omega, by go_num, int_eq (by rw [hsn.out, ← hyy'.out, ← hx'.out]; omega)⟩
            case measure => simp [intOf]; omega
          · have hqj : p = j := by omega
            subst hqj
            have bb1 := gainTo_bd b1.out p
            have hst := Lib.hid (show gainTo l p = gainTo l p by rfl)
            obtain ⟨y, hyy⟩ : ∃ y, y = gainTo l p := ⟨_, rfl⟩
            rw [← hyy] at bb1 ⊢
            have hyy' := Lib.hid hyy
            obtain ⟨q3, q4⟩ := bb1
            clear hyy
            go_wp2
            go_roundw
            case rel => exact ⟨k + 1, sum + y, by omega, by go_num, rfl, by omega, by omega, Lib.hid (by rw [hj.out, hd.out, hd2.out, worthL, ← hp'.out, ← hl'.out, Int.toNat_natCast, ← hst.out, ← hyy'.out]; omega), hb2⟩
            case measure => simp [intOf]; omega
      · go_wp2
        go_quiet (fail)
        go_wp2_with fail
        have hb2 := below_drewN hb nq
        have hy3 := Lib.hid (hy2.out.below (below_drewN (Below.refl _ _) nq))
        clear hy2
        obtain ⟨wi, hwi⟩ : ∃ wi, wi = World.drewN wo nq := ⟨_, rfl⟩
        rw [← hwi] at hb2 hy3 ⊢
        clear hwi
        go_loop [5, 32] (fun s i => ∃ (j : Nat), j ≤ m ∧ i = .int .i64 j ∧ s = .int .i64 (sum + gainTo l j)) (fun _ i => m - (intOf i).toNat)
        case atStart => exact ⟨0, Nat.zero_le _, rfl, by simp [gainTo]⟩
        case round =>
          obtain ⟨j, hj2, rfl, rfl⟩ := hrel
          by_cases hjl : j < m
          · obtain ⟨ao, c, e, _, hcl⟩ := hy3.out
            have e4 : ro = ao := by cases e; rfl
            subst e4
            clear e
            have e3 := hm'.out
            obtain ⟨g3, o3, rfl, hg3, hc3⟩ := hcl (fun e => by rw [e] at e3; simp at e3; omega)
            have c3 := hc3 j (by omega)
            have bb1 := gainTo_bd b1.out j
            have bb2 := (gain_at b1.out).2 j (by omega)
            have hsn := Lib.hid (gainTo_snoc l j (by omega))
            obtain ⟨x, hx⟩ : ∃ x, x = l.getD j 0 := ⟨_, rfl⟩
            rw [← hx] at c3 bb2
            have hx' := Lib.hid hx
            obtain ⟨y, hyy⟩ : ∃ y, y = gainTo l j := ⟨_, rfl⟩
            rw [← hyy] at bb1 ⊢
            have hyy' := Lib.hid hyy
            obtain ⟨q1, q2, _⟩ := bb2
            obtain ⟨q3, q4⟩ := bb1
            clear hc3 e3 hcl hx hyy
            go_wp2
            go_round
            case rel => exact ⟨j + 1, by omega, by go_num, int_eq (by rw [hsn.out, ← hyy'.out, ← hx'.out]; omega)⟩
            case measure => simp [intOf]; omega
          · have hqj : m = j := by omega
            subst hqj
            have bb1 := gainTo_bd b1.out m
            have hst := Lib.hid (show gainTo l m = gainTo l p by rw [hm'.out]; exact (gainTo_full l p (by rw [← hm'.out]; omega)).symm)
            obtain ⟨y, hyy⟩ : ∃ y, y = gainTo l m := ⟨_, rfl⟩
            rw [← hyy] at bb1 ⊢
            have hyy' := Lib.hid hyy
            obtain ⟨q3, q4⟩ := bb1
            clear hyy
            go_wp2
            go_roundw
            case rel => exact ⟨k + 1, sum + y, by omega, by go_num, rfl, by omega, by omega, Lib.hid (by rw [hj.out, hd.out, hd2.out, worthL, ← hp'.out, ← hl'.out, Int.toNat_natCast, ← hst.out, ← hyy'.out]; omega), hb2⟩
            case measure => simp [intOf]; omega
    · have hf := Lib.hid (show worthL gs us = sum by rw [hj.out, drop_end gs _ (by rw [← hgn.out]; omega)]; simp [worthL])
      go_wp2
      go_ret
      exact ⟨ret_i hf.out.symm, below_call hb0 hb⟩
end Go.Proofs.Ytccmabckmpelcaa
