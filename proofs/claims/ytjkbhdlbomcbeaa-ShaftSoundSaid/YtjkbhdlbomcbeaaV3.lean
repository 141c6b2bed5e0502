import Derived.Test.YtjkbhdlbomcbeaaV2
namespace Go.Proofs.Ytjkbhdlbomcbeaa
open Go.RowKit Shf

/-! ## What is valid -/
def inB (v a b : Int) : Bool := decide (a ≤ v) && decide (v ≤ b)
def jobB (j : J) : Bool := inB j.f 0 24 && (inB j.t 0 24 && (inB j.l 1 24 && (decide (j.f + j.l ≤ j.t) && inB j.p 1 20)))
def ordB (n : Nat) (o : Int × Int) : Bool := inB o.1 0 ((n : Int) - 1) && (inB o.2 0 ((n : Int) - 1) && decide (o.1 ≠ o.2))
def validB (P : Int) (js : List J) (os : List (Int × Int)) : Bool := js.all jobB && (os.all (ordB js.length) && (inB P 1 20 && (inB js.length 1 6 && decide (os.length ≤ 20))))
theorem all_take {α : Type} {p : α → Bool} {xs : List α} {d : α} {k : Nat} (h : (xs.take k).all p = true) (hk : k < xs.length) (hp : p (xs.getD k d) = true) : (xs.take (k + 1)).all p = true := by
  rw [List.take_succ_eq_append_getElem hk, List.all_append, h]
  rw [List.getD_eq_getElem?_getD, List.getElem?_eq_getElem hk] at hp
  simpa using hp
theorem all_not {α : Type} {p : α → Bool} {xs : List α} {d : α} {k : Nat} (hk : k < xs.length) (hp : p (xs.getD k d) = false) : xs.all p = false := by
  rw [List.getD_eq_getElem?_getD, List.getElem?_eq_getElem hk] at hp
  rw [Bool.eq_false_iff]
  intro h
  rw [List.all_eq_true] at h
  have := h _ (List.getElem_mem hk)
  simp at hp
  rw [hp] at this; cases this
theorem in41' {w : World} (v a b : Int) {d : Bool} (h : inB v a b = d) : Calls Try.prog 41 #[.int .i64 v, .int .i64 a, .int .i64 b] w fun e w' => e = .returned (.bool d) ∧ w = w' := by
  subst h; exact in41 v a b

set_option maxHeartbeats 2000000 in
set_option maxRecDepth 100000 in
theorem valid17 {w : World} {v : Value} {P : Int} {js : List J} {os : List (Int × Int)} (h : ShV w v P js os) (hj7 : js.length ≤ 7) (ho21 : os.length ≤ 21) :
    Calls Try.prog 17 #[v] w fun e w' => e = .returned (.bool (validB P js os)) ∧ Below w.heap.size w w' := by
  obtain ⟨jv, ov, rfl, hj, ho⟩ := h
  obtain ⟨ja, jc, rfl, hjc, hjat⟩ := hj.at
  obtain ⟨oa, oc, rfl, hoc, hoat⟩ := ho.at
  obtain ⟨n, hn⟩ : ∃ n, n = js.length := ⟨_, rfl⟩
  obtain ⟨m, hm⟩ : ∃ m, m = os.length := ⟨_, rfl⟩
  have hjat' := Lib.hid hjat
  have hoat' := Lib.hid hoat
  have hn' := Lib.hid hn
  have hm' := Lib.hid hm
  have hvb := Lib.hid (show validB P js os = (js.all jobB && (os.all (ordB n) && (inB P 1 20 && (inB n 1 6 && decide (m ≤ 20))))) by rw [hn, hm]; rfl)
  rw [← hn] at hj7 hjc ⊢
  rw [← hm] at ho21 hoc ⊢
  rw [hvb.out]
  obtain ⟨jB, hjB⟩ : ∃ b, b = js.all jobB := ⟨_, rfl⟩
  obtain ⟨oB, hoB⟩ : ∃ b, b = os.all (ordB n) := ⟨_, rfl⟩
  rw [← hjB, ← hoB]
  have hjB' := Lib.hid hjB
  have hoB' := Lib.hid hoB
  clear hj ho hjat hoat hn hm hvb hjB hoB
  have hwb := Lib.hid (below_alloc1 w (.cells #[.int .i64 P, .slice ja n jc, .slice oa m oc] 25))
  have hbox : ∀ W : World, Below (w.heap.size + 1) (w.alloc (.cells #[.int .i64 P, .slice ja n jc, .slice oa m oc] 25)) W → W.cell? ⟨w.heap.size, 0, none⟩ = some (.int .i64 P) ∧ W.cell? ⟨w.heap.size, 1, none⟩ = some (.slice ja n jc) ∧ W.cell? ⟨w.heap.size, 2, none⟩ = some (.slice oa m oc) := fun W hb => by
    have h0 : ∀ j, W.cell? ⟨w.heap.size, j, none⟩ = (#[Value.int .i64 P, .slice ja n jc, .slice oa m oc] : Array Value)[j]? := fun j => by
      rw [hb.cell (p := ⟨w.heap.size, j, none⟩) (by simp), World.cell?_alloc_at (hn := rfl)]
    exact ⟨h0 0, h0 1, h0 2⟩
  have hbox' := Lib.hid hbox
  clear hbox
  go_enter Try.func17, Try.ntmps17
  go_wp2_with fail
  obtain ⟨W1, hW1⟩ : ∃ W1, W1 = w.alloc (.cells #[.int .i64 P, .slice ja n jc, .slice oa m oc] 25) := ⟨_, rfl⟩
  have hs1 : W1.heap.size = w.heap.size + 1 := by rw [hW1]; simp
  rw [← hW1] at hwb hbox' ⊢
  obtain ⟨b1, hb1⟩ : ∃ b1, b1 = w.heap.size := ⟨_, rfl⟩
  rw [← hb1] at hbox' hs1 ⊢
  have hb1' := Lib.hid hb1
  clear hW1 hb1
  go_loopw [3] (fun iv wr => ∃ i : Nat, i ≤ n ∧ iv = .int .i64 i ∧ Hid ((js.take i).all jobB = true) ∧ Hid (Below (b1 + 1) W1 wr)) (fun iv _ => n - (intOf iv).toNat)
  case atStart => exact ⟨0, Nat.zero_le _, rfl, Lib.hid rfl, Lib.hid (Below.refl _ _)⟩
  case round =>
    obtain ⟨i, hi, rfl, hall, hbw⟩ := hrel
    obtain ⟨k0, k1, k2⟩ := hbox'.out wr hbw.out
    have hbE := Lib.hid (show Below w.heap.size w wr from hwb.out.trans (hbw.out.mono (by have := hb1'.out; omega)))
    have hsz := hbw.out.size
    by_cases hin : i < n
    · obtain ⟨g, rfl, hg, c0, c1, c2, c3⟩ := hjat'.out i (by rw [← hn'.out]; exact hin)
      have d0 := (hbE.out.cell (p := ⟨g, i * 4, none⟩) hg).trans c0
      have d1 := (hbE.out.cell (p := ⟨g, i * 4 + 1, none⟩) hg).trans c1
      have d2 := (hbE.out.cell (p := ⟨g, i * 4 + 2, none⟩) hg).trans c2
      have d3 := (hbE.out.cell (p := ⟨g, i * 4 + 3, none⟩) hg).trans c3
      have hnx := Lib.hid (fun (h : jobB (js.getD i J0) = true) => all_take hall.out (by rw [← hn'.out]; exact hin) h)
      have hno := Lib.hid (fun (h : jobB (js.getD i J0) = false) => (show jB = false by rw [hjB'.out]; exact all_not (by rw [← hn'.out]; exact hin) h))
      obtain ⟨⟨f, t, l, p⟩, hjq⟩ : ∃ j, j = js.getD i J0 := ⟨_, rfl⟩
      rw [← hjq] at d0 d1 d2 d3 hnx hno
      clear hjq c0 c1 c2 c3
      simp only at d0 d1 d2 d3
      have e1 := Lib.hid (fun (W : World) => in41' (w := W) f 0 24 rfl)
      have e2 := Lib.hid (fun (W : World) => in41' (w := W) t 0 24 rfl)
      have e3 := Lib.hid (fun (W : World) => in41' (w := W) l 1 24 rfl)
      have e5 := Lib.hid (fun (W : World) => in41' (w := W) p 1 20 rfl)
      have hb2 := Lib.hid (hbw.out.alloc (by rw [← hs1]; exact hsz) (.cells #[.int .i64 f, .int .i64 t, .int .i64 l, .int .i64 p] 56))
      have hb3 := Lib.hid (below_call hbE.out (below_alloc1 wr (.cells #[.int .i64 f, .int .i64 t, .int .i64 l, .int .i64 p] 56)))
      cases x1 : inB f 0 24 with
      | false =>
        rw [x1] at e1
        have hf := hno.out (by simp [jobB, x1])
        subst hf
        clear hjB' hno hnx
        go_wp2_with (first | (go_at_call_of 41 (Value.int IntKind.i64 f); refine (e1.out _).mono ?_; rintro e w1 ⟨rfl, rfl⟩) | (go_at_call_of 41 (Value.int IntKind.i64 t); refine (e2.out _).mono ?_; rintro e w1 ⟨rfl, rfl⟩) | (go_at_call_of 41 (Value.int IntKind.i64 l); refine (e3.out _).mono ?_; rintro e w1 ⟨rfl, rfl⟩) | (go_at_call_of 41 (Value.int IntKind.i64 p); refine (e5.out _).mono ?_; rintro e w1 ⟨rfl, rfl⟩))
        go_ret
        exact ⟨rfl, hb3.out⟩
      | true =>
        rw [x1] at e1
        cases x2 : inB t 0 24 with
        | false =>
          rw [x2] at e2
          have hf := hno.out (by simp [jobB, x1, x2])
          subst hf
          clear hjB' hno hnx
          go_wp2_with (first | (go_at_call_of 41 (Value.int IntKind.i64 f); refine (e1.out _).mono ?_; rintro e w1 ⟨rfl, rfl⟩) | (go_at_call_of 41 (Value.int IntKind.i64 t); refine (e2.out _).mono ?_; rintro e w1 ⟨rfl, rfl⟩) | (go_at_call_of 41 (Value.int IntKind.i64 l); refine (e3.out _).mono ?_; rintro e w1 ⟨rfl, rfl⟩) | (go_at_call_of 41 (Value.int IntKind.i64 p); refine (e5.out _).mono ?_; rintro e w1 ⟨rfl, rfl⟩))
          go_ret
          exact ⟨rfl, hb3.out⟩
        | true =>
          rw [x2] at e2
          cases x3 : inB l 1 24 with
          | false =>
            rw [x3] at e3
            have hf := hno.out (by simp [jobB, x1, x2, x3])
            subst hf
            clear hjB' hno hnx
            go_wp2_with (first | (go_at_call_of 41 (Value.int IntKind.i64 f); refine (e1.out _).mono ?_; rintro e w1 ⟨rfl, rfl⟩) | (go_at_call_of 41 (Value.int IntKind.i64 t); refine (e2.out _).mono ?_; rintro e w1 ⟨rfl, rfl⟩) | (go_at_call_of 41 (Value.int IntKind.i64 l); refine (e3.out _).mono ?_; rintro e w1 ⟨rfl, rfl⟩) | (go_at_call_of 41 (Value.int IntKind.i64 p); refine (e5.out _).mono ?_; rintro e w1 ⟨rfl, rfl⟩))
            go_ret
            exact ⟨rfl, hb3.out⟩
          | true =>
            rw [x3] at e3
            have y1 : 0 ≤ f ∧ f ≤ 24 := by simpa [inB] using x1
            have y3 : 1 ≤ l ∧ l ≤ 24 := by simpa [inB] using x3
            by_cases h4 : f + l ≤ t
            · have x4 : decide (f + l ≤ t) = true := by simpa using h4
              have x4' : decide (f + l > t) = false := by simp; omega
              cases x5 : inB p 1 20 with
              | false =>
                rw [x5] at e5
                have hf := hno.out (by simp [jobB, x1, x2, x3, x4, x5])
                subst hf
                clear hjB' hno hnx
                go_wp2_with (first | (go_at_call_of 41 (Value.int IntKind.i64 f); refine (e1.out _).mono ?_; rintro e w1 ⟨rfl, rfl⟩) | (go_at_call_of 41 (Value.int IntKind.i64 t); refine (e2.out _).mono ?_; rintro e w1 ⟨rfl, rfl⟩) | (go_at_call_of 41 (Value.int IntKind.i64 l); refine (e3.out _).mono ?_; rintro e w1 ⟨rfl, rfl⟩) | (go_at_call_of 41 (Value.int IntKind.i64 p); refine (e5.out _).mono ?_; rintro e w1 ⟨rfl, rfl⟩))
                go_ret
                exact ⟨rfl, hb3.out⟩
              | true =>
                rw [x5] at e5
                have hok := Lib.hid (hnx.out (by simp [jobB, x1, x2, x3, x4, x5]))
                clear hno hnx x1 x2 x3 x5
                go_wp2_with (first | (go_at_call_of 41 (Value.int IntKind.i64 f); refine (e1.out _).mono ?_; rintro e w1 ⟨rfl, rfl⟩) | (go_at_call_of 41 (Value.int IntKind.i64 t); refine (e2.out _).mono ?_; rintro e w1 ⟨rfl, rfl⟩) | (go_at_call_of 41 (Value.int IntKind.i64 l); refine (e3.out _).mono ?_; rintro e w1 ⟨rfl, rfl⟩) | (go_at_call_of 41 (Value.int IntKind.i64 p); refine (e5.out _).mono ?_; rintro e w1 ⟨rfl, rfl⟩))
                go_roundw
                case rel => exact ⟨i + 1, by omega, by go_num, hok, hb2⟩
                case measure => simp [intOf]; omega
            · have x4 : decide (f + l ≤ t) = false := by simpa using h4
              have x4' : decide (f + l > t) = true := by simp; omega
              have hf := hno.out (by simp [jobB, x1, x2, x3, x4])
              subst hf
              clear hjB' hno hnx
              go_wp2_with (first | (go_at_call_of 41 (Value.int IntKind.i64 f); refine (e1.out _).mono ?_; rintro e w1 ⟨rfl, rfl⟩) | (go_at_call_of 41 (Value.int IntKind.i64 t); refine (e2.out _).mono ?_; rintro e w1 ⟨rfl, rfl⟩) | (go_at_call_of 41 (Value.int IntKind.i64 l); refine (e3.out _).mono ?_; rintro e w1 ⟨rfl, rfl⟩) | (go_at_call_of 41 (Value.int IntKind.i64 p); refine (e5.out _).mono ?_; rintro e w1 ⟨rfl, rfl⟩))
              go_ret
              exact ⟨rfl, hb3.out⟩
    · obtain rfl : n = i := by omega
      obtain rfl : jB = true := by rw [hjB'.out]; have := hall.out; rwa [List.take_of_length_le (by rw [← hn'.out]; omega)] at this
      have hn1 : -1 ≤ (n : Int) - 1 ∧ (n : Int) - 1 ≤ 6 := by omega
      have hbE2 := Lib.hid hbw.out
      clear hall hjB' hbw hbE hsz
      go_wp2_with fail
      go_loopw [5] (fun iv wx => ∃ i : Nat, i ≤ m ∧ iv = .int .i64 i ∧ Hid ((os.take i).all (ordB n) = true) ∧ Hid (Below (b1 + 1) W1 wx)) (fun iv _ => m - (intOf iv).toNat)
      case atStart => exact ⟨0, Nat.zero_le _, rfl, Lib.hid rfl, hbE2⟩
      case round =>
        clear k0 k1 k2 hbE2
        obtain ⟨i, hi, rfl, hall, hbw⟩ := hrel
        rename_i _ wx
        obtain ⟨wr2, hwr2⟩ : ∃ x : World, x = wr := ⟨_, rfl⟩
        obtain ⟨k0, k1, k2⟩ := hbox'.out wr hbw.out
        have hbE := Lib.hid (show Below w.heap.size w wr from hwb.out.trans (hbw.out.mono (by have := hb1'.out; omega)))
        have hsz := hbw.out.size
        have hb1w : b1 < wr.heap.size := by omega
        clear hwr2
        by_cases hin : i < m
        · obtain ⟨g, rfl, hg, c0, c1⟩ := hoat'.out i (by rw [← hm'.out]; exact hin)
          have d0 := (hbE.out.cell (p := ⟨g, i * 2, none⟩) hg).trans c0
          have d1 := (hbE.out.cell (p := ⟨g, i * 2 + 1, none⟩) hg).trans c1
          have hnx := Lib.hid (fun (h : ordB n (os.getD i (0, 0)) = true) => all_take hall.out (by rw [← hm'.out]; exact hin) h)
          have hno := Lib.hid (fun (h : ordB n (os.getD i (0, 0)) = false) => (show oB = false by rw [hoB'.out]; exact all_not (by rw [← hm'.out]; exact hin) h))
          obtain ⟨⟨b, a⟩, hjq⟩ : ∃ j, j = os.getD i (0, 0) := ⟨_, rfl⟩
          rw [← hjq] at d0 d1 hnx hno
          clear hjq c0 c1
          simp only at d0 d1
          have e1 := Lib.hid (fun (W : World) => in41' (w := W) b 0 ((n : Int) - 1) rfl)
          have e2 := Lib.hid (fun (W : World) => in41' (w := W) a 0 ((n : Int) - 1) rfl)
          have hb2 := Lib.hid (hbw.out.alloc (by rw [← hs1]; exact hsz) (.cells #[.int .i64 b, .int .i64 a] 78))
          have hb3 := Lib.hid (below_call hbE.out (below_alloc1 wr (.cells #[.int .i64 b, .int .i64 a] 78)))
          cases x1 : inB b 0 ((n : Int) - 1) with
          | false =>
            rw [x1] at e1
            have hf := hno.out (by simp [ordB, x1])
            subst hf
            clear hoB' hno hnx
            go_wp2_with (first | (go_at_call_of 41 (Value.int IntKind.i64 b); refine (e1.out _).mono ?_; rintro e w1 ⟨rfl, rfl⟩) | (go_at_call_of 41 (Value.int IntKind.i64 a); refine (e2.out _).mono ?_; rintro e w1 ⟨rfl, rfl⟩))
            go_ret
            exact ⟨ret_b (by simp), hb3.out⟩
          | true =>
            rw [x1] at e1
            cases x2 : inB a 0 ((n : Int) - 1) with
            | false =>
              rw [x2] at e2
              have hf := hno.out (by simp [ordB, x1, x2])
              subst hf
              clear hoB' hno hnx
              go_wp2_with (first | (go_at_call_of 41 (Value.int IntKind.i64 b); refine (e1.out _).mono ?_; rintro e w1 ⟨rfl, rfl⟩) | (go_at_call_of 41 (Value.int IntKind.i64 a); refine (e2.out _).mono ?_; rintro e w1 ⟨rfl, rfl⟩))
              go_ret
              exact ⟨ret_b (by simp), hb3.out⟩
            | true =>
              rw [x2] at e2
              by_cases hba : b = a
              · subst hba
                have x3 : decide (b ≠ b) = false := by simp
                have x4 : (b == b) = true := by simp
                have hf := hno.out (by simp [ordB, x1])
                subst hf
                clear hoB' hno hnx
                go_wp2_with (first | (go_at_call_of 41 (Value.int IntKind.i64 b); refine (e1.out _).mono ?_; rintro e w1 ⟨rfl, rfl⟩) | (go_at_call_of 41 (Value.int IntKind.i64 a); refine (e2.out _).mono ?_; rintro e w1 ⟨rfl, rfl⟩))
                go_ret
                exact ⟨ret_b (by simp), hb3.out⟩
              · have x3 : decide (b ≠ a) = true := by simpa using hba
                have x4 : (b == a) = false := by simpa using hba
                have hok := Lib.hid (hnx.out (by simp [ordB, x1, x2, x3]))
                clear hno hnx x1 x2 x3
                go_wp2_with (first | (go_at_call_of 41 (Value.int IntKind.i64 b); refine (e1.out _).mono ?_; rintro e w1 ⟨rfl, rfl⟩) | (go_at_call_of 41 (Value.int IntKind.i64 a); refine (e2.out _).mono ?_; rintro e w1 ⟨rfl, rfl⟩))
                go_roundw
                case rel => exact ⟨i + 1, by omega, by go_num, hok, hb2⟩
                case measure => simp [intOf]; omega
        · obtain rfl : m = i := by omega
          obtain rfl : oB = true := by rw [hoB'.out]; have := hall.out; rwa [List.take_of_length_le (by rw [← hm'.out]; omega)] at this
          have e1 := Lib.hid (fun (W : World) => in41' (w := W) P 1 20 rfl)
          have e2 := Lib.hid (fun (W : World) => in41' (w := W) (n : Int) 1 6 rfl)
          clear hall hoB'
          cases x1 : inB P 1 20 with
          | false =>
            rw [x1] at e1
            go_wp2_with (first | (go_at_call 41; refine (e1.out _).mono ?_; rintro e w1 ⟨rfl, rfl⟩))
            go_ret
            exact ⟨ret_b (by simp [x1]), hbE.out⟩
          | true =>
            rw [x1] at e1
            cases x2 : inB (n : Int) 1 6 with
            | false =>
              rw [x2] at e2
              go_wp2_with (first | (go_at_call_of 41 (Value.int IntKind.i64 P); refine (e1.out _).mono ?_; rintro e w1 ⟨rfl, rfl⟩) | (go_at_call 41; refine (e2.out _).mono ?_; rintro e w1 ⟨rfl, rfl⟩))
              go_ret
              exact ⟨ret_b (by simp [x2]), hbE.out⟩
            | true =>
              rw [x2] at e2
              go_wp2_with (first | (go_at_call_of 41 (Value.int IntKind.i64 P); refine (e1.out _).mono ?_; rintro e w1 ⟨rfl, rfl⟩) | (go_at_call 41; refine (e2.out _).mono ?_; rintro e w1 ⟨rfl, rfl⟩))
              go_ret
              exact ⟨ret_b (by rw [x1, x2, Bool.true_and, Bool.true_and, Bool.true_and, Bool.true_and]; exact decide_eq_decide.2 (by omega)), hbE.out⟩
end Go.Proofs.Ytjkbhdlbomcbeaa
