import Derived.Test.YtjkbhdlbomcbeaaXa
namespace Go.Proofs.Ytjkbhdlbomcbeaa
open Go.RowKit Go.Shelf Shf

def outB (x : Int) : Bool := decide (x < 0) || decide (24 < x)
set_option maxRecDepth 100000 in
theorem out54 {w : World} (x : Int) {d : Bool} (hd : outB x = d) : Calls Try.prog 54 #[.int .i64 x] w fun e w' => e = .returned (.bool d) ∧ w = w' := by
  subst hd
  by_cases h : x < 0
  · go_enter Try.func54, Try.ntmps54
    go_wp2
    go_ret
    exact ⟨ret_b (by unfold outB; simp [h]), rfl⟩
  · have h' : decide (x < 0) = false := by simpa using h
    go_enter Try.func54, Try.ntmps54
    go_wp2
    go_ret
    exact ⟨ret_b (by unfold outB; rw [h', Bool.false_or]), rfl⟩
def Idx (p : Int → Bool) (xs : List Int) (w : World) (e : Ending) (w' : World) : Prop := ∃ r : Int, e = .returned (.int .i64 r) ∧ decide (0 ≤ r) = xs.any p ∧ -1 ≤ r ∧ w = w'
theorem any_take {p : Int → Bool} {xs : List Int} {k : Nat} (h : (xs.take k).any p = false) (hk : k < xs.length) (hp : p (xs.getD k 0) = false) : (xs.take (k + 1)).any p = false := by
  rw [List.take_succ_eq_append_getElem hk, List.any_append, h]
  rw [List.getD_eq_getElem?_getD, List.getElem?_eq_getElem hk] at hp
  simpa using hp
theorem any_at {p : Int → Bool} {xs : List Int} {k : Nat} (hk : k < xs.length) (hp : p (xs.getD k 0) = true) : xs.any p = true := by
  rw [List.getD_eq_getElem?_getD, List.getElem?_eq_getElem hk] at hp
  exact List.any_eq_true.2 ⟨_, List.getElem_mem hk, hp⟩
set_option maxHeartbeats 2000000 in
set_option maxRecDepth 100000 in
theorem index72 {w : World} {u : Value} {xs : List Int} (hx : Reads w u xs) (hl : xs.length ≤ 1000000) : Calls Try.prog 72 #[u, .func (.func 54) #[] #[]] w (Idx outB xs w) := by
  obtain ⟨xa, xc, rfl, hxc⟩ := hx.len
  obtain ⟨n, hn⟩ : ∃ n, n = xs.length := ⟨_, rfl⟩
  have hat := Lib.hid (fun (k : Nat) (hk : k < n) => (show ∃ g o, xa = some ⟨g, o, none⟩ ∧ w.cell? ⟨g, o + k, none⟩ = some (.int .i64 (xs.getD k 0)) from by
    obtain ⟨g, o, e, hg, h⟩ := hx.at rfl (k := k) (by rw [← hn]; exact hk)
    exact ⟨g, o, e, h k (by rw [← hn]; exact hk)⟩))
  rw [← hn] at hxc hl ⊢
  have hn' := Lib.hid hn
  clear hn hx
  go_enter Try.func72, Try.ntmps72
  go_wp2_with fail
  go_loop [8] (fun iv => ∃ k : Nat, k ≤ n ∧ iv = .int .i64 k ∧ Hid ((xs.take k).any outB = false)) (fun iv => n - (intOf iv).toNat)
  case atStart => exact ⟨0, Nat.zero_le _, rfl, Lib.hid rfl⟩
  case round =>
    obtain ⟨k, hk, rfl, hany⟩ := hrel
    by_cases hkn : k < n
    · obtain ⟨g, o, rfl, c⟩ := hat.out k hkn
      have hnx := Lib.hid (fun (h : outB (xs.getD k 0) = false) => any_take hany.out (by rw [← hn'.out]; exact hkn) h)
      have hyes := Lib.hid (fun (h : outB (xs.getD k 0) = true) => any_at (by rw [← hn'.out]; exact hkn) h)
      obtain ⟨x, hx⟩ : ∃ x, x = xs.getD k 0 := ⟨_, rfl⟩
      rw [← hx] at c hnx hyes
      have hkI : (k : Int) < (n : Int) := by omega
      clear hx
      cases hd : outB x with
      | true =>
        have hc := Lib.hid (out54 (w := w) x hd)
        have hy := Lib.hid (hyes.out hd)
        clear hd hnx hyes
        go_wp2_with ((refine (hc.out).mono ?_); rintro e w' ⟨rfl, rfl⟩)
        go_ret
        exact ⟨k, rfl, by rw [hy.out]; simp, by omega, rfl⟩
      | false =>
        have hc := Lib.hid (out54 (w := w) x hd)
        have hy := Lib.hid (hnx.out hd)
        clear hd hnx hyes
        go_wp2_with ((refine (hc.out).mono ?_); rintro e w' ⟨rfl, rfl⟩)
        go_round
        case rel => exact ⟨k + 1, by omega, by go_num, hy⟩
        case measure => simp [intOf]; omega
    · obtain rfl : k = n := by omega
      go_wp2_with fail
      go_ret
      refine ⟨-1, rfl, ?_, by omega, rfl⟩
      have h := hany.out
      rw [List.take_of_length_le (by rw [← hn'.out]; omega)] at h
      rw [h]; rfl
set_option maxRecDepth 100000 in
theorem contains55 {w : World} {u : Value} {xs : List Int} (hx : Reads w u xs) (hl : xs.length ≤ 1000000) {d : Bool} (hd : xs.any outB = d) : Calls Try.prog 55 #[u, .func (.func 54) #[] #[]] w fun e w' => e = .returned (.bool d) ∧ w = w' := by
  subst hd
  have hi := Lib.hid (index72 hx hl)
  clear hx hl
  go_enter Try.func55, Try.ntmps55
  go_wp2_with (go_at_call 72; refine (hi.out).mono ?_; rintro e w' ⟨r, rfl, hr, h1, rfl⟩; have hr' := Lib.hid hr; clear hr)
  go_ret
  exact ⟨ret_b (by rw [← hr'.out]), rfl⟩
/-- What Load answers. -/
def LoadAns (P : Int) (js : List J) (os : List (Int × Int)) (xs ys : List Int) (err : Int) : Prop :=
  (validB P js os = false ∧ ys = [] ∧ err = 1) ∨ (validB P js os = true ∧ (((xs.length ≠ js.length ∨ xs.any outB = true) ∧ ys = [] ∧ err = 2) ∨ (xs.length = js.length ∧ xs.any outB = false ∧ ys = loadL (shOf P js os) (fun i => xs.getD i 0) ∧ err = 0)))
def Load33 (w : World) (P : Int) (js : List J) (os : List (Int × Int)) (xs : List Int) (e : Ending) (w' : World) : Prop := ∃ u ys err, e = .returned (.tuple #[u, .int .i64 err]) ∧ Ints w' w.heap.size u ys ∧ Below w.heap.size w w' ∧ LoadAns P js os xs ys err
theorem any_in {xs : List Int} (h : xs.any outB = false) {i : Nat} (hi : i < xs.length) : 0 ≤ xs.getD i 0 ∧ xs.getD i 0 ≤ 24 := by
  have := List.any_eq_false.1 h (xs[i]) (List.getElem_mem hi)
  rw [List.getD_eq_getElem?_getD, List.getElem?_eq_getElem hi]
  simp [outB] at this ⊢
  omega
set_option maxHeartbeats 4000000 in
set_option maxRecDepth 100000 in
theorem load33 {w : World} {v u : Value} {P : Int} {js : List J} {os : List (Int × Int)} {xs : List Int} (h : ShV w v P js os) (h7 : js.length ≤ 7) (h21 : os.length ≤ 21) (hx : Reads w u xs) (hl : xs.length ≤ 1000000) : Calls Try.prog 33 #[v, u] w (Load33 w P js os xs) := by
  obtain ⟨jv, ov, rfl, rj, ro⟩ := h
  obtain ⟨ja, jc, rfl, -⟩ := rj.at
  obtain ⟨oa, m, oc, rfl⟩ : ∃ a n c, ov = .slice a n c := by obtain ⟨a, c, e, _⟩ := ro; exact ⟨_, _, _, e⟩
  obtain ⟨n, hn⟩ : ∃ n, n = js.length := ⟨_, rfl⟩
  rw [← hn] at rj ⊢
  have hn' := Lib.hid hn
  obtain ⟨xa, xc, rfl, hxc⟩ := hx.len
  obtain ⟨k, hk⟩ : ∃ k, k = xs.length := ⟨_, rfl⟩
  rw [← hk] at hx ⊢
  have hk' := Lib.hid hk
  have hb0 := Lib.hid (below_alloc1 w (.cells #[.int .i64 P, .slice ja n jc, .slice oa m oc] 25))
  have hsh := Lib.hid (fun (W : World) (hb : Below w.heap.size w W) => (show ShV W (.agg #[.int .i64 P, .slice ja n jc, .slice oa m oc]) P js os from ⟨_, _, rfl, rj.below hb, ro.below hb⟩))
  have hxr := Lib.hid (fun (W : World) (hb : Below w.heap.size w W) => hx.below hb)
  have hnw := fun (d : Bool) (hd : validB P js os = d) => new37' (rj.below hb0.out) (ro.below hb0.out) h7 h21 hd
  cases hv : validB P js os with
  | false =>
    have hnn := Lib.hid (hnw false hv)
    have hans := Lib.hid (show LoadAns P js os xs [] 1 from .inl ⟨hv, rfl, rfl⟩)
    clear hnw hv rj ro h7 h21 hl hx hk hn
    go_enter Try.func33, Try.ntmps33
    go_wp2_with (go_at_call 37; refine (hnn.out).mono ?_; rintro e w1 ⟨rfl, hb1⟩; have hb1' := Lib.hid (below_call hb0.out hb1); clear hb1)
    go_ret2
    exact ⟨_, [], 1, rfl, Ints.nil _ _, below_call hb1'.out (below_alloc1 _ _), hans.out⟩
  | true =>
    have hnn := Lib.hid (hnw true hv)
    obtain ⟨hV, hos⟩ := valid_sh hv
    have hV' := Lib.hid hV
    have hv' := Lib.hid hv
    have hl' := Lib.hid (show xs.length ≤ 1000000 from hl)
    by_cases hkn : k = n
    · have hkn2 := hkn
      rw [hkn2] at hk hk' hx hxr ⊢
      clear hkn2
      obtain ⟨d, hd⟩ : ∃ d, xs.any outB = d := ⟨_, rfl⟩
      have hc := Lib.hid (fun (W : World) (hb : Below w.heap.size w W) => contains55 (w := W) (hxr.out W hb) hl hd)
      have hd' := Lib.hid hd
      clear hnw hv rj ro h7 h21 hV hos hd hl hx hk hn hkn
      cases d with
      | true =>
        have hans := Lib.hid (show LoadAns P js os xs [] 2 from .inr ⟨hv'.out, .inl ⟨.inr hd'.out, rfl, rfl⟩⟩)
        go_enter Try.func33, Try.ntmps33
        go_wp2_with (
          first
          | (go_at_call 37; refine (hnn.out).mono ?_; rintro e w1 ⟨rfl, hb1⟩
             have hb1' := Lib.hid (below_call (below_call hb0.out hb1) (below_alloc1 _ (.cells #[.int .i64 P, .slice ja n jc, .slice oa m oc] 81)))
             have hc1 := Lib.hid (hc.out _ hb1'.out)
             clear hb1)
          | (go_at_call 55; refine (hc1.out).mono ?_; rintro e w2 ⟨rfl, rfl⟩))
        go_ret2
        exact ⟨_, [], 2, rfl, Ints.nil _ _, hb1'.out, hans.out⟩
      | false =>
        have hld := Lib.hid (fun (W : World) (hb : Below w.heap.size w W) => load40 (w := W) (s := shOf P js os) (xs := xs) hV'.out.loose (hsh.out W hb) (hxr.out W hb) (by show xs.length = js.length; rw [← hk'.out, ← hn'.out]) (fun i hi => any_in hd'.out (by
          have h1 := hk'.out; have h2 := hn'.out; have h3 : (shOf P js os).n = js.length := rfl; omega)))
        go_enter Try.func33, Try.ntmps33
        go_wp2_with (
          first
          | (go_at_call 37; refine (hnn.out).mono ?_; rintro e w1 ⟨rfl, hb1⟩
             have hb1' := Lib.hid (below_call (below_call hb0.out hb1) (below_alloc1 _ (.cells #[.int .i64 P, .slice ja n jc, .slice oa m oc] 81)))
             have hc1 := Lib.hid (hc.out _ hb1'.out)
             have hl1 := Lib.hid (hld.out _ hb1'.out)
             clear hb1)
          | (go_at_call 55; refine (hc1.out).mono ?_; rintro e w2 ⟨rfl, rfl⟩)
          | (go_at_call 40; refine (hl1.out).mono ?_; rintro e w3 ⟨lv, rfl, hI, hb3⟩
             have hI' := Lib.hid (hI.base hb1'.out.size)
             have hb3' := Lib.hid (below_call hb1'.out hb3)
             clear hI hb3))
        go_ret2
        exact ⟨_, _, 0, rfl, hI'.out, hb3'.out, .inr ⟨hv'.out, .inr ⟨by rw [← hk'.out, ← hn'.out], hd'.out, rfl, rfl⟩⟩⟩
    · have hnt : ((k : Int) != (n : Int)) = true := by simp; omega
      have hans := Lib.hid (show LoadAns P js os xs [] 2 from .inr ⟨hv'.out, .inl ⟨.inl (by rw [← hn, ← hk]; exact hkn), rfl, rfl⟩⟩)
      clear hnw hv rj ro h7 h21 hV hos hl hx hk hn
      have hkn' := Lib.hid hkn
      clear hkn
      go_enter Try.func33, Try.ntmps33
      go_wp2_with (
          first
          | (go_at_call 37; refine (hnn.out).mono ?_; rintro e w1 ⟨rfl, hb1⟩
             have hb1' := Lib.hid (below_call (below_call hb0.out hb1) (below_alloc1 _ (.cells #[.int .i64 P, .slice ja n jc, .slice oa m oc] 81)))
             clear hb1))
      go_ret2
      exact ⟨_, [], 2, rfl, Ints.nil _ _, hb1'.out, hans.out⟩
end Go.Proofs.Ytjkbhdlbomcbeaa
