import Derived.Test.YtbemlfppekpmjaaZa
namespace Go.Proofs.Ytbemlfppekpmjaa
open Go.RowKit Rng
@[local go_sem] theorem base87'' (b : Nat) (w : World) : (method 261 87 (.pointer (some ⟨b, 0, none⟩)) "bolster/ring.base").run Try.prog w = .ok (101, .pointer (some ⟨b, 0, none⟩)) w := base87 b w
@[local go_sem] theorem base92'' (b : Nat) (w : World) : (method 261 92 (.pointer (some ⟨b, 0, none⟩)) "bolster/ring.base").run Try.prog w = .ok (101, .pointer (some ⟨b, 0, none⟩)) w := base92 b w
def Same (w wr : World) : Prop := w = wr
def sumN (f : Nat → Nat) : Nat → Nat
  | 0 => 0
  | k + 1 => sumN f k + f k
theorem sumN_le {f : Nat → Nat} {m : Nat} : ∀ k, (∀ j, j < k → f j ≤ m) → sumN f k ≤ k * m
  | 0, _ => by simp [sumN]
  | k + 1, h => by
    have := sumN_le k (fun j hj => h j (by omega))
    have := h k (by omega)
    simp only [sumN, Nat.add_mul, Nat.one_mul]; omega
set_option maxHeartbeats 2000000 in
set_option maxRecDepth 100000 in
theorem sent48t {w : World} {B b n : Nat} {rv : Value} {bs : Nat → Nat} {fvs : Nat → Value} {Ms : Nat → Mb} (h : RgAt w B b true n rv bs fvs Ms) (hn10 : n ≤ 10) (hl : ∀ j, j < n → (Ms j).st ≤ 90000) :
    Calls Try.prog 48 #[.pointer (some ⟨b, 0, none⟩)] w fun e w' => e = .returned (.int .i64 (sumN (fun j => (Ms j).st) n)) ∧ w = w' := by
  have ht := Lib.hid (there55 h.c0)
  have c1 := h.c1
  have h' := Lib.hid h
  have hl' := Lib.hid hl
  obtain ⟨ao, c, rfl, hc, hcl⟩ := h.ms.val
  have hb := Lib.hid (fun (v : Value) => base101 (w := w) v)
  have hcl' := Lib.hid hcl
  clear h hl hcl
  go_enter Try.func48, Try.ntmps48
  go_wp2_with (go_at_call 55; refine ht.out.mono ?_; rintro e wj ⟨rfl, rfl⟩)
  go_loopw [14, 3] (fun iv sv wr => ∃ k : Nat, k ≤ n ∧ iv = .int .i64 k ∧ sv = .int .i64 (sumN (fun j => (Ms j).st) k) ∧ Hid (Same w wr)) (fun iv _ _ => n - (intOf iv).toNat)
  case atStart => exact ⟨0, Nat.zero_le _, rfl, rfl, Lib.hid (show Same _ _ from rfl)⟩
  case round =>
    obtain ⟨k, hk, rfl, rfl, hw⟩ := hrel
    obtain rfl := hw.out
    by_cases hlt : k < n
    · obtain ⟨g, rfl, hv⟩ := hcl'.out k hlt
      have k2 := (h'.out.ms.mem k hlt).wr.c2
      have hki : (k : Int) < (n : Int) := by omega
      have hs1 := sumN_le (f := fun j => (Ms j).st) (m := 90000) k (fun j hj => hl'.out j (by omega))
      have hs2 := hl'.out k hlt
      obtain ⟨s, hs⟩ : ∃ s, s = sumN (fun j => (Ms j).st) k := ⟨_, rfl⟩
      obtain ⟨q, hq⟩ : ∃ q, q = (Ms k).st := ⟨_, rfl⟩
      rw [← hs] at hs1 ⊢
      rw [← hq] at hs2 k2
      have hs' := Lib.hid hs
      have hq' := Lib.hid hq
      have hs3 : s ≤ 900000 := by omega
      clear hs hq hs1
      unfold mv at hv
      rw [if_pos rfl] at hv
      go_wp2_with (go_at_call 101; refine (hb.out _).mono ?_; rintro e wj ⟨rfl, rfl⟩)
      go_roundw
      case rel => exact ⟨k + 1, by omega, by go_num, by simp only [sumN]; rw [← hs'.out, ← hq'.out]; go_num, Lib.hid (show Same _ _ from rfl)⟩
      case measure => simp [intOf]; omega
    · obtain rfl : k = n := by omega
      go_wp2_with fail
      go_ret
      exact ⟨rfl, rfl⟩
set_option maxHeartbeats 2000000 in
set_option maxRecDepth 100000 in
theorem sent48f {w : World} {B b n : Nat} {rv : Value} {bs : Nat → Nat} {fvs : Nat → Value} {Ms : Nat → Mb} (h : RgAt w B b false n rv bs fvs Ms) (hn10 : n ≤ 10) (hl : ∀ j, j < n → (Ms j).st ≤ 90000) :
    Calls Try.prog 48 #[.pointer (some ⟨b, 0, none⟩)] w fun e w' => e = .returned (.int .i64 (sumN (fun j => (Ms j).st) n)) ∧ w = w' := by
  have ht := Lib.hid (there55 h.c0)
  have c1 := h.c1
  have h' := Lib.hid h
  have hl' := Lib.hid hl
  obtain ⟨ao, c, rfl, hc, hcl⟩ := h.ms.val
  have hb := Lib.hid (fun (v : Value) => base101 (w := w) v)
  have hcl' := Lib.hid hcl
  clear h hl hcl
  go_enter Try.func48, Try.ntmps48
  go_wp2_with (go_at_call 55; refine ht.out.mono ?_; rintro e wj ⟨rfl, rfl⟩)
  go_loopw [14, 3] (fun iv sv wr => ∃ k : Nat, k ≤ n ∧ iv = .int .i64 k ∧ sv = .int .i64 (sumN (fun j => (Ms j).st) k) ∧ Hid (Same w wr)) (fun iv _ _ => n - (intOf iv).toNat)
  case atStart => exact ⟨0, Nat.zero_le _, rfl, rfl, Lib.hid (show Same _ _ from rfl)⟩
  case round =>
    obtain ⟨k, hk, rfl, rfl, hw⟩ := hrel
    obtain rfl := hw.out
    by_cases hlt : k < n
    · obtain ⟨g, rfl, hv⟩ := hcl'.out k hlt
      have k2 := (h'.out.ms.mem k hlt).wr.c2
      have hki : (k : Int) < (n : Int) := by omega
      have hs1 := sumN_le (f := fun j => (Ms j).st) (m := 90000) k (fun j hj => hl'.out j (by omega))
      have hs2 := hl'.out k hlt
      obtain ⟨s, hs⟩ : ∃ s, s = sumN (fun j => (Ms j).st) k := ⟨_, rfl⟩
      obtain ⟨q, hq⟩ : ∃ q, q = (Ms k).st := ⟨_, rfl⟩
      rw [← hs] at hs1 ⊢
      rw [← hq] at hs2 k2
      have hs' := Lib.hid hs
      have hq' := Lib.hid hq
      have hs3 : s ≤ 900000 := by omega
      clear hs hq hs1
      unfold mv at hv
      rw [if_neg (by simp)] at hv
      go_wp2_with (go_at_call 101; refine (hb.out _).mono ?_; rintro e wj ⟨rfl, rfl⟩)
      go_roundw
      case rel => exact ⟨k + 1, by omega, by go_num, by simp only [sumN]; rw [← hs'.out, ← hq'.out]; go_num, Lib.hid (show Same _ _ from rfl)⟩
      case measure => simp [intOf]; omega
    · obtain rfl : k = n := by omega
      go_wp2_with fail
      go_ret
      exact ⟨rfl, rfl⟩
/-- `v` reads as the ints `xs`. -/
def Reads (w : World) (v : Value) (xs : List Int) : Prop := ∃ ao c, v = .slice ao xs.length c ∧ xs.length ≤ c ∧ (xs ≠ [] → ∃ g o, ao = some ⟨g, o, none⟩ ∧ g < w.heap.size ∧ ∀ j, j < xs.length → w.cell? ⟨g, o + j, none⟩ = some (.int .i64 (xs.getD j 0)))
theorem Reads.below {w w' : World} {v : Value} {xs : List Int} (h : Reads w v xs) (hb : Below w.heap.size w w') : Reads w' v xs := by
  obtain ⟨ao, c, rfl, hc, h⟩ := h
  refine ⟨ao, c, rfl, hc, fun hne => ?_⟩
  obtain ⟨g, o, rfl, hg, hc⟩ := h hne
  exact ⟨g, o, rfl, Nat.lt_of_lt_of_le hg hb.size, fun j hj => (hb.cell (p := ⟨g, o + j, none⟩) hg).trans (hc j hj)⟩
theorem Reads.at {w : World} {ao : Option Addr} {n c : Nat} {xs : List Int} (h : Reads w (.slice ao n c) xs) (hn : xs.length = n) {k : Nat} (hk : k < n) :
    ∃ g o, ao = some ⟨g, o, none⟩ ∧ g < w.heap.size ∧ ∀ j, j < n → w.cell? ⟨g, o + j, none⟩ = some (.int .i64 (xs.getD j 0)) := by
  obtain ⟨ao', c', e, _, hc⟩ := h
  have e1 : ao = ao' := by cases e; rfl
  subst e1
  obtain ⟨g, o, rfl, hg, hcell⟩ := hc (fun e => by rw [e] at hn; simp at hn; omega)
  exact ⟨g, o, rfl, hg, fun j hj => hcell j (by omega)⟩
theorem Reads.take {w : World} {ao : Option Addr} {c n : Nat} {xs : List Int} (hn : xs.length = n) (h : Reads w (.slice ao n c) xs) {m : Nat} (hm : m ≤ n) : Reads w (.slice ao m c) (xs.take m) := by
  subst hn
  obtain ⟨ao', c', e, hc, h⟩ := h
  have e1 : ao = ao' ∧ c = c' := by cases e; exact ⟨rfl, rfl⟩
  obtain ⟨rfl, rfl⟩ := e1
  have hl : (xs.take m).length = m := by rw [List.length_take]; omega
  refine ⟨ao, c, by rw [hl], by omega, fun hne => ?_⟩
  obtain ⟨g, o, rfl, hg, hcell⟩ := h (fun e => hne (by rw [e]; simp))
  refine ⟨g, o, rfl, hg, fun j hj => ?_⟩
  rw [hl] at hj
  rw [hcell j (by omega), List.getD_eq_getElem?_getD, List.getD_eq_getElem?_getD, List.getElem?_take, if_pos hj]
def idxI (x : Int) (xs : List Int) (k : Nat) : Prop := ∀ j, j < k → xs.getD j 0 ≠ x
set_option maxHeartbeats 2000000 in
set_option maxRecDepth 100000 in
theorem index82 {w : World} {v : Value} {xs : List Int} (h : Reads w v xs) (hl : xs.length ≤ 100000) (x : Int) : Calls Try.prog 82 #[v, .int .i64 x] w fun e w' => ∃ r : Int, e = .returned (.int .i64 r) ∧ w = w' ∧ Hid (0 ≤ r ↔ x ∈ xs) ∧ -1 ≤ r := by
  have h' := Lib.hid h
  obtain ⟨ao, c, rfl, hc, -⟩ := h
  obtain ⟨n, hn⟩ : ∃ n, n = xs.length := ⟨_, rfl⟩
  rw [← hn] at hc hl h' ⊢
  have hn' := Lib.hid hn
  clear hn
  go_enter Try.func82, Try.ntmps82
  go_wp2_with fail
  go_loopw [8] (fun iv wr => ∃ k : Nat, k ≤ n ∧ iv = .int .i64 k ∧ Hid (idxI x xs k) ∧ Hid (Same w wr)) (fun iv _ => n - (intOf iv).toNat)
  case atStart => exact ⟨0, Nat.zero_le _, rfl, Lib.hid (fun j hj => by omega), Lib.hid (show Same _ _ from rfl)⟩
  case round =>
    obtain ⟨k, hk, rfl, hid, hw⟩ := hrel
    obtain rfl := hw.out
    by_cases hlt : k < n
    · obtain ⟨g, o, rfl, -, hcl⟩ := h'.out.at hn'.out.symm hlt
      have k1 := hcl k hlt
      obtain ⟨y, hy⟩ : ∃ y, y = xs.getD k 0 := ⟨_, rfl⟩
      rw [← hy] at k1
      have hki : (k : Int) < (n : Int) := by omega
      have hy' := Lib.hid hy
      clear hcl hy
      by_cases e : x = y
      · subst e
        have he : (x == x) = true := by simp
        go_wp2_with fail
        go_ret
        refine ⟨(k : Int), rfl, rfl, Lib.hid ⟨fun _ => ?_, fun _ => by omega⟩, by omega⟩
        rw [hy'.out, List.getD_eq_getElem?_getD, List.getElem?_eq_getElem (by have := hn'.out; omega)]
        exact List.getElem_mem _
      · have he : (x == y) = false := by simpa using e
        go_wp2_with fail
        go_roundw
        case rel =>
          refine ⟨k + 1, by omega, by go_num, Lib.hid (fun j hj => ?_), Lib.hid (show Same _ _ from rfl)⟩
          by_cases e2 : j = k
          · subst e2; rw [← hy'.out]; exact fun h => e h.symm
          · exact hid.out j (by omega)
        case measure => simp [intOf]; omega
    · obtain rfl : k = n := by omega
      go_wp2_with fail
      go_ret
      refine ⟨-1, rfl, rfl, Lib.hid ⟨fun h => by omega, fun hm => ?_⟩, by omega⟩
      exfalso
      obtain ⟨j, hj, rfl⟩ := List.mem_iff_getElem.1 hm
      refine hid.out j (by have := hn'.out; omega) ?_
      rw [List.getD_eq_getElem?_getD, List.getElem?_eq_getElem hj]; rfl
set_option maxHeartbeats 2000000 in
set_option maxRecDepth 100000 in
theorem contains75 {w : World} {v : Value} {xs : List Int} (h : Reads w v xs) (hl : xs.length ≤ 100000) (x : Int) : Calls Try.prog 75 #[v, .int .i64 x] w fun e w' => e = .returned (.bool (decide (x ∈ xs))) ∧ w = w' := by
  have hi := Lib.hid (index82 h hl x)
  obtain ⟨ao, c, rfl, _⟩ := h
  go_enter Try.func75, Try.ntmps75
  go_wp2_with (go_at_call 82; refine hi.out.mono ?_; rintro e wj ⟨r, rfl, rfl, hr, hr1⟩; have hr' := hr; clear hr)
  go_ret
  exact ⟨ret_b (decide_eq_decide.2 hr'.out), rfl⟩
end Go.Proofs.Ytbemlfppekpmjaa
