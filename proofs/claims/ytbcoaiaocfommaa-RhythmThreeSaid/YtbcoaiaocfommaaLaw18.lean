import Derived.Test.YtbcoaiaocfommaaZ
import Derived.OpenShut
namespace Go.Proofs.Ytbcoaiaocfommaa
open Go.RowKit

/-! ## at most three different numbers -/
def Up (L : List Int) : Prop := L.Pairwise (· < ·)
theorem few3 {L : List Int} {a b : Int} (hu : Up L) (h : ∀ x ∈ L, x = a ∨ x = b ∨ x = a + b) (ha : 0 < a) (hb : 0 < b) :
    L.length ≤ 3 ∧ (L.length = 3 → L.getD 0 0 + L.getD 1 0 = L.getD 2 0) := by
  unfold Up at hu
  match L, hu, h with
  | [], _, _ => exact ⟨by simp, fun e => by simp at e⟩
  | [x], _, _ => exact ⟨by simp, fun e => by simp at e⟩
  | [x, y], _, _ => exact ⟨by simp, fun e => by simp at e⟩
  | [x, y, z], hu, h =>
    refine ⟨by simp, fun _ => ?_⟩
    simp at hu h
    simp
    omega
  | x :: y :: z :: t :: r, hu, h =>
    exfalso
    simp at hu h
    have := h.1; have := h.2.1; have := h.2.2.1; have := h.2.2.2.1
    omega
theorem up_ins {L : List Int} {k : Nat} {x : Int} (hu : Up L) (hk : k ≤ L.length) (h1 : ∀ j, j < k → L.getD j 0 < x) (h2 : k < L.length → x < L.getD k 0) : Up (L.take k ++ [x] ++ L.drop k) := by
  unfold Up at *
  rw [List.pairwise_iff_getElem] at hu
  have hlt : ∀ y ∈ L.take k, y < x := by
    intro y hy
    obtain ⟨j, hj, rfl⟩ := List.getElem_of_mem hy
    have hj' : j < k := by rw [List.length_take] at hj; omega
    have := h1 j hj'
    rw [List.getD_eq_getElem?_getD, List.getElem?_eq_getElem (by omega)] at this
    rw [List.getElem_take]; exact this
  have hgt : ∀ y ∈ L.drop k, x < y := by
    intro y hy
    obtain ⟨j, hj, rfl⟩ := List.getElem_of_mem hy
    have hj' : k + j < L.length := by rw [List.length_drop] at hj; omega
    have h3 := h2 (by omega)
    rw [List.getD_eq_getElem?_getD, List.getElem?_eq_getElem (by omega)] at h3
    rw [List.getElem_drop]
    by_cases e : j = 0
    · subst e; exact h3
    · have := hu k (k + j) (by omega) hj' (by omega)
      simp only [Option.getD_some] at h3
      omega
  have hu' : L.Pairwise (· < ·) := List.pairwise_iff_getElem.2 hu
  rw [List.append_assoc, List.pairwise_append]
  refine ⟨hu'.sublist (List.take_sublist _ _), ?_, fun y hy z hz => ?_⟩
  · rw [List.singleton_append, List.pairwise_cons]
    exact ⟨hgt, hu'.sublist (List.drop_sublist _ _)⟩
  · rw [List.singleton_append, List.mem_cons] at hz
    rcases hz with rfl | hz
    · exact hlt y hy
    · have := hlt y hy; have := hgt z hz; omega
theorem mem_ins {L : List Int} {k : Nat} {x y : Int} (h : y ∈ L.take k ++ [x] ++ L.drop k) : y = x ∨ y ∈ L := by
  rw [List.mem_append, List.mem_append, List.mem_singleton] at h
  rcases h with (h | h) | h
  · exact .inr (List.mem_of_mem_take h)
  · exact .inl h
  · exact .inr (List.mem_of_mem_drop h)
/-- A row that is none of nil. -/
def Row3 (w : World) (B : Nat) (v : Value) (xs : List Int) : Prop := v ≠ .slice none 0 0 ∧ Ints w B v xs
theorem Row3.parts {w : World} {B : Nat} {v : Value} {xs : List Int} (h : Row3 w B v xs) : ∃ g c, v = .slice (some ⟨g, 0, none⟩) xs.length c ∧ xs.length ≤ c ∧ c ≤ maxLen ∧ B ≤ g ∧ g < w.heap.size ∧ ∀ j, j < xs.length → w.cell? ⟨g, j, none⟩ = some (.int .i64 (xs.getD j 0)) := by
  obtain ⟨h1, h2⟩ := h
  have h3 := h2
  rcases h2.2 with ⟨rfl, _⟩ | ⟨g, cap, cur, rfl, hB, hg, hc, hm, _⟩
  · exact absurd rfl h1
  · refine ⟨g, cap, rfl, hc, hm, hB, (Array.getElem?_eq_some_iff.1 hg).1, fun j hj => ?_⟩
    rw [World.ownsRow.cellAt h3 j (by omega), List.getElem?_map, List.getElem?_eq_getElem hj, List.getD_eq_getElem?_getD, List.getElem?_eq_getElem hj]; rfl

/-- append(s, ys...) at the model's operation. -/
theorem app_ints {ops : Array Oper} {rest : List Oper} {o : Oper} {a : Act} {Q : Exit → Act → World → Prop} {w : World} {B : Nat} {v : Value} {xs : List Int}
    (hown : Row3 w B v xs) (ys : List Int) (ad : Addr) (c : Nat) (hys : ∀ j, j < ys.length → w.cell? (ad.add j) = some (.int .i64 (ys.getD j 0))) (hlen : xs.length + ys.length ≤ 1000000000) (hB : B ≤ w.heap.size) (hgd : o.guard = none) (s x : Operand)
    (ho : o.op = .call { callee := .builtin .append, args := #[s, x], argTypes := #[23, 23] }) (hs : a.eval s = v) (hx : a.eval x = .slice (some ad) ys.length c)
    (h : ∀ v' w', Row3 w' B v' (xs ++ ys) → Below B w w' → wpList Try.prog ops Q rest (a.put o.dst v') w') : wpList Try.prog ops Q (o :: rest) a w := by
  obtain ⟨i0, hi, hz0, hz1, hz2⟩ := info_parts info3
  refine wpList_append_own w hgd s x 23 ho B 3 i0 (.int .i64 0) 1 8 Try.underlying23 hi hz0 hz1 hz2 rfl (by decide) v xs.length (xs.map (Value.int .i64)) hs hown.2 ad ys.length c (ys.map (Value.int .i64)) hx (by simp) ?_ ?_ ?_ ?_ hB ?_
  · intro j u hu
    rw [List.getElem?_map] at hu
    rcases Nat.lt_or_ge j ys.length with hj | hj
    · rw [List.getElem?_eq_getElem hj] at hu
      simp at hu
      rw [hys j hj, ← hu, List.getD_eq_getElem?_getD, List.getElem?_eq_getElem hj]; rfl
    · rw [List.getElem?_eq_none hj] at hu; simp at hu
  · intro u hu
    rw [List.mem_map] at hu
    obtain ⟨t, _, rfl⟩ := hu; rfl
  · unfold maxLen; omega
  · omega
  · intro v' w' h2 h3 h4
    refine h v' w' ⟨fun e => hown.1 (h4.1 e).1, ?_⟩ ?_
    · unfold Ints; simpa using h2
    · exact (Below.refl B w).grown h3 hB (fun k hk => (World.ownsRow.lt hown.2 k hk).1)

theorem step_app_ints {ops : Array Oper} {o : Oper} {a : Act} {K : Act → World → Prop} {Q : Exit → Act → World → Prop} {E : Prop} {w : World} {B : Nat} {v : Value} {xs : List Int}
    (hgd : o.guard = none) (s x : Operand)
    (ho : o.op = .call { callee := .builtin .append, args := #[s, x], argTypes := #[23, 23] }) (ys : List Int) (m : Nat) (hm : ys.length = m) (ad : Addr) (c : Nat) (hx : a.eval x = .slice (some ad) m c) (hs : a.eval s = v)
    (hown : Row3 w B v xs) (hys : ∀ j, j < ys.length → w.cell? (ad.add j) = some (.int .i64 (ys.getD j 0))) (hlen : xs.length + ys.length ≤ 1000000000) (hB : B ≤ w.heap.size)
    (h : ∀ v' w', Row3 w' B v' (xs ++ ys) → Below B w w' → w.grownBy w' v.ownBlock → K (a.put o.dst v') w') : if Region.wanted o (yielded ops a.tmps) = true then Oper.wp Try.prog o a w K Q else E := by
  have hw : Region.wanted o (yielded ops a.tmps) = true := by simp [Region.wanted, hgd]
  rw [if_pos hw]
  subst hm
  obtain ⟨i0, hi, hz0, hz1, hz2⟩ := info_parts info3
  refine wp_append_own w s x 23 ho B 3 i0 (.int .i64 0) 1 8 Try.underlying23 hi hz0 hz1 hz2 rfl (by decide) v xs.length (xs.map (Value.int .i64)) hs hown.2 ad ys.length c (ys.map (Value.int .i64)) hx (by simp) ?_ ?_ ?_ ?_ hB ?_
  · intro j u hu
    rw [List.getElem?_map] at hu
    rcases Nat.lt_or_ge j ys.length with hj | hj
    · rw [List.getElem?_eq_getElem hj] at hu
      simp at hu
      rw [hys j hj, ← hu, List.getD_eq_getElem?_getD, List.getElem?_eq_getElem hj]; rfl
    · rw [List.getElem?_eq_none hj] at hu; simp at hu
  · intro u hu
    rw [List.mem_map] at hu
    obtain ⟨t, _, rfl⟩ := hu; rfl
  · unfold maxLen; omega
  · omega
  · intro v' w' h2 h3 h4
    refine h v' w' ⟨fun e => hown.1 (h4.1 e).1, ?_⟩ ?_ h3
    · unfold Ints; simpa using h2
    · exact (Below.refl B w).grown h3 hB (fun k hk => (World.ownsRow.lt hown.2 k hk).1)

theorem row_lit (w : World) (B : Nat) (hB : B ≤ w.heap.size) : Row3 (w.alloc (.cells #[] 3)) B (.slice (some ⟨w.heap.size, 0, none⟩) 0 0) [] := ⟨by simp, Ints.lit _ _ hB⟩
theorem row_lit2 (w : World) (u : Obj) (B : Nat) (hB : B ≤ w.heap.size) : Row3 ((w.alloc u).alloc (.cells #[] 3)) B (.slice (some ⟨w.heap.size + 1, 0, none⟩) 0 0) [] := by
  have := row_lit (w.alloc u) B (by simp; omega)
  simpa using this
theorem Row3.alloc {w : World} {B : Nat} {v : Value} {xs : List Int} (h : Row3 w B v xs) (u : Obj) : Row3 (w.alloc u) B v xs := ⟨h.1, World.ownsRow.alloc h.2 u⟩
theorem cellx_new (w : World) (x : Int) : ∀ j, j < [x].length → (w.alloc (.cells #[.int .i64 x] 3)).cell? (Addr.add ⟨w.heap.size, 0, none⟩ j) = some (.int .i64 ([x].getD j 0)) := by
  intro j hj
  simp at hj; subst hj
  show (w.alloc (.cells #[.int .i64 x] 3)).cell? ⟨w.heap.size, 0, none⟩ = _
  rw [World.cell?_alloc_at _ _ _ _ rfl]; rfl
theorem cellx_ii {w w1 : World} {x : Int} {r : Option Nat} {H : Nat} (hg : ((w.alloc (.cells #[] 3)).alloc (.cells #[.int .i64 x] 3)).grownBy w1 r) (hH : H = w.heap.size + 1) (hr : some H ≠ r) :
    ∀ j, j < [x].length → w1.cell? (Addr.add ⟨H, 0, none⟩ j) = some (.int .i64 ([x].getD j 0)) := by
  intro j hj
  simp at hj; subst hj
  show w1.cell? ⟨H, 0, none⟩ = _
  refine hg.cell ?_ hr
  subst hH
  rw [World.cell?_alloc_at _ _ _ _ (by simp)]; rfl
theorem cellx_iii {w w1 : World} {x : Int} {r : Option Nat} {H : Nat} (hg : ((w.alloc (.cells #[.int .i64 x] 3)).alloc (.cells #[] 3)).grownBy w1 r) (hH : H = w.heap.size) (hr : some H ≠ r) :
    ∀ j, j < [x].length → w1.cell? (Addr.add ⟨H, 0, none⟩ j) = some (.int .i64 ([x].getD j 0)) := by
  intro j hj
  simp at hj; subst hj
  show w1.cell? ⟨H, 0, none⟩ = _
  refine hg.cell ?_ hr
  subst hH
  have := cellx_new w x 0 (by simp)
  refine (World.cell?_of_block (w := w.alloc (.cells #[.int .i64 x] 3)) (Below.heap_alloc _ _ _ (by simp))).trans ?_
  exact this
theorem below_alloc2 {B : Nat} {a w : World} (h : Below B a w) (hB : B ≤ a.heap.size) (o : Obj) : Below B a (w.alloc o) := h.alloc (Nat.le_trans hB h.size) o
theorem take_cells {w0 w : World} {g : Nat} {L : List Int} (h : ∀ j, j < L.length → w0.cell? ⟨g, j, none⟩ = some (.int .i64 (L.getD j 0))) (hg : g < w0.heap.size) (hb : Below w0.heap.size w0 w) (k : Nat) :
    ∀ j, j < (L.take k).length → w.cell? (Addr.add ⟨g, 0, none⟩ j) = some (.int .i64 ((L.take k).getD j 0)) := by
  intro j hj
  rw [List.length_take] at hj
  have e : Addr.add ⟨g, 0, none⟩ j = ⟨g, j, none⟩ := by simp [Addr.add]; intro e; exact e.symm
  rw [e, hb.cell (p := ⟨g, j, none⟩) hg, h j (by omega), List.getD_eq_getElem?_getD, List.getD_eq_getElem?_getD, List.getElem?_take, if_pos (by omega)]
theorem drop_cells {w0 w : World} {g : Nat} {L : List Int} (h : ∀ j, j < L.length → w0.cell? ⟨g, j, none⟩ = some (.int .i64 (L.getD j 0))) (hg : g < w0.heap.size) (hb : Below w0.heap.size w0 w) (k : Nat) :
    ∀ j, j < (L.drop k).length → w.cell? (Addr.add ⟨g, k, none⟩ j) = some (.int .i64 ((L.drop k).getD j 0)) := by
  intro j hj
  rw [List.length_drop] at hj
  have e : Addr.add ⟨g, k, none⟩ j = ⟨g, k + j, none⟩ := by simp [Addr.add]
  rw [e, hb.cell (p := ⟨g, k + j, none⟩) hg, h (k + j) (by omega), List.getD_eq_getElem?_getD, List.getD_eq_getElem?_getD, List.getElem?_drop]


theorem sum_diffs (q : List Int) : ∀ k, (diffs q k).sum = q.getD k 0 - q.getD 0 0 := by
  intro k
  induction k with
  | zero => simp [diffs]
  | succ k ih => rw [diffs_snoc, List.sum_append, ih]; simp; omega
theorem diffs_get (q : List Int) (k j : Nat) (h : j < k) : (diffs q k).getD j 0 = q.getD (j + 1) 0 - q.getD j 0 := by
  unfold diffs
  rw [List.getD_eq_getElem?_getD, List.getElem?_map, List.getElem?_range h]; rfl

set_option maxHeartbeats 16000000 in
set_option maxRecDepth 100000 in
theorem walk18 (s0 c0 n0 : Int) (w : World) (hs0 : (Lit.int .u16 s0).wf = true) (hc0 : (Lit.int .u16 c0).wf = true) (hn0 : (Lit.int .u16 n0).wf = true) :
    Calls Try.prog 18 #[.int .u16 s0, .int .u16 c0, .int .u16 n0] w fun e w' => e = .returned (.bool true) ∧ Below w.heap.size w w' := by
  obtain ⟨x, rfl, hx⟩ : ∃ x : Nat, s0 = x ∧ x ≤ 65535 := by have := bounds_u16 hs0; exact ⟨s0.toNat, by omega, by omega⟩
  obtain ⟨y, rfl, hy⟩ : ∃ y : Nat, c0 = y ∧ y ≤ 65535 := by have := bounds_u16 hc0; exact ⟨c0.toNat, by omega, by omega⟩
  obtain ⟨z, rfl, hz⟩ : ∃ z : Nat, n0 = z ∧ z ≤ 65535 := by have := bounds_u16 hn0; exact ⟨n0.toNat, by omega, by omega⟩
  clear hs0 hc0 hn0
  have m1 : (z : Int) % 1000 = ((z % 1000 : Nat) : Int) := by simp
  have m1b : z % 1000 < 1000 := Nat.mod_lt _ (by omega)
  obtain ⟨n, hn⟩ : ∃ n, n = z % 1000 + 1 := ⟨_, rfl⟩
  have m1c : (z : Int) % 1000 + 1 = (n : Int) := by omega
  have hn1 : 1 ≤ n := by omega
  have hn2 : n ≤ 1000 := by omega
  have m1d : (z : Int) % 1000 = (n : Int) - 1 := by omega
  have m2 : (x : Int) % (n : Int) = ((x % n : Nat) : Int) := by simp
  have hs : x % n < n := Nat.mod_lt _ (by omega)
  obtain ⟨s, hs'⟩ : ∃ s, s = x % n := ⟨_, rfl⟩
  rw [← hs'] at m2 hs
  have m3 : (y : Int) % (n : Int) = ((y % n : Nat) : Int) := by simp
  have hc : y % n < n := Nat.mod_lt _ (by omega)
  obtain ⟨c, hc'⟩ : ∃ c, c = y % n + 1 := ⟨_, rfl⟩
  have m3d : (y : Int) % (n : Int) = (c : Int) - 1 := by omega
  have hc1 : 1 ≤ c := by omega
  have hc2 : c ≤ n := by omega
  have hpos : (0 : Int) < n := by omega
  have hpos1 : (1 : Int) ≤ n := by omega
  clear m1 m1b hn m1c m3 hc hc' hs'
  go_enter Try.func18, Try.ntmps18
  go_wp2_with fail
  refine gaps47_head s c n _ hn1 hn2 hs hc1 hc2 _ (fun hz v w1 hown1 hb1 => ?_) (fun _ w1 hb1 => ?_)
  · obtain ⟨a, b, ha, hb, hab1, hab2, hgap⟩ := three_gap (s := s) hn1 hc1 hz
    obtain ⟨Q, hQ⟩ : ∃ Q, Q = diffs (circle s n c) c := ⟨_, rfl⟩
    obtain ⟨C, hC⟩ : ∃ C : Nat → Int, C = fun j => (circle s n c).getD j 0 := ⟨_, rfl⟩
    have hCb := Lib.hid (show ∀ j, j < c + 1 → 0 ≤ C j ∧ C j ≤ n by rw [hC]; exact circle_bd s n c hn1)
    have hC0 := Lib.hid (show C 0 = 0 by rw [hC]; exact circle_first hn1 hc1)
    have hCn := Lib.hid (show C c = n by rw [hC]; exact circle_last s n c)
    have hCQ := Lib.hid (show ∀ j, j < c → Q.getD j 0 = C (j + 1) - C j by rw [hC, hQ]; exact fun j hj => diffs_get _ _ _ hj)
    clear hC
    have hQl : Q.length = c := by rw [hQ, diffs_len]
    rw [← hQ] at hown1 hgap
    obtain ⟨ao, cc, rfl, hr⟩ := hown1.shape
    obtain ⟨gl, rfl, hgl, _, hcell⟩ := hr (fun e => by rw [e] at hQl; simp at hQl; omega)
    rw [hQl] at hcell ⊢
    have hcell' := Lib.hid hcell
    have hgap' := Lib.hid hgap
    have hQl' := Lib.hid hQl
    clear hr hcell hgap hQ hz hQl hown1
    go_wp2_with fail
    refine (lives24 w1).mono ?_
    rintro e w2 ⟨rfl, hb2⟩
    have hgl2 : gl < w2.heap.size := Nat.lt_of_lt_of_le hgl hb2.size
    have hcell2 := Lib.hid (show ∀ j, j < c → w2.cell? ⟨gl, j, none⟩ = some (.int .i64 (Q.getD j 0)) from fun j hj => by rw [hb2.cell (p := ⟨gl, j, none⟩) hgl, hcell'.out j hj])
    have hb12 := below_call hb1 hb2
    clear hcell' hb1 hb2
    go_wp2_with fail
    go_loopw [12, 13, 14, 15] (fun d sm i _ wr => ∃ (j : Nat) (L : List Int), j ≤ c ∧ i = .int .i64 (j : Int) ∧ sm = .int .i64 (C j) ∧ Hid (Up L) ∧ Hid (∀ x ∈ L, x = a ∨ x = b ∨ x = a + b) ∧ Row3 wr w2.heap.size d L ∧ Below w2.heap.size w2 wr) (fun _ _ i _ _ => c - (intOf i).toNat)
    case atStart => exact ⟨0, [], by omega, rfl, by rw [hC0.out], Lib.hid List.Pairwise.nil, Lib.hid (fun x hx => by simp at hx), ⟨by simp, Ints.lit _ _ (Nat.le_refl _)⟩, (Below.refl _ _).alloc (Nat.le_refl _) _⟩
    case round =>
      obtain ⟨j, L, hj, rfl, rfl, hup, hgp, hrow, hbw⟩ := hrel
      obtain ⟨wo, rfl⟩ : ∃ wo : World, wo = wr := ⟨_, rfl⟩
      obtain ⟨gd, cap, rfl, hcap1, hcap2, hgd1, hgd2, hdc⟩ := hrow.parts
      have hl3 := (few3 hup.out hgp.out ha hb).1
      have hl3e := Lib.hid (few3 hup.out hgp.out ha hb).2
      have hdc' := Lib.hid hdc
      have hrow' := Lib.hid hrow
      clear hdc hrow
      by_cases hlt : j < c
      · obtain ⟨P, hP⟩ : ∃ P, P = C j := ⟨_, rfl⟩
        obtain ⟨x, hx⟩ : ∃ x, x = Q.getD j 0 := ⟨_, rfl⟩
        have hxg := Lib.hid (show x = a ∨ x = b ∨ x = a + b from hgap'.out x (by rw [hx, List.getD_eq_getElem?_getD, List.getElem?_eq_getElem (by rw [hQl'.out]; exact hlt)]; exact List.getElem_mem _))
        have hPx := Lib.hid (show C (j + 1) = P + x by rw [hx, hP, hCQ.out j hlt]; omega)
        have hPb := hCb.out j (by omega)
        have hPb2 := hCb.out (j + 1) (by omega)
        rw [hPx.out] at hPb2
        rw [← hP] at hPb ⊢
        obtain ⟨p1, p2⟩ := hPb
        obtain ⟨p3, p4⟩ := hPb2
        have c1 : wo.cell? ⟨gl, j, none⟩ = some (.int .i64 x) := by rw [hbw.cell (p := ⟨gl, j, none⟩) hgl2, hcell2.out j hlt, hx]
        have hglo : gl < wo.heap.size := Nat.lt_of_lt_of_le hgl2 hbw.size
        clear hP hx
        go_wp2_with fail
        go_loopw [15] (fun kk wr => ∃ k : Nat, k ≤ L.length ∧ kk = .int .i64 (k : Int) ∧ Hid (∀ t, t < k → L.getD t 0 < x) ∧ Below wo.heap.size wo wr) (fun kk _ => L.length - (intOf kk).toNat)
        case atStart => exact ⟨0, by omega, rfl, Lib.hid (fun t ht => by omega), Below.refl _ _⟩
        case round =>
          obtain ⟨k, hk, rfl, hkx, hbk⟩ := hrel
          have c1' : wr.cell? ⟨gl, j, none⟩ = some (.int .i64 x) := (hbk.cell (p := ⟨gl, j, none⟩) hglo).trans c1
          by_cases hkl : k < L.length
          · obtain ⟨y, hy⟩ : ∃ y, y = L.getD k 0 := ⟨_, rfl⟩
            have c2 : wr.cell? ⟨gd, k, none⟩ = some (.int .i64 y) := by rw [hbk.cell (p := ⟨gd, k, none⟩) hgd2, hdc'.out k hkl, hy]
            by_cases hyx : y < x
            · have d1 : decide (y < x) = true := by simpa using hyx
              have hkx' := Lib.hid (show ∀ t, t < k + 1 → L.getD t 0 < x from fun t ht => by
                by_cases e : t = k
                · rw [e, ← hy]; exact hyx
                · exact hkx.out t (by omega))
              clear hy hyx hkx
              have dk : decide (k < L.length) = true := by simpa using hkl
              go_wp2
              go_quiet (fail)
              go_wp2
              exact ⟨⟨k + 1, by omega, by go_num, hkx'.out, by first | exact hbk | exact hbk.drew | exact below_drewN hbk _⟩, by simp [intOf]; omega⟩
            · have d1 : decide (y < x) = false := by simpa using hyx
              have hy' := Lib.hid hy
              clear hy
              by_cases hyx2 : y = x
              · have d2 : (y == x) = true := by simpa using hyx2
                have d3 : (y != x) = false := by simpa using hyx2
                have dk : decide (k < L.length) = true := by simpa using hkl
                have dk2 : ((k : Int) == (L.length : Int)) = false := by simp; omega
                have hxy : x ≤ y := by omega
                go_wp2
                go_quiet (fail)
                go_wp2
                go_quiet (fail)
                go_wp2
                go_roundw
                case rel =>
                  exact ⟨j + 1, L, by omega, by go_num, by rw [hPx.out], hup, hgp, ⟨hrow'.out.1, hrow'.out.2.below (below_drewN hbk _)⟩, hbw.trans ((below_drewN hbk _).mono hbw.size)⟩
                case measure => simp [intOf]; omega
              · have d2 : (y == x) = false := by simpa using hyx2
                have d3 : (y != x) = true := by simpa using hyx2
                have dk : decide (k < L.length) = true := by simpa using hkl
                have dk2 : ((k : Int) == (L.length : Int)) = false := by simp; omega
                have hxy : x ≤ y := by omega
                go_wp2
                go_quiet (fail)
                go_wp2
                go_quiet (fail)
                go_wp2_with fail
                have hck : ¬ cap = k := by omega
                have hck2 : ¬ k = cap := by omega
                have hupn := Lib.hid (up_ins (x := x) hup.out hk hkx.out (fun _ => by rw [← hy'.out]; omega))
                have htk : (L.take k).length = k := by rw [List.length_take]; omega
                have hdk : (L.drop k).length = L.length - k := by rw [List.length_drop]
                have hlk : (L.take k).length ≤ 3 := by omega
                have hbo := hbk.size
                have hkc : k ≤ cap := by omega
                have hkc2 : (k : Int) ≤ cap := by omega
                have hglr : gl < wr.heap.size := Nat.lt_of_lt_of_le hglo hbk.size
                have hglr2 : ¬ gl = wr.heap.size := by omega
                have hca : ∀ q, ((wr.drewN q).alloc (.cells #[] 3)).cell? ⟨gl, j, none⟩ = some (.int .i64 x) := fun q => (Below.cell (p := ⟨gl, j, none⟩) (show Below wr.heap.size wr _ from (below_drewN (Below.refl _ _) _).alloc (Nat.le_refl _) _) hglr).trans c1'
                have hmemn := Lib.hid (show ∀ t ∈ L.take k ++ [x] ++ L.drop k, t = a ∨ t = b ∨ t = a + b from fun t ht => by
                  rcases mem_ins ht with rfl | ht
                  · exact hxg.out
                  · exact hgp.out t ht)
                go_region_law (first
                  | (refine step_app_ints rfl (.tmp 97) (.tmp 100) rfl (L.take k) k htk ⟨gd, 0, none⟩ cap rfl (v := .slice (some ⟨_, 0, none⟩) 0 0) rfl (B := wo.heap.size) (xs := []) (by first | exact row_lit _ _ hbo | exact row_lit2 _ _ _ hbo | exact Row3.alloc (row_lit _ _ hbo) _) (take_cells hdc'.out hgd2 (by (repeat (first | with_reducible assumption | (with_reducible refine below_alloc2 ?_ (Nat.le_refl _) _) | (with_reducible refine Below.drew ?_) | (with_reducible refine below_drewN ?_ _)))) k) (by simp; omega) (by simp; omega) ?_; intro v1 w1 hown1 hz1 hk1; have hz1 := Below.trans (show Below wo.heap.size wo _ by (repeat (first | with_reducible assumption | (with_reducible refine below_alloc2 ?_ (Nat.le_refl _) _) | (with_reducible refine Below.drew ?_) | (with_reducible refine below_drewN ?_ _)))) hz1; have hcx1 : w1.cell? ⟨gl, j, none⟩ = some (.int .i64 x) := (Below.cell (p := ⟨gl, j, none⟩) hz1 hglo).trans c1)
                  | (refine step_app_ints rfl (.tmp 101) (.tmp 106) rfl [x] 1 rfl _ 1 rfl (v := v1) rfl (B := wo.heap.size) (by first | exact hown1 | exact Row3.alloc hown1 _) (by first | exact cellx_new _ _ | exact cellx_ii hk1 (by simp) (by simp [Value.ownBlock]) | exact cellx_iii hk1 (by simp) (by simp [Value.ownBlock])) (by simp; omega) (by first | exact hz1.size | (have := hz1.size; simp; omega)) ?_; intro v2 w2' hown2 hz2 _; have hz2 := Below.trans (show Below wo.heap.size wo _ by (repeat (first | with_reducible assumption | (with_reducible refine below_alloc2 ?_ (Nat.le_refl _) _) | (with_reducible refine Below.drew ?_) | (with_reducible refine below_drewN ?_ _)))) hz2)
                  | (refine step_app_ints rfl (.tmp 107) (.tmp 110) rfl (L.drop k) (L.length - k) hdk ⟨gd, k, none⟩ (cap - k) rfl (v := v2) rfl (B := wo.heap.size) hown2 (drop_cells hdc'.out hgd2 (by (repeat (first | with_reducible assumption | (with_reducible refine below_alloc2 ?_ (Nat.le_refl _) _) | (with_reducible refine Below.drew ?_) | (with_reducible refine below_drewN ?_ _)))) k) (by simp; omega) hz2.size ?_; intro v3 w3 hown3 hz3 _; have hz3 := Below.trans hz2 hz3))
                all_goals go_wp2
                all_goals go_roundw
                all_goals first
                  | exact ⟨j + 1, L.take k ++ [x] ++ L.drop k, by omega, by go_num, by rw [hPx.out], hupn, hmemn, ⟨hown3.1, hown3.2.base hbw.size⟩, hbw.trans (hz3.mono hbw.size)⟩
                  | (simp [intOf]; omega)
          · obtain rfl : k = L.length := by omega
            have hupn := Lib.hid (up_ins (x := x) hup.out hk hkx.out (fun h => absurd h hkl))
            by_cases hck : cap = L.length
            · subst hck
              go_wp2
              go_quiet (fail)
              go_wp2
              go_quiet (fail)
              go_wp2_with fail
              have htk : (L.take (L.length)).length = L.length := by simp
              have hdk : (L.drop (L.length)).length = 0 := by simp
              have hlk : (L.take (L.length)).length ≤ 3 := by omega
              have hbo := hbk.size
              have hkc : L.length ≤ L.length := by omega
              have hkc2 : ((L.length : Nat) : Int) ≤ L.length := by omega
              have hglr : gl < wr.heap.size := Nat.lt_of_lt_of_le hglo hbk.size
              have hglr2 : ¬ gl = wr.heap.size := by omega
              have hca : ∀ q, ((wr.drewN q).alloc (.cells #[] 3)).cell? ⟨gl, j, none⟩ = some (.int .i64 x) := fun q => (Below.cell (p := ⟨gl, j, none⟩) (show Below wr.heap.size wr _ from (below_drewN (Below.refl _ _) _).alloc (Nat.le_refl _) _) hglr).trans c1'
              have hmemn := Lib.hid (show ∀ t ∈ L.take (L.length) ++ [x] ++ L.drop (L.length), t = a ∨ t = b ∨ t = a + b from fun t ht => by
                rcases mem_ins ht with rfl | ht
                · exact hxg.out
                · exact hgp.out t ht)
              go_region_law (first
                | (refine step_app_ints rfl (.tmp 97) (.tmp 100) rfl (L.take (L.length)) L.length htk ⟨gd, 0, none⟩ L.length rfl (v := .slice (some ⟨_, 0, none⟩) 0 0) rfl (B := wo.heap.size) (xs := []) (by first | exact row_lit _ _ hbo | exact row_lit2 _ _ _ hbo | exact Row3.alloc (row_lit _ _ hbo) _) (take_cells hdc'.out hgd2 (by (repeat (first | with_reducible assumption | (with_reducible refine below_alloc2 ?_ (Nat.le_refl _) _) | (with_reducible refine Below.drew ?_) | (with_reducible refine below_drewN ?_ _)))) L.length) (by simp; omega) (by simp; omega) ?_; intro v1 w1 hown1 hz1 hk1; have hz1 := Below.trans (show Below wo.heap.size wo _ by (repeat (first | with_reducible assumption | (with_reducible refine below_alloc2 ?_ (Nat.le_refl _) _) | (with_reducible refine Below.drew ?_) | (with_reducible refine below_drewN ?_ _)))) hz1; have hcx1 : w1.cell? ⟨gl, j, none⟩ = some (.int .i64 x) := (Below.cell (p := ⟨gl, j, none⟩) hz1 hglo).trans c1)
                | (refine step_app_ints rfl (.tmp 101) (.tmp 106) rfl [x] 1 rfl _ 1 rfl (v := v1) rfl (B := wo.heap.size) (by first | exact hown1 | exact Row3.alloc hown1 _) (by first | exact cellx_new _ _ | exact cellx_ii hk1 (by simp) (by simp [Value.ownBlock]) | exact cellx_iii hk1 (by simp) (by simp [Value.ownBlock])) (by simp; omega) (by first | exact hz1.size | (have := hz1.size; simp; omega)) ?_; intro v2 w2' hown2 hz2 _; have hz2 := Below.trans (show Below wo.heap.size wo _ by (repeat (first | with_reducible assumption | (with_reducible refine below_alloc2 ?_ (Nat.le_refl _) _) | (with_reducible refine Below.drew ?_) | (with_reducible refine below_drewN ?_ _)))) hz2)
                | (refine step_app_ints rfl (.tmp 107) (.tmp 110) rfl (L.drop (L.length)) (0) hdk ⟨gd, 0, none⟩ (0) rfl (v := v2) rfl (B := wo.heap.size) hown2 (by rw [hdk]; intro t ht; omega) (by simp; omega) hz2.size ?_; intro v3 w3 hown3 hz3 _; have hz3 := Below.trans hz2 hz3))
              all_goals go_wp2
              all_goals go_roundw
              all_goals first
                | exact ⟨j + 1, L.take (L.length) ++ [x] ++ L.drop (L.length), by omega, by go_num, by rw [hPx.out], hupn, hmemn, ⟨hown3.1, hown3.2.base hbw.size⟩, hbw.trans (hz3.mono hbw.size)⟩
                | (simp [intOf]; omega)
            · have hck2 : ¬ L.length = cap := by omega
              go_wp2
              go_quiet (fail)
              go_wp2
              go_quiet (fail)
              go_wp2_with fail
              have htk : (L.take (L.length)).length = L.length := by simp
              have hdk : (L.drop (L.length)).length = 0 := by simp
              have hlk : (L.take (L.length)).length ≤ 3 := by omega
              have hbo := hbk.size
              have hkc : L.length ≤ cap := by omega
              have hkc2 : ((L.length : Nat) : Int) ≤ cap := by omega
              have hglr : gl < wr.heap.size := Nat.lt_of_lt_of_le hglo hbk.size
              have hglr2 : ¬ gl = wr.heap.size := by omega
              have hca : ∀ q, ((wr.drewN q).alloc (.cells #[] 3)).cell? ⟨gl, j, none⟩ = some (.int .i64 x) := fun q => (Below.cell (p := ⟨gl, j, none⟩) (show Below wr.heap.size wr _ from (below_drewN (Below.refl _ _) _).alloc (Nat.le_refl _) _) hglr).trans c1'
              have hmemn := Lib.hid (show ∀ t ∈ L.take (L.length) ++ [x] ++ L.drop (L.length), t = a ∨ t = b ∨ t = a + b from fun t ht => by
                rcases mem_ins ht with rfl | ht
                · exact hxg.out
                · exact hgp.out t ht)
              go_region_law (first
                | (refine step_app_ints rfl (.tmp 97) (.tmp 100) rfl (L.take (L.length)) L.length htk ⟨gd, 0, none⟩ cap rfl (v := .slice (some ⟨_, 0, none⟩) 0 0) rfl (B := wo.heap.size) (xs := []) (by first | exact row_lit _ _ hbo | exact row_lit2 _ _ _ hbo | exact Row3.alloc (row_lit _ _ hbo) _) (take_cells hdc'.out hgd2 (by (repeat (first | with_reducible assumption | (with_reducible refine below_alloc2 ?_ (Nat.le_refl _) _) | (with_reducible refine Below.drew ?_) | (with_reducible refine below_drewN ?_ _)))) L.length) (by simp; omega) (by simp; omega) ?_; intro v1 w1 hown1 hz1 hk1; have hz1 := Below.trans (show Below wo.heap.size wo _ by (repeat (first | with_reducible assumption | (with_reducible refine below_alloc2 ?_ (Nat.le_refl _) _) | (with_reducible refine Below.drew ?_) | (with_reducible refine below_drewN ?_ _)))) hz1; have hcx1 : w1.cell? ⟨gl, j, none⟩ = some (.int .i64 x) := (Below.cell (p := ⟨gl, j, none⟩) hz1 hglo).trans c1)
                | (refine step_app_ints rfl (.tmp 101) (.tmp 106) rfl [x] 1 rfl _ 1 rfl (v := v1) rfl (B := wo.heap.size) (by first | exact hown1 | exact Row3.alloc hown1 _) (by first | exact cellx_new _ _ | exact cellx_ii hk1 (by simp) (by simp [Value.ownBlock]) | exact cellx_iii hk1 (by simp) (by simp [Value.ownBlock])) (by simp; omega) (by first | exact hz1.size | (have := hz1.size; simp; omega)) ?_; intro v2 w2' hown2 hz2 _; have hz2 := Below.trans (show Below wo.heap.size wo _ by (repeat (first | with_reducible assumption | (with_reducible refine below_alloc2 ?_ (Nat.le_refl _) _) | (with_reducible refine Below.drew ?_) | (with_reducible refine below_drewN ?_ _)))) hz2)
                | (refine step_app_ints rfl (.tmp 107) (.tmp 110) rfl (L.drop (L.length)) (0) hdk ⟨gd, L.length, none⟩ (cap - L.length) rfl (v := v2) rfl (B := wo.heap.size) hown2 (by rw [hdk]; intro t ht; omega) (by simp; omega) hz2.size ?_; intro v3 w3 hown3 hz3 _; have hz3 := Below.trans hz2 hz3))
              all_goals go_wp2
              all_goals go_roundw
              all_goals first
                | exact ⟨j + 1, L.take (L.length) ++ [x] ++ L.drop (L.length), by omega, by go_num, by rw [hPx.out], hupn, hmemn, ⟨hown3.1, hown3.2.base hbw.size⟩, hbw.trans (hz3.mono hbw.size)⟩
                | (simp [intOf]; omega)
      · have hjc : j = c := by omega
        have hCj := Lib.hid (show C j = (n : Int) by rw [hjc, hCn.out])
        have hbx := Lib.hid (show ∀ t, t < L.length → 0 < L.getD t 0 ∧ L.getD t 0 ≤ 2000 from fun t ht => by
          have hm : L.getD t 0 ∈ L := by rw [List.getD_eq_getElem?_getD, List.getElem?_eq_getElem ht]; exact List.getElem_mem _
          have := hgp.out _ hm
          omega)
        rw [hCj.out]
        clear hjc
        by_cases hL3 : L.length = 3
        · have c0 := hdc'.out 0 (by omega)
          have c1 := hdc'.out 1 (by omega)
          have c2 := hdc'.out 2 (by omega)
          have b0 := hbx.out 0 (by omega)
          have b1 := hbx.out 1 (by omega)
          have b2 := hbx.out 2 (by omega)
          have hs3 := hl3e.out hL3
          generalize L.getD 0 0 = x0 at c0 b0 hs3
          generalize L.getD 1 0 = x1 at c1 b1 hs3
          generalize L.getD 2 0 = x2 at c2 b2 hs3
          obtain ⟨q0, q1⟩ := b0
          obtain ⟨q2, q3⟩ := b1
          obtain ⟨q4, q5⟩ := b2
          have e1 : IntKind.i64.wrap (x0 + x1) = x0 + x1 := IntWalk.i64_in _ (by omega)
          have e2 : (x0 + x1 == x2) = true := by simpa using hs3
          rw [hL3]
          go_wp2
          go_quiet (fail)
          go_wp2
          go_ret
          exact ⟨rfl, by first | exact below_call hb12 hbw | exact below_call hb12 (below_drewN hbw _)⟩
        · have dl : decide (L.length < 3) = true := by simp; omega
          have dl2 : decide (L.length ≤ 3) = true := by simp; omega
          have dl3 : L.length < 3 := by omega
          have dl4 : decide ((L.length : Int) < 3) = true := by simp; omega
          have dl5 : decide ((L.length : Int) ≤ 3) = true := by simp; omega
          have dl6 : (L.length : Int) < 3 := by omega
          have dl7 : (L.length : Int) ≤ 3 := by omega
          go_wp2
          go_quiet (fail)
          go_wp2
          go_ret
          exact ⟨rfl, by first | exact below_call hb12 hbw | exact below_call hb12 (below_drewN hbw _)⟩
  · go_wp2_with fail
    refine (lives24 w1).mono ?_
    rintro e w2 ⟨rfl, hb2⟩
    go_wp2_with fail
    go_ret
    exact ⟨rfl, below_call hb1 hb2⟩
end Go.Proofs.Ytbcoaiaocfommaa
