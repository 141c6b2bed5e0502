import Derived.Test.YtjkbhdlbomcbeaaWd
namespace Go.Proofs.Ytjkbhdlbomcbeaa
open Go.RowKit Go.Shelf Shf

set_option maxRecDepth 100000 in
theorem same25 {w : World} {u v : Value} {xs ys : List Int} (hu : Reads w u xs) (hv : Reads w v ys) (hl : xs.length ≤ 1000000) :
    Calls Try.prog 25 #[u, v] w fun e w' => e = .returned (.bool (sameL xs ys)) ∧ Below w.heap.size w w' := by
  obtain ⟨ao, c, rfl, _, h1⟩ := hu
  obtain ⟨bo, d, rfl, _, h2⟩ := hv
  obtain ⟨n, hn⟩ : ∃ n, n = xs.length := ⟨_, rfl⟩
  obtain ⟨m, hm⟩ : ∃ n, n = ys.length := ⟨_, rfl⟩
  rw [← hn] at hl ⊢
  rw [← hm]
  by_cases hnm : n = m
  · subst hnm
    have hn' := Lib.hid hn
    have hm' := Lib.hid hm
    have h1' := Lib.hid h1
    have h2' := Lib.hid h2
    clear hn hm h1 h2
    go_enter Try.func25, Try.ntmps25
    go_wp2
    go_loopw [5] (fun i wr => ∃ k : Nat, k ≤ n ∧ i = .int .i64 k ∧ Hid (∀ j, j < k → xs.getD j 0 = ys.getD j 0) ∧ Below w.heap.size w wr) (fun i _ => n - (intOf i).toNat)
    case atStart => exact ⟨0, Nat.zero_le _, rfl, Lib.hid (fun j hj => by omega), Below.refl _ _⟩
    case round =>
      obtain ⟨k, hk, rfl, hj, hb⟩ := hrel
      by_cases hlt : k < n
      · have e1 := hn'.out
        have e2 := hm'.out
        obtain ⟨g, o, rfl, hg, hc1⟩ := h1'.out (fun e => by rw [e] at e1; simp at e1; omega)
        obtain ⟨f, p, rfl, hf, hc2⟩ := h2'.out (fun e => by rw [e] at e2; simp at e2; omega)
        have c1 : wr.cell? ⟨g, o + k, none⟩ = some (.int .i64 (xs.getD k 0)) := (hb.cell hg).trans (hc1 k (by omega))
        have c2 : wr.cell? ⟨f, p + k, none⟩ = some (.int .i64 (ys.getD k 0)) := (hb.cell hf).trans (hc2 k (by omega))
        clear hc1 hc2 e1 e2
        obtain ⟨x, hx⟩ : ∃ x, x = xs.getD k 0 := ⟨_, rfl⟩
        obtain ⟨y, hy⟩ : ∃ x, x = ys.getD k 0 := ⟨_, rfl⟩
        rw [← hx] at c1
        rw [← hy] at c2
        have hx' := Lib.hid hx
        have hy' := Lib.hid hy
        clear hx hy
        by_cases hxy : x = y
        · have hxy' := Lib.hid hxy
          have ht : (x != y) = false := by simp [hxy]
          clear hxy
          go_wp2
          go_quiet (fail)
          go_wp2
          go_roundw
          case rel => exact ⟨k + 1, by omega, by go_num, Lib.hid (fun j hjk => by
            by_cases e : j = k
            · rw [e, ← hx'.out, ← hy'.out]; exact hxy'.out
            · exact hj.out j (by omega)), below_drewN hb _⟩
          case measure => simp [intOf]; omega
        · have hxy' := Lib.hid hxy
          have ht : (x != y) = true := by simp [hxy]
          clear hxy
          go_wp2
          go_quiet (fail)
          go_wp2
          go_ret
          exact ⟨ret_b (sameL_at k (by rw [← hx'.out, ← hy'.out]; exact hxy'.out)), below_drewN hb _⟩
      · go_wp2
        go_ret
        exact ⟨ret_b (sameL_all (by rw [← hn'.out, ← hm'.out]) k (by rw [← hn'.out]; omega) hj.out), hb⟩
  · have ht : ((n : Int) != (m : Int)) = true := by simp; omega
    have hz : false = sameL xs ys := sameL_len (by omega)
    have hz' := Lib.hid hz
    clear hz h1 h2 hn hm
    have hnm' := Lib.hid hnm
    clear hnm
    go_enter Try.func25, Try.ntmps25
    go_wp2
    go_ret
    exact ⟨ret_b hz'.out, Below.refl _ _⟩

/-! ## Tables -/
def tab (n : Nat) (F : Nat → Int) : List Int := (List.range n).map F
theorem tab_len (n : Nat) (F : Nat → Int) : (tab n F).length = n := by simp [tab]
theorem tab_get {n : Nat} (F : Nat → Int) {k : Nat} (h : k < n) : (tab n F).getD k 0 = F k := by
  unfold tab
  rw [List.getD_eq_getElem?_getD, List.getElem?_map, List.getElem?_range h]; rfl
theorem tab_congr {n : Nat} {F G : Nat → Int} (h : ∀ t, t < n → F t = G t) : tab n F = tab n G := List.map_congr_left fun t ht => h t (List.mem_range.1 ht)
theorem tab_zero (n : Nat) : List.replicate n (0 : Int) = tab n fun _ => 0 := by
  unfold tab; rw [List.map_const', List.length_range]
theorem tab_set {n : Nat} (F : Nat → Int) (k : Nat) (y : Int) : (tab n F).set k y = tab n fun t => if t = k then y else F t := by
  unfold tab
  refine List.ext_getElem (by simp) fun i h1 h2 => ?_
  simp only [List.length_set, List.length_map, List.length_range] at h1
  rw [List.getElem_set]
  simp only [List.getElem_map, List.getElem_range]
  by_cases e : k = i
  · rw [if_pos e, if_pos e.symm]
  · rw [if_neg e, if_neg (fun h => e h.symm)]
theorem list_tab (xs : List Int) : xs = tab xs.length fun i => xs.getD i 0 := by
  unfold tab
  refine List.ext_getElem (by simp) fun i h1 h2 => ?_
  simp [List.getD_eq_getElem?_getD, h1]
/-- What the jobs need at each time. -/
def loadL (s : Sh) (S : Nat → Int) : List Int := tab 24 fun t => loadAt s S (t : Int)
/-- The first `i` jobs, and of the next one what it needs before `y`. -/
def part (s : Sh) (S : Nat → Int) (i : Nat) (y : Int) (t : Nat) : Int := sm i (fun k => act (s.job k) (S k) (t : Int)) + if S i ≤ (t : Int) ∧ (t : Int) < y then (s.job i).p else 0
theorem part_zero (s : Sh) (S : Nat → Int) (i t : Nat) : part s S i (S i) t = sm i (fun k => act (s.job k) (S k) (t : Int)) := by
  unfold part; rw [if_neg (by omega)]; omega
theorem part_done {s : Sh} {S : Nat → Int} {i t : Nat} {y : Int} (ht : t < 24) (h : y = min (S i + (s.job i).l) 24) : part s S i y t = sm (i + 1) (fun k => act (s.job k) (S k) (t : Int)) := by
  unfold part
  show _ = sm i _ + act (s.job i) (S i) (t : Int)
  unfold act
  by_cases e : S i ≤ (t : Int) ∧ (t : Int) < S i + (s.job i).l
  · rw [if_pos e, if_pos (by omega)]
  · rw [if_neg e, if_neg (by omega)]
theorem part_next (s : Sh) (S : Nat → Int) (i k : Nat) (h : S i ≤ (k : Int)) : (fun t => if t = k then part s S i (k : Int) k + (s.job i).p else part s S i (k : Int) t) = part s S i ((k : Int) + 1) := by
  funext t
  unfold part
  by_cases e : t = k
  · subst e; rw [if_pos rfl, if_neg (by omega), if_pos (by omega)]; omega
  · rw [if_neg e]
    by_cases e2 : S i ≤ (t : Int) ∧ (t : Int) < (k : Int)
    · rw [if_pos e2, if_pos (by omega)]
    · rw [if_neg e2, if_neg (by omega)]
theorem sm_bound {f : Nat → Int} {b : Int} (hb : 0 ≤ b) : ∀ n, (∀ i, i < n → 0 ≤ f i ∧ f i ≤ b) → 0 ≤ sm n f ∧ sm n f ≤ n * b
  | 0, _ => by simp [sm]
  | n + 1, h => by
    have h1 := sm_bound hb n (fun i hi => h i (by omega))
    have h2 := h n (by omega)
    simp only [sm]
    have : ((n + 1 : Nat) : Int) * b = (n : Int) * b + b := by rw [Int.natCast_add, Int.add_mul]; simp
    omega
theorem act_in {j : J} (h : 0 ≤ j.p ∧ j.p ≤ 20) (x t : Int) : 0 ≤ act j x t ∧ act j x t ≤ 20 := by unfold act; split <;> omega
theorem part_in {s : Sh} (hs : Loose s) {S : Nat → Int} {i : Nat} (hi : i < s.n) {y : Int} {t : Nat} : 0 ≤ part s S i y t ∧ part s S i y t ≤ 140 := by
  have h := sm_bound (b := 20) (f := fun k => act (s.job k) (S k) (t : Int)) (by omega) i (fun k hk => act_in (by have := hs.jobs k (by omega); omega) _ _)
  have hj := hs.jobs i hi
  have hn := hs.num
  unfold part
  split <;> omega
set_option maxHeartbeats 4000000 in
set_option maxRecDepth 100000 in
theorem load40 {w : World} {v u : Value} {s : Sh} {os : List (Int × Int)} {xs : List Int} (hs : Loose s) (h : ShV w v s.P s.js os) (hx : Reads w u xs) (hl : xs.length = s.n) (hr : ∀ i, i < s.n → 0 ≤ xs.getD i 0 ∧ xs.getD i 0 ≤ 24) :
    Calls Try.prog 40 #[v, u] w (Made w (loadL s fun i => xs.getD i 0)) := by
  obtain ⟨jv, ov, rfl, rj, ro⟩ := h
  obtain ⟨ja, jc, rfl, hjc, hjat⟩ := rj.at
  obtain ⟨oa, m, oc, rfl⟩ : ∃ a n c, ov = .slice a n c := by obtain ⟨a, c, e, _⟩ := ro; exact ⟨_, _, _, e⟩
  obtain ⟨xa, xc, rfl, hxc⟩ := hx.len
  have h6 := hs.num
  rw [show s.js.length = s.n from rfl] at hjat hjc rj ⊢
  rw [hl] at hx hxc ⊢
  obtain ⟨n, hn⟩ : ∃ n, n = s.n := ⟨_, rfl⟩
  rw [← hn] at hjat hjc h6 rj hx hxc hr hl ⊢
  obtain ⟨S, hS⟩ : ∃ S : Nat → Int, S = fun i => xs.getD i 0 := ⟨_, rfl⟩
  rw [← hS]
  have hxat := Lib.hid (fun (k : Nat) (hk : k < n) => (show ∃ g o, xa = some ⟨g, o, none⟩ ∧ g < w.heap.size ∧ w.cell? ⟨g, o + k, none⟩ = some (.int .i64 (S k)) ∧ 0 ≤ S k ∧ S k ≤ 24 from by
    obtain ⟨g, o, e, hg, h⟩ := hx.at hl hk
    rw [hS]
    exact ⟨g, o, e, hg, h k hk, hr k hk⟩))
  have hn' := Lib.hid hn
  have hjat' := Lib.hid hjat
  have hs' := Lib.hid hs
  have hb0 := Lib.hid (below_alloc1 w (.cells #[.int .i64 s.P, .slice ja n jc, .slice oa m oc] 81))
  have ht0 := Lib.hid (Three.new w (.int .i64 s.P) (.slice ja n jc) (.slice oa m oc) 81)
  have hz0 := Lib.hid (show (w.alloc (.cells #[.int .i64 s.P, .slice ja n jc, .slice oa m oc] 81)).heap.size = w.heap.size + 1 by simp)
  have hz1 := Lib.hid (show w.heap.size < (w.alloc (.cells #[.int .i64 s.P, .slice ja n jc, .slice oa m oc] 81)).heap.size by simp)
  clear hn hjat hs hx hr hl rj ro hS
  go_enter Try.func40, Try.ntmps40
  go_wp2_with (first | (at_make; refine make_row 24 (by omega) (Nat.le_refl _) rfl _ _ rfl rfl rfl ?_; intro w1 hrow hbm; have hT1 := Lib.hid (ht0.out.keep hbm hz1.out); have hB1 := Lib.hid (below_call hb0.out hbm); obtain ⟨⟨z0, z1, z2⟩, -⟩ := hT1.out; have hrow' := Lib.hid hrow; clear hrow hbm))
  rw [tab_zero, hz0.out] at hrow'
  have hrow2 := Lib.hid (show Row w1 (w.heap.size + 1) (w.heap.size + 1) 24 (tab 24 fun t => sm 0 fun k => act (s.job k) (S k) (t : Int)) from hrow')
  have hB1' := Lib.hid hB1.out
  clear hrow' hT1 z0 z1 z2
  go_loopw [13] (fun iv wr => ∃ i : Nat, i ≤ n ∧ iv = .int .i64 i ∧ Hid (Row wr (w.heap.size + 1) (w.heap.size + 1) 24 (tab 24 fun t => sm i fun k => act (s.job k) (S k) (t : Int))) ∧ Hid (Below w.heap.size w wr)) (fun iv _ => n - (intOf iv).toNat)
  case atStart => exact ⟨0, Nat.zero_le _, rfl, hrow2, hB1'⟩
  case round =>
    clear hrow2 hB1' hB1 ht0 hz0 hz1 hb0
    obtain ⟨i, hi, rfl, hrow, hB⟩ := hrel
    obtain ⟨wo, rfl⟩ : ∃ wo : World, wo = wr := ⟨_, rfl⟩
    by_cases hin : i < n
    · obtain ⟨g, rfl, hg, k0, k1, k2, k3⟩ := hjat'.out i hin
      have d0 := (hB.out.cell (p := ⟨g, i * 4, none⟩) hg).trans k0
      have d1 := (hB.out.cell (p := ⟨g, i * 4 + 1, none⟩) hg).trans k1
      have d2 := (hB.out.cell (p := ⟨g, i * 4 + 2, none⟩) hg).trans k2
      have d3 := (hB.out.cell (p := ⟨g, i * 4 + 3, none⟩) hg).trans k3
      have hjb := hs'.out.jobs i (by rw [← hn'.out]; exact hin)
      obtain ⟨⟨f, t, l, p⟩, hjq⟩ : ∃ j, j = s.js.getD i J0 := ⟨_, rfl⟩
      rw [show s.job i = s.js.getD i J0 from rfl] at hjb
      rw [← hjq] at d0 d1 d2 d3 hjb
      simp only at d0 d1 d2 d3 hjb
      have hjq' := Lib.hid (show s.job i = ⟨f, t, l, p⟩ from hjq.symm)
      have hin' : (i : Int) < (n : Int) := by omega
      obtain ⟨gx, ox, rfl, hgx, e0, hS0⟩ := hxat.out i hin
      have c0 := (hB.out.cell (p := ⟨gx, ox + i, none⟩) hgx).trans e0
      obtain ⟨x, hx⟩ : ∃ x : Nat, S i = (x : Int) := ⟨(S i).toNat, by omega⟩
      rw [hx] at c0 hS0
      have hx' := Lib.hid hx
      have hW := Lib.hid (below_alloc1 wo (.cells #[.int .i64 f, .int .i64 t, .int .i64 l, .int .i64 p] 56))
      have hc0 := Lib.hid ((hW.out.cell (p := ⟨gx, ox + i, none⟩) (Nat.lt_of_lt_of_le hgx hB.out.size)).trans c0)
      have hBe := Lib.hid (below_call hB.out hW.out)
      have hrow1 := Lib.hid (hrow.out.below hW.out)
      have hGl := Lib.hid (show w.heap.size + 1 < wo.heap.size from hrow.out.lt.2)
      have hgl := Lib.hid (Nat.lt_of_lt_of_le hgx hB.out.size)
      have hnx := Lib.hid (show gx < w.heap.size from hgx)
      have hq := Lib.hid (show (wo.alloc (.cells #[.int .i64 f, .int .i64 t, .int .i64 l, .int .i64 p] 56)).cell? ⟨wo.heap.size, 2, none⟩ = some (.int .i64 l) ∧ (wo.alloc (.cells #[.int .i64 f, .int .i64 t, .int .i64 l, .int .i64 p] 56)).cell? ⟨wo.heap.size, 3, none⟩ = some (.int .i64 p) from ⟨by simp, by simp⟩)
      obtain ⟨y, hy⟩ : ∃ y : Nat, min ((x : Int) + l) 24 = (y : Int) := ⟨(min ((x : Int) + l) 24).toNat, by omega⟩
      have hy' := Lib.hid hy
      have hmin : (if (24 : Int) < (x : Int) + l then 24 else (x : Int) + l) = (y : Int) := by rw [← hy]; split <;> omega
      have hxy : x ≤ y ∧ y ≤ 24 := by omega
      have c0e := hc0.out
      clear k0 k1 k2 k3 hjq hx e0 hy hg hgx
      go_wp2_with fail
      go_loopw [8] (fun iv wi => ∃ k : Nat, x ≤ k ∧ k ≤ y ∧ iv = .int .i64 k ∧ Hid (Row wi (w.heap.size + 1) (w.heap.size + 1) 24 (tab 24 (part s S i (k : Int)))) ∧ Hid (Below w.heap.size w wi) ∧ Hid (wi.cell? ⟨gx, ox + i, none⟩ = some (.int .i64 x)) ∧ Hid (wi.cell? ⟨wo.heap.size, 2, none⟩ = some (.int .i64 l) ∧ wi.cell? ⟨wo.heap.size, 3, none⟩ = some (.int .i64 p))) (fun iv _ => y - (intOf iv).toNat)
      case atStart =>
        refine ⟨x, Nat.le_refl _, hxy.1, rfl, Lib.hid ?_, hBe, hc0, hq⟩
        have h := hrow1.out
        rw [tab_congr (G := part s S i (x : Int)) (fun t _ => by rw [← hx'.out, part_zero])] at h
        exact h
      case round =>
        clear hrow hB hrow1 hBe hc0 hq c0 c0e d0 d1 d2 d3
        obtain ⟨k, hk1, hk2, rfl, hrow, hB, c0, hq⟩ := hrel
        obtain ⟨wi, rfl⟩ : ∃ wi : World, wi = wr := ⟨_, rfl⟩
        have c0 := c0.out
        obtain ⟨q2, q3⟩ := hq.out
        by_cases hky : k < y
        · have hk24 : k < 24 := by omega
          have hrc := hrow.out.cell hk24
          have hfz := hrow.out.frozen k
          rw [tab_get _ hk24] at hrc
          have hpin := part_in hs'.out (S := S) (i := i) (by rw [← hn'.out]; exact hin) (y := (k : Int)) (t := k)
          obtain ⟨z, hz⟩ : ∃ z, z = part s S i (k : Int) k := ⟨_, rfl⟩
          rw [← hz] at hrc hpin
          have hz' := Lib.hid hz
          clear hz
          have hkI : (k : Int) < 24 := by omega
          go_wp2_with fail
          go_quiet (fail)
          obtain ⟨wq, hwq⟩ : ∃ wq, wq = wi.drewN nq := ⟨_, rfl⟩
          rw [← hwq]
          have hqc : ∀ p, wq.cell? p = wi.cell? p := fun p => by rw [hwq]; exact (below_drewN (Below.refl (p.block + 1) wi) nq).cell (Nat.lt_succ_self _)
          have hqf : ∀ p, wq.frozen? p = wi.frozen? p := fun p => by rw [hwq]; exact (below_drewN (Below.refl (p.block + 1) wi) nq).frozen (Nat.lt_succ_self _)
          have hqB := Lib.hid (show Below wi.heap.size wi wq by rw [hwq]; exact below_drewN (Below.refl _ wi) nq)
          have m1 := (hqc ⟨w.heap.size + 1, k, none⟩).trans hrc
          have m2 := (hqc ⟨wo.heap.size, 2, none⟩).trans q2
          have m3 := (hqc ⟨wo.heap.size, 3, none⟩).trans q3
          have m4 := (hqf ⟨w.heap.size + 1, k, none⟩).trans hfz
          have hrw := Lib.hid ((hrow.out).below hqB.out)
          have hBq := Lib.hid (hB.out.trans (hqB.out.mono hB.out.size))
          have m5 := Lib.hid ((hqc ⟨gx, ox + i, none⟩).trans c0)
          have hnew := Lib.hid (show Row ((wq.setCell ⟨w.heap.size + 1, k, none⟩ (.int .i64 (z + p))).drew) (w.heap.size + 1) (w.heap.size + 1) 24 (tab 24 (part s S i ((k + 1 : Nat) : Int))) from by
            have h := hrw.out.set k (part s S i (k : Int) k + (s.job i).p)
            rw [tab_set, part_next s S i k (by rw [hx'.out]; omega)] at h
            rw [hz'.out, show p = (s.job i).p by rw [hjq'.out]]
            exact h)
          have hBn := Lib.hid ((below_set (k := k) (u := .int .i64 (z + p)) hBq.out (Nat.le_succ w.heap.size)).drew)
          have m6 := Lib.hid (show ((wq.setCell ⟨w.heap.size + 1, k, none⟩ (.int .i64 (z + p))).drew).cell? ⟨gx, ox + i, none⟩ = some (.int .i64 x) from (World.cell?_setCell_other _ _ _ _ (by have := hnx.out; simp <;> omega)).trans m5.out)
          have m7 := Lib.hid (show ((wq.setCell ⟨w.heap.size + 1, k, none⟩ (.int .i64 (z + p))).drew).cell? ⟨wo.heap.size, 2, none⟩ = some (.int .i64 l) ∧ ((wq.setCell ⟨w.heap.size + 1, k, none⟩ (.int .i64 (z + p))).drew).cell? ⟨wo.heap.size, 3, none⟩ = some (.int .i64 p) from
            ⟨(World.cell?_setCell_other _ _ _ _ (by have := hGl.out; simp <;> omega)).trans m2, (World.cell?_setCell_other _ _ _ _ (by have := hGl.out; simp <;> omega)).trans m3⟩)
          clear hqc hqf hwq hrc q2 q3 hfz c0
          go_wp2_with fail
          refine wp_region_still_tail 8 (by kernel_rfl) (by kernel_rfl) ?_
          simp only [List.take_succ_cons, List.take_zero, List.drop_succ_cons, List.drop_zero]
          iterate 8 still_step
          refine wpStill_nil ?_
          go_wp2_with fail
          exact ⟨⟨k + 1, by omega, by omega, by go_num, hnew, hBn, m6, m7⟩, by simp [intOf]; omega⟩
        · obtain rfl : k = y := by omega
          go_wp2_with fail
          go_quiet (fail)
          go_wp2_with fail
          have hd := Lib.hid (show Row (wi.drewN nq) (w.heap.size + 1) (w.heap.size + 1) 24 (tab 24 fun t => sm (i + 1) fun k => act (s.job k) (S k) (t : Int)) from by
            have h := hrow.out.below (below_drewN (Below.refl _ wi) nq)
            rw [tab_congr (G := fun t => sm (i + 1) fun k => act (s.job k) (S k) (t : Int)) (fun t ht => part_done ht (by rw [hx'.out, hjq'.out]; exact hy'.out.symm))] at h
            exact h)
          exact ⟨⟨i + 1, by omega, by go_num, hd, Lib.hid (below_drewN hB.out nq)⟩, by simp [intOf]; omega⟩
    · obtain rfl : i = n := by omega
      go_wp2_with fail
      go_ret
      have h := (hrow.out.ints).base (Nat.le_succ _)
      rw [hn'.out] at h
      exact ⟨_, rfl, h, hB.out⟩
end Go.Proofs.Ytjkbhdlbomcbeaa
