import Derived.Test.YtccmabckmpelcaaJ
namespace Go.Proofs.Ytccmabckmpelcaa
open Go.RowKit

theorem worthL_bd {gs : List (List Int)} (h : ∀ j, j < gs.length → gainB (gs.getD j []) = true) : ∀ us, 0 ≤ worthL gs us ∧ worthL gs us ≤ 20000 * (gs.length : Int) := by
  induction gs with
  | nil => intro us; cases us <;> simp [worthL]
  | cons g gs ih =>
    intro us
    cases us with
    | nil => simp [worthL]; omega
    | cons u us =>
      have h1 := gainTo_bd (l := g) (by simpa using h 0 (by simp)) u.toNat
      have h2 := ih (fun j hj => by simpa using h (j + 1) (by simpa using hj)) us
      rw [worthL, List.length_cons]
      omega
theorem bestW_bd {gs : List (List Int)} (h : GOk gs) (fs : List Int) : 0 ≤ bestW fs gs ∧ bestW fs gs ≤ 180000 := by
  have := worthL_bd h.2 (bestU fs gs)
  have := h.1
  unfold bestW
  omega
theorem FlowOk.part {fs : List Int} (h : FlowOk fs) (a b : Nat) (hb : b ≤ fs.length) : FlowOk (part fs a b) := by
  have hl := part_len fs a b hb
  refine ⟨by have := h.1; omega, fun j hj => ?_⟩
  rw [hl] at hj
  rw [part_get _ _ _ _ hj]; exact h.2 _ (by omega)
theorem GOk.part {gs : List (List Int)} (h : GOk gs) (a b : Nat) (hb : b ≤ gs.length) : GOk (part gs a b) := by
  have hl := part_len gs a b hb
  refine ⟨by have := h.1; omega, fun j hj => ?_⟩
  rw [hl] at hj
  rw [part_get _ _ _ _ hj]; exact h.2 _ (by omega)

def fillI (xs : List Int) (n : Nat) : List Int := xs ++ List.replicate (n - xs.length) 0
theorem fillI_set (xs : List Int) (n : Nat) (y : Int) (h : xs.length < n) : (fillI xs n).set xs.length y = fillI (xs ++ [y]) n := by
  unfold fillI
  rw [List.set_append_right _ _ (Nat.le_refl _), Nat.sub_self, List.length_append, List.length_singleton]
  obtain ⟨m, hm⟩ : ∃ m, n - xs.length = m + 1 := ⟨n - xs.length - 1, by omega⟩
  rw [hm, show n - (xs.length + 1) = m from by omega, List.replicate_succ, List.set_cons_zero]
  simp
theorem fillI_full (xs : List Int) (n : Nat) (h : n ≤ xs.length) : fillI xs n = xs := by
  unfold fillI; rw [show n - xs.length = 0 from by omega]; simp

/-- The worth of the first `i` places. -/
def sh (fs : List Int) (gs : List (List Int)) (i : Nat) : Int := bestW (part fs 0 i) (part gs 0 i)
def sharesK (fs : List Int) (gs : List (List Int)) (k : Nat) : List Int := (List.range k).map fun i => sh fs gs (i + 1) - sh fs gs i
theorem sharesK_len (fs : List Int) (gs : List (List Int)) (k : Nat) : (sharesK fs gs k).length = k := by unfold sharesK; simp
theorem sharesK_snoc (fs : List Int) (gs : List (List Int)) (k : Nat) : sharesK fs gs (k + 1) = sharesK fs gs k ++ [sh fs gs (k + 1) - sh fs gs k] := by unfold sharesK; rw [List.range_succ]; simp

set_option maxHeartbeats 1000000 in
set_option maxRecDepth 100000 in
theorem shares30_bad {w : World} {u v : Value} {fs : List Int} {gs : List (List Int)} (h : Riv w u v fs gs) (hr : rivB fs gs = false) :
    Calls Try.prog 30 #[u, v] w fun e w' => e = .returned (.tuple #[.slice none 0 0, .int .i64 1]) ∧ Below w.heap.size w w' := by
  have h' := Lib.hid h
  obtain ⟨fo, fc, rfl, _, _⟩ := h.1
  obtain ⟨go, gc, rfl, _, _⟩ := h.2.1
  clear h
  go_enter Try.func30, Try.ntmps30
  go_wp2_with fail
  refine h'.out.river.mono ?_
  rw [rivRes_no hr]
  rintro e w1 ⟨rfl, hb1⟩
  go_wp2_with fail
  go_ret2
  exact ⟨rfl, hb1.alloc hb1.size _⟩

set_option maxHeartbeats 1000000 in
set_option maxRecDepth 100000 in
theorem prices31_bad {w : World} {u v : Value} {fs : List Int} {gs : List (List Int)} (h : Riv w u v fs gs) (hr : rivB fs gs = false) :
    Calls Try.prog 31 #[u, v] w fun e w' => e = .returned (.tuple #[.slice none 0 0, .int .i64 1]) ∧ Below w.heap.size w w' := by
  have h' := Lib.hid h
  obtain ⟨fo, fc, rfl, _, _⟩ := h.1
  obtain ⟨go, gc, rfl, _, _⟩ := h.2.1
  clear h
  go_enter Try.func31, Try.ntmps31
  go_wp2_with fail
  refine h'.out.river.mono ?_
  rw [rivRes_no hr]
  rintro e w1 ⟨rfl, hb1⟩
  go_wp2_with fail
  go_ret2
  exact ⟨rfl, hb1.alloc hb1.size _⟩

set_option maxHeartbeats 2000000 in
set_option maxRecDepth 100000 in
theorem shares30 {w : World} {u v : Value} {fs : List Int} {gs : List (List Int)} (h : Riv w u v fs gs) (hr : rivB fs gs = true) :
    Calls Try.prog 30 #[u, v] w (MadeE w (sharesK fs gs fs.length) 0) := by
  obtain ⟨_, h8, hfl, hfo, hok, _⟩ := rivB_facts hr
  have h' := Lib.hid h
  obtain ⟨fo, fc, rfl, _, _⟩ := h.1
  obtain ⟨go, gc, rfl, _, _⟩ := h.2.1
  obtain ⟨n, hn⟩ : ∃ n, n = fs.length := ⟨_, rfl⟩
  rw [← hn] at h' h8 ⊢
  rw [← hfl, ← hn] at h' ⊢
  clear h
  have hfo' := Lib.hid hfo
  have hok' := Lib.hid hok
  have hfl' := Lib.hid hfl
  have hn' := Lib.hid hn
  clear hfo hok hfl hn
  go_enter Try.func30, Try.ntmps30
  go_wp2_with fail
  refine h'.out.river.mono ?_
  rw [rivRes_yes hr]
  rintro e w1 ⟨rfl, hb1⟩
  obtain ⟨w2, hw2⟩ : ∃ w2, w2 = w1.alloc (.cells #[.slice fo n fc, .slice go n gc] 57) := ⟨_, rfl⟩
  have hb2 : Below w.heap.size w w2 := by rw [hw2]; exact hb1.alloc hb1.size _
  have hs2 := hb2.size
  obtain ⟨b, hbeq⟩ : ∃ b, b = w1.heap.size := ⟨_, rfl⟩
  have cb0 : w2.cell? ⟨b, 0, none⟩ = some (.slice fo n fc) := by rw [hw2, World.cell?_alloc_at (hn := hbeq)]; rfl
  have cb : w2.cell? ⟨b, 1, none⟩ = some (.slice go n gc) := by rw [hw2, World.cell?_alloc_at (hn := hbeq)]; rfl
  have hlt0 : b < w2.heap.size := by rw [hw2]; simp; omega
  have hw2' := Lib.hid hw2
  go_wp2_with (first | (at_make; refine make_row n (by omega) (Nat.le_refl _) rfl _ _ rfl rfl rfl ?_; intro w3 hr3 hb3))
  rw [← hw2] at hr3 hb3
  obtain ⟨g, hg⟩ : ∃ g, g = w1.heap.size + 1 := ⟨_, rfl⟩
  have hg2 : w2.heap.size = g := by rw [hg, hw2]; simp
  rw [← hg, ← hbeq]
  rw [hg2] at hr3 hb3 hlt0
  have hs1 := hb1.size
  have hgw := Lib.hid (show w.heap.size ≤ g by omega)
  clear hg hw2 hbeq
  go_loopw [9, 27] (fun p i wr => ∃ (k : Nat), k ≤ n ∧ i = .int .i64 k ∧ p = .int .i64 (sh fs gs k) ∧ Row wr g g n (fillI (sharesK fs gs k) n) ∧ Below g w2 wr) (fun _ i _ => n - (intOf i).toNat)
  case atStart => exact ⟨0, Nat.zero_le _, rfl, rfl, hr3, hb3⟩
  case round =>
    obtain ⟨k, hk, rfl, rfl, hrow, hb⟩ := hrel
    have hrlt := hrow.lt
    by_cases hlt : k < n
    · have cbb0 : wr.cell? ⟨b, 0, none⟩ = _ := (hb.cell (p := ⟨b, 0, none⟩) hlt0).trans cb0
      have cbb : wr.cell? ⟨b, 1, none⟩ = _ := (hb.cell (p := ⟨b, 1, none⟩) hlt0).trans cb
      have hb3' : Below w2.heap.size w2 wr := by rw [hg2]; exact hb
      have hrv := (h'.out.below hb2).below hb3'
      have hrv1 := Lib.hid hrv.1
      have hrv2 := Lib.hid hrv.2.1
      have hrow' := Lib.hid hrow
      clear hrow hrv
      go_wp2_with fail
      refine (part47 hrv1.out hrv2.out hfl'.out 0 (k + 1) (by omega) (by rw [← hn'.out]; omega)).mono ?_
      rintro e w4 ⟨u', v', rfl, hu', hv', hb4⟩
      have hu1 := Lib.hid hu'
      have hv1 := Lib.hid hv'
      obtain ⟨ua, uc, rfl, _, _⟩ := hu'
      obtain ⟨va, vc, rfl, _, _⟩ := hv'
      go_wp2_with fail
      refine (best44 hu1.out hv1.out (by rw [part_len _ _ _ (by rw [← hn'.out]; omega), part_len _ _ _ (by rw [← hfl'.out, ← hn'.out]; omega)]) (hfo'.out.part _ _ (by rw [← hn'.out]; omega)) (hok'.out.part _ _ (by rw [← hfl'.out, ← hn'.out]; omega))).mono ?_
      rintro e w5 ⟨x, rfl, _, hb5⟩
      have hb45 := hb4.trans (hb5.mono hb4.size)
      have hrow5 := (hrow'.out.below hb45)
      have c1 := hrow5.cell hlt
      have c2 := hrow5.frozen k
      have hB5 : Below g w2 w5 := hb.trans (hb45.mono (by omega))
      have bd1 := bestW_bd (hok'.out.part 0 (k + 1) (by rw [← hfl'.out, ← hn'.out]; omega)) (part fs 0 (k + 1))
      have hset := Lib.hid (fillI_set (sharesK fs gs k) n (sh fs gs (k + 1) - sh fs gs k) (by rw [sharesK_len]; exact hlt))
      have bd2 : 0 ≤ sh fs gs k ∧ sh fs gs k ≤ 180000 := bestW_bd (hok'.out.part 0 k (by rw [← hfl'.out, ← hn'.out]; omega)) (part fs 0 k)
      have hdef := Lib.hid (show sh fs gs (k + 1) = bestW (part fs 0 (k + 1)) (part gs 0 (k + 1)) from rfl)
      obtain ⟨y, hy⟩ : ∃ y, y = bestW (part fs 0 (k + 1)) (part gs 0 (k + 1)) := ⟨_, rfl⟩
      rw [← hy] at bd1 hdef ⊢
      obtain ⟨z, hz⟩ : ∃ z, z = sh fs gs k := ⟨_, rfl⟩
      rw [← hz] at bd2 hset ⊢
      have hz' := Lib.hid hz
      have hrow5' := Lib.hid hrow5
      obtain ⟨bd1, bd3⟩ := bd1
      obtain ⟨bd2, bd4⟩ := bd2
      clear hy hz hrow5
      go_wp2
      go_roundw
      case rel => exact ⟨k + 1, by omega, by go_num, by rw [hdef.out], by
        have := hrow5'.out.set k (y - z)
        rw [sharesK_snoc, ← hz'.out, ← hset.out, sharesK_len, hdef.out]
        exact this, below_set hB5 (Nat.le_refl _)⟩
      case measure => simp [intOf]; omega
    · have hkn : n = k := by omega
      have hkn' := Lib.hid hkn
      clear hkn
      go_wp2
      go_ret2
      refine ⟨_, rfl, ?_, hb2.trans (hb.mono hgw.out)⟩
      have := hrow.ints
      rw [fillI_full _ _ (by rw [sharesK_len, ← hkn'.out]; exact Nat.le_refl _)] at this
      rw [hkn'.out]
      rw [hkn'.out] at this
      exact this.base hgw.out


/-- The prices. -/
def pricesK (fs : List Int) (gs : List (List Int)) (k : Nat) : List Int := (List.range k).map fun i => bestW (grow1 fs i) gs - bestW fs gs
theorem pricesK_len (fs : List Int) (gs : List (List Int)) (k : Nat) : (pricesK fs gs k).length = k := by unfold pricesK; simp
theorem pricesK_snoc (fs : List Int) (gs : List (List Int)) (k : Nat) : pricesK fs gs (k + 1) = pricesK fs gs k ++ [bestW (grow1 fs k) gs - bestW fs gs] := by unfold pricesK; rw [List.range_succ]; simp
theorem FlowOk.grow {fs : List Int} (h : FlowOk fs) {k : Nat} (hl : fs.length ≤ 8) (h30 : ∀ j, j < fs.length → fs.getD j 0 ≤ 30) : FlowOk (grow1 fs k) := by
  refine ⟨by rw [grow1_len]; omega, fun j hj => ?_⟩
  rw [grow1_len] at hj
  by_cases hk : k < fs.length
  · rw [grow1_at _ _ _ hk]
    have a := h.2 j hj
    have b := h30 k hk
    have c := h.2 k hk
    split <;> omega
  · have : grow1 fs k = fs := by unfold grow1; rw [List.set_eq_of_length_le (by omega)]
    rw [this]; exact h.2 j hj

set_option maxHeartbeats 2000000 in
set_option maxRecDepth 100000 in
theorem prices31 {w : World} {u v : Value} {fs : List Int} {gs : List (List Int)} (h : Riv w u v fs gs) (hr : rivB fs gs = true) :
    Calls Try.prog 31 #[u, v] w (MadeE w (pricesK fs gs fs.length) 0) := by
  obtain ⟨_, h8, hfl, hfo, hok, hk30⟩ := rivB_facts hr
  have hk30 := Lib.hid hk30
  have h' := Lib.hid h
  obtain ⟨fo, fc, rfl, _, _⟩ := h.1
  obtain ⟨go, gc, rfl, _, _⟩ := h.2.1
  obtain ⟨n, hn⟩ : ∃ n, n = fs.length := ⟨_, rfl⟩
  rw [← hn] at h' h8 ⊢
  rw [← hfl, ← hn] at h' ⊢
  clear h
  have hfo' := Lib.hid hfo
  have hok' := Lib.hid hok
  have hfl' := Lib.hid hfl
  have hn' := Lib.hid hn
  clear hfo hok hfl hn
  go_enter Try.func31, Try.ntmps31
  go_wp2_with fail
  refine h'.out.river.mono ?_
  rw [rivRes_yes hr]
  rintro e w1 ⟨rfl, hb1⟩
  obtain ⟨w2, hw2⟩ : ∃ w2, w2 = w1.alloc (.cells #[.slice fo n fc, .slice go n gc] 57) := ⟨_, rfl⟩
  have hb2 : Below w.heap.size w w2 := by rw [hw2]; exact hb1.alloc hb1.size _
  have hs2 := hb2.size
  obtain ⟨b, hbeq⟩ : ∃ b, b = w1.heap.size := ⟨_, rfl⟩
  have cb0 : w2.cell? ⟨b, 0, none⟩ = some (.slice fo n fc) := by rw [hw2, World.cell?_alloc_at (hn := hbeq)]; rfl
  have cb : w2.cell? ⟨b, 1, none⟩ = some (.slice go n gc) := by rw [hw2, World.cell?_alloc_at (hn := hbeq)]; rfl
  have hlt0 : b < w2.heap.size := by rw [hw2]; simp; omega
  have hw2' := Lib.hid hw2
  have hrw2 := h'.out.below hb2
  have hrw21 := Lib.hid hrw2.1
  have hrw22 := Lib.hid hrw2.2.1
  clear hrw2
  rw [hw2] at hrw21 hrw22
  go_wp2_with fail
  refine (best44 hrw21.out hrw22.out hfl'.out hfo'.out hok'.out).mono ?_
  rintro e wz ⟨x0, rfl, _, hbz⟩
  rw [← hw2] at hbz
  have hbz2 := below_call hb2 hbz
  have hsz := hbz.size
  go_wp2_with (first | (at_make; refine make_row n (by omega) (Nat.le_refl _) rfl _ _ rfl rfl rfl ?_; intro w3 hr3 hb3))
  obtain ⟨g, hg⟩ : ∃ g, g = wz.heap.size := ⟨_, rfl⟩
  rw [← hg, ← hbeq]
  have cz0 : wz.cell? ⟨b, 0, none⟩ = _ := (hbz.cell (p := ⟨b, 0, none⟩) hlt0).trans cb0
  rw [← hg] at hr3 hb3
  have hgw := Lib.hid (show w.heap.size ≤ g by omega)
  have hgz := Lib.hid hg
  have bd0 := bestW_bd hok'.out fs
  obtain ⟨b0, hb0e⟩ : ∃ y, y = bestW fs gs := ⟨_, rfl⟩
  rw [← hb0e] at bd0 ⊢
  have hb0' := Lib.hid hb0e
  obtain ⟨bd01, bd02⟩ := bd0
  clear hg hw2 hbeq hb0e hrw21 hrw22 hlt0 cb cb0 cz0
  go_loopw [33] (fun i wr => ∃ (k : Nat), k ≤ n ∧ i = .int .i64 k ∧ Row wr g g n (fillI (pricesK fs gs k) n) ∧ Below g wz wr) (fun i _ => n - (intOf i).toNat)
  case atStart => exact ⟨0, Nat.zero_le _, rfl, hr3, hb3⟩
  case round =>
    obtain ⟨k, hk, rfl, hrow, hb⟩ := hrel
    have hrlt := hrow.lt
    by_cases hlt : k < n
    · have hb3' : Below wz.heap.size wz wr := by rw [← hgz.out]; exact hb
      have hrv := (h'.out.below hbz2).below hb3'
      have hrv1 := Lib.hid hrv.1
      have hrv2 := Lib.hid hrv.2.1
      have hrow' := Lib.hid hrow
      clear hrow hrv
      have fk := hfo'.out.2 k (by rw [← hn'.out]; exact hlt)
      go_wp2_with fail
      refine (grown48 hrv1.out k (by rw [← hn'.out]; exact hlt) (by rw [← hn'.out]; omega) fk.1 (by omega)).mono ?_
      rintro e w4 ⟨u', rfl, hu', hb4⟩
      have hu1 := Lib.hid hu'
      obtain ⟨ua, uc, rfl, _, _⟩ := hu'
      go_wp2_with fail
      refine (best44 hu1.out (hrv2.out.below hb4) (by rw [grow1_len]; exact hfl'.out) (FlowOk.grow hfo'.out (by rw [← hn'.out]; exact h8) hk30.out) hok'.out).mono ?_
      rintro e w5 ⟨x, rfl, _, hb5⟩
      have hb45 := hb4.trans (hb5.mono hb4.size)
      have hrow5 := (hrow'.out.below hb45)
      have c1 := hrow5.cell hlt
      have c2 := hrow5.frozen k
      have hB5 : Below g wz w5 := hb.trans (hb45.mono (by omega))
      have bd1 := bestW_bd hok'.out (grow1 fs k)
      have hset := Lib.hid (fillI_set (pricesK fs gs k) n (bestW (grow1 fs k) gs - bestW fs gs) (by rw [pricesK_len]; exact hlt))
      obtain ⟨y, hy⟩ : ∃ y, y = bestW (grow1 fs k) gs := ⟨_, rfl⟩
      rw [← hy] at bd1 hset ⊢
      have hy' := Lib.hid hy
      have hrow5' := Lib.hid hrow5
      obtain ⟨bd1, bd3⟩ := bd1
      clear hy hrow5
      go_wp2
      go_roundw
      case rel => exact ⟨k + 1, by omega, by go_num, by
        have := hrow5'.out.set k (y - b0)
        rw [pricesK_snoc, ← hy'.out, ← hset.out, pricesK_len, ← hb0'.out]
        exact this, below_set hB5 (Nat.le_refl _)⟩
      case measure => simp [intOf]; omega
    · have hkn : n = k := by omega
      have hkn' := Lib.hid hkn
      clear hkn
      go_wp2
      go_ret2
      refine ⟨_, rfl, ?_, hbz2.trans (hb.mono hgw.out)⟩
      have := hrow.ints
      rw [fillI_full _ _ (by rw [pricesK_len, ← hkn'.out]; exact Nat.le_refl _)] at this
      rw [hkn'.out]
      rw [hkn'.out] at this
      exact this.base hgw.out
end Go.Proofs.Ytccmabckmpelcaa
