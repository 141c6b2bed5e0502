import Derived.Test.YtccmabckmpelcaaSa
namespace Go.Proofs.Ytccmabckmpelcaa
open Go.RowKit

theorem in42_yes (v lo hi : Int) (w : World) (h1 : lo ≤ v) (h2 : v ≤ hi) : Calls Try.prog 42 #[.int .i64 v, .int .i64 lo, .int .i64 hi] w fun e w' => e = .returned (.bool true) ∧ w' = w := by
  go_enter Try.func42, Try.ntmps42
  go_wp2
  go_ret
  exact ⟨rfl, rfl⟩
theorem in42_no (v lo hi : Int) (w : World) (h : v < lo ∨ hi < v) : Calls Try.prog 42 #[.int .i64 v, .int .i64 lo, .int .i64 hi] w fun e w' => e = .returned (.bool false) ∧ w' = w := by
  by_cases h1 : v < lo
  · have h2 : ¬ lo ≤ v := by omega
    go_enter Try.func42, Try.ntmps42
    go_wp2
    go_ret
    exact ⟨rfl, rfl⟩
  · have h2 : lo ≤ v := by omega
    have h3 : ¬ v ≤ hi := by omega
    clear h h1
    go_enter Try.func42, Try.ntmps42
    go_wp2
    go_ret
    exact ⟨rfl, rfl⟩

set_option maxHeartbeats 1000000 in
set_option maxRecDepth 100000 in
theorem gain43 {w : World} {v : Value} {l : List Int} (hv : Reads w v l) (hg : gainB l = true) (x : Int) (hx : 0 ≤ x) :
    Calls Try.prog 43 #[v, .int .i64 x] w fun e w' => e = .returned (.int .i64 (gainTo l x.toNat)) ∧ w' = w := by
  have h20 := (gain_at hg).1
  have hv' := Lib.hid hv
  obtain ⟨ao, c, rfl, _, _⟩ := hv
  obtain ⟨n, hn⟩ : ∃ n, n = l.length := ⟨_, rfl⟩
  rw [← hn] at h20 hv' ⊢
  have hn' := Lib.hid hn
  have hg' := Lib.hid hg
  obtain ⟨X, rfl⟩ : ∃ X : Nat, x = (X : Int) := ⟨x.toNat, by omega⟩
  rw [Int.toNat_natCast]
  clear hn hg hx
  go_enter Try.func43, Try.ntmps43
  go_wp2
  go_loop [5, 6] (fun s i => ∃ k : Nat, k ≤ n ∧ k ≤ X ∧ i = .int .i64 k ∧ s = .int .i64 (gainTo l k)) (fun _ i => n - (intOf i).toNat)
  case atStart => exact ⟨0, Nat.zero_le _, Nat.zero_le _, rfl, by simp [gainTo]⟩
  case round =>
    obtain ⟨k, hk, hkX, rfl, rfl⟩ := hrel
    have bb1 := gainTo_bd hg'.out k
    by_cases hgo : k < n ∧ k < X
    · obtain ⟨h1, h2⟩ := hgo
      obtain ⟨g, o, rfl, hgl, hc⟩ := hv'.out.at hn'.out.symm h1
      have c1 := hc k h1
      obtain ⟨q1, q2, _⟩ := (gain_at hg'.out).2 k (by rw [← hn'.out]; exact h1)
      have hsn := Lib.hid (gainTo_snoc l k (by rw [← hn'.out]; exact h1))
      obtain ⟨Y, hY⟩ : ∃ Y, Y = l.getD k 0 := ⟨_, rfl⟩
      rw [← hY] at c1 q1 q2 hsn
      obtain ⟨G, hG⟩ : ∃ G, G = gainTo l k := ⟨_, rfl⟩
      rw [← hG] at hsn bb1 ⊢
      obtain ⟨q3, q4⟩ := bb1
      clear hc hY hG
      go_wp2
      go_round
      case rel => exact ⟨k + 1, by omega, by omega, by go_num, by rw [hsn.out]⟩
      case measure => simp [intOf]; omega
    · have hst := Lib.hid (show gainTo l X = gainTo l k by
        by_cases e : k < n
        · rw [show X = k by omega]
        · rw [gainTo_full l X (by rw [← hn'.out]; omega), gainTo_full l k (by rw [← hn'.out]; omega)])
      clear bb1
      by_cases h1 : k < n
      · have h2 : ¬ k < X := by omega
        clear hgo
        go_wp2
        go_ret
        exact ⟨ret_i hst.out.symm, rfl⟩
      · clear hgo
        go_wp2
        go_ret
        exact ⟨ret_i hst.out.symm, rfl⟩

set_option maxHeartbeats 1000000 in
set_option maxRecDepth 100000 in
theorem worth21 {w : World} {v u : Value} {gs : List (List Int)} {us : List Int} (hv : ReadsG w v gs) (hu : Reads w u us) (hl : us.length = gs.length) (hok : GOk gs) (hn : NonNeg us) :
    Calls Try.prog 21 #[v, u] w fun e w' => e = .returned (.int .i64 (worthL gs us)) ∧ Below w.heap.size w w' := by
  have hv' := Lib.hid hv
  have hu' := Lib.hid hu
  obtain ⟨ao, c, rfl, _, _⟩ := hv
  obtain ⟨bo, d, rfl, _, _⟩ := hu
  have h9 := hok.1
  obtain ⟨n, hn0⟩ : ∃ n, n = gs.length := ⟨_, rfl⟩
  rw [hl, ← hn0] at hu' ⊢
  rw [← hn0] at hv' h9
  have hgn := Lib.hid hn0
  have hun := Lib.hid hl
  have hok' := Lib.hid hok.2
  have hn' := Lib.hid hn
  clear hn0 hl hok hn
  go_enter Try.func21, Try.ntmps21
  go_wp2
  go_loopw [5, 6] (fun s i wr => ∃ (k : Nat) (sum : Int), k ≤ n ∧ i = .int .i64 k ∧ s = .int .i64 sum ∧ 0 ≤ sum ∧ sum ≤ 20000 * (k : Int) ∧ Hid (worthL gs us = sum + worthL (gs.drop k) (us.drop k)) ∧ Below w.heap.size w wr) (fun _ i _ => n - (intOf i).toNat)
  case atStart => exact ⟨0, 0, Nat.zero_le _, rfl, rfl, by omega, by omega, Lib.hid (by simp), Below.refl _ _⟩
  case round =>
    obtain ⟨k, sum, hk, rfl, rfl, hs0, hs1, hj, hb⟩ := hrel
    by_cases hlt : k < n
    · obtain ⟨g, o, rfl, hg, ro, rc, c1, hrow⟩ := hv'.out.at hgn.out.symm hlt
      obtain ⟨g2, o2, rfl, hg2, hc2⟩ := hu'.out.at (by rw [hun.out, hgn.out]) hlt
      have cc1 := (hb.cell (p := ⟨g, o + k, none⟩) hg).trans c1
      have cc2 := (hb.cell (p := ⟨g2, o2 + k, none⟩) hg2).trans (hc2 k hlt)
      have hd := Lib.hid (drop_consG gs k (by rw [← hgn.out]; exact hlt))
      have hd2 := Lib.hid (drop_cons us k (by rw [hun.out, ← hgn.out]; exact hlt))
      have b1 := Lib.hid (hok'.out k (by rw [← hgn.out]; exact hlt))
      have b2 := hn'.out k (by rw [hun.out, ← hgn.out]; exact hlt)
      have bb := gainTo_bd b1.out (us.getD k 0).toNat
      have hrow' := Lib.hid (hrow.below hb)
      obtain ⟨p, hp⟩ : ∃ p, p = us.getD k 0 := ⟨_, rfl⟩
      obtain ⟨l, hl⟩ : ∃ l, l = gs.getD k [] := ⟨_, rfl⟩
      rw [← hp] at cc2 b2 bb hd2
      rw [← hl] at cc1 b1 bb hrow' hd
      obtain ⟨m, hm⟩ : ∃ m, m = l.length := ⟨_, rfl⟩
      rw [← hm] at cc1 hrow'
      obtain ⟨G, hG⟩ : ∃ G, G = gainTo l p.toNat := ⟨_, rfl⟩
      rw [← hG] at bb
      have hG' := Lib.hid hG
      obtain ⟨bb1, bb2⟩ := bb
      have hcall := Lib.hid (show ∀ q, Calls Try.prog 43 #[.slice ro m rc, .int .i64 p] (wr.drewN q) fun e w' => e = .returned (.int .i64 G) ∧ w' = wr.drewN q from fun q => by
        have hcc := gain43 (hrow'.out.below (below_drewN (Below.refl _ _) q)) b1.out p b2
        rw [← hG] at hcc; exact hcc)
      clear c1 hc2 hp hl hm hG hrow
      go_wp2
      go_quiet ((go_at_call 43; exact Calls.quiet_of_same (hcall.out _)))
      go_wp2
      go_roundw
      case rel => exact ⟨k + 1, sum + G, by omega, by go_num, rfl, by omega, by omega, Lib.hid (by rw [hj.out, hd.out, hd2.out, worthL, hG'.out]; omega), below_drewN hb _⟩
      case measure => simp [intOf]; omega
    · have hf := Lib.hid (show worthL gs us = sum by rw [hj.out, drop_end gs _ (by rw [← hgn.out]; omega)]; simp [worthL])
      go_wp2
      go_ret
      exact ⟨ret_i hf.out.symm, hb⟩

theorem gFrom_of : ∀ (l : List Int) (m : Int), (∀ j, j < l.length → 0 ≤ l.getD j 0 ∧ l.getD j 0 ≤ m ∧ (0 < j → l.getD j 0 ≤ l.getD (j - 1) 0)) → gFrom m l = true := by
  intro l
  induction l with
  | nil => intro m _; rfl
  | cons x r ih =>
    intro m h
    obtain ⟨a, b, _⟩ := h 0 (by simp)
    have a : 0 ≤ x := by simpa using a
    have b : x ≤ m := by simpa using b
    have hr := ih x (fun j hj => by
      obtain ⟨p, _, q⟩ := h (j + 1) (by simpa using hj)
      have q := q (by omega)
      have hall : ∀ j, j < (x :: r).length → (x :: r).getD j 0 ≤ x := by
        intro j
        induction j with
        | zero => intro _; simp
        | succ j ihj =>
          intro hj
          have := ihj (by omega)
          have := (h (j + 1) hj).2.2 (by omega)
          simp only [Nat.add_sub_cancel] at this
          omega
      refine ⟨by simpa using p, by simpa using hall (j + 1) (by simpa using hj), fun h0 => ?_⟩
      obtain ⟨i, rfl⟩ : ∃ i, j = i + 1 := ⟨j - 1, by omega⟩
      simpa using q)
    unfold gFrom
    rw [hr]
    simp [a, b]

theorem gainB_of {l : List Int} (h20 : l.length ≤ 20) (h : ∀ j, j < l.length → 0 ≤ l.getD j 0 ∧ l.getD j 0 ≤ 1000 ∧ (0 < j → l.getD j 0 ≤ l.getD (j - 1) 0)) : gainB l = true := by
  unfold gainB
  rw [gFrom_of l 1000 h]
  simpa using h20
theorem amt_false {l : List Int} {k : Nat} (hk : k < l.length) (h : l.getD k 0 < 0 ∨ 30 < l.getD k 0) : amt l = false := by
  cases e : amt l with
  | false => rfl
  | true => have := amt_at e k hk; omega
theorem amt_of {l : List Int} (h : ∀ j, j < l.length → 0 ≤ l.getD j 0 ∧ l.getD j 0 ≤ 30) : amt l = true := by
  unfold amt
  rw [List.all_eq_true]
  intro x hx
  obtain ⟨j, hj, rfl⟩ := List.mem_iff_getElem.1 hx
  have := h j hj
  rw [List.getD_eq_getElem?_getD, List.getElem?_eq_getElem hj] at this
  simpa using this
theorem allG_false {l : List (List Int)} {k : Nat} (hk : k < l.length) (h : gainB (l.getD k []) = false) : allG l = false := by
  unfold allG
  rw [List.all_eq_false]
  refine ⟨l.getD k [], ?_, by rw [h]; simp⟩
  rw [List.getD_eq_getElem?_getD, List.getElem?_eq_getElem hk]; exact List.getElem_mem _
theorem allG_of {l : List (List Int)} (h : ∀ j, j < l.length → gainB (l.getD j []) = true) : allG l = true := by
  unfold allG
  rw [List.all_eq_true]
  intro x hx
  obtain ⟨j, hj, rfl⟩ := List.mem_iff_getElem.1 hx
  have := h j hj
  rw [List.getD_eq_getElem?_getD, List.getElem?_eq_getElem hj] at this
  exact this

set_option maxHeartbeats 2000000 in
set_option maxRecDepth 100000 in
theorem river18 {w : World} {u v : Value} {fs : List Int} {gs : List (List Int)} (hu : Reads w u fs) (hv : ReadsG w v gs) (_ : fs.length ≤ 1000000) (hl2 : gs.length ≤ 1000000) (hgl : ∀ j, j < gs.length → (gs.getD j []).length ≤ 1000000) :
    Calls Try.prog 18 #[u, v] w fun e w' => e = .returned (.bool (rivB fs gs)) ∧ Below w.heap.size w w' := by
  have hu' := Lib.hid hu
  have hv' := Lib.hid hv
  obtain ⟨ao, c, rfl, _, _⟩ := hu
  obtain ⟨bo, d, rfl, _, _⟩ := hv
  by_cases hfl : fs.length = gs.length
  · obtain ⟨n, hn⟩ : ∃ n, n = gs.length := ⟨_, rfl⟩
    rw [hfl, ← hn] at hu' ⊢
    rw [← hn] at hv' hl2
    have hn' := Lib.hid hn
    have hfl' := Lib.hid hfl
    have hgl' := Lib.hid hgl
    have hneq : ((n : Int) != (n : Int)) = false := by simp
    clear hn hfl hgl
    by_cases hlen : 1 ≤ n ∧ n ≤ 8
    · obtain ⟨h1, h8⟩ := hlen
      have hriv := Lib.hid (show rivB fs gs = (amt fs && allG gs) by
        unfold rivB flowB
        rw [hfl'.out, ← hn'.out]
        simp [h1, h8])
      go_enter Try.func18, Try.ntmps18
      go_wp2_with (first | (go_at_call 42; refine (in42_yes _ _ _ _ (by omega) (by omega)).mono ?_; rintro e w1 ⟨rfl, e1⟩; rw [e1]; clear e1))
      go_loopw [5] (fun i wr => ∃ (k : Nat), k ≤ n ∧ i = .int .i64 k ∧ Hid (∀ j, j < k → (0 ≤ fs.getD j 0 ∧ fs.getD j 0 ≤ 30) ∧ gainB (gs.getD j []) = true) ∧ Below w.heap.size w wr) (fun i _ => n - (intOf i).toNat)
      case atStart => exact ⟨0, Nat.zero_le _, rfl, Lib.hid (fun j hj => by omega), Below.refl _ _⟩
      case round =>
        obtain ⟨k, hk, rfl, hall, hb⟩ := hrel
        obtain ⟨wo, rfl⟩ : ∃ wo : World, wo = wr := ⟨_, rfl⟩
        by_cases hlt : k < n
        · obtain ⟨g, o, rfl, hg, hc⟩ := hu'.out.at (by rw [hfl'.out, hn'.out]) hlt
          obtain ⟨g2, o2, rfl, hg2, ro, rc, c2, hrow⟩ := hv'.out.at hn'.out.symm hlt
          have cc1 := (hb.cell (p := ⟨g, o + k, none⟩) hg).trans (hc k hlt)
          have cc2 := (hb.cell (p := ⟨g2, o2 + k, none⟩) hg2).trans c2
          have hrow' := Lib.hid (hrow.below hb)
          have hm0 := hgl'.out k (by rw [← hn'.out]; exact hlt)
          have hfalse := Lib.hid (show (fs.getD k 0 < 0 ∨ 30 < fs.getD k 0) ∨ gainB (gs.getD k []) = false → false = rivB fs gs from fun h => by
            rw [hriv.out]
            rcases h with h | h
            · rw [amt_false (by rw [hfl'.out, ← hn'.out]; exact hlt) h]; rfl
            · rw [allG_false (by rw [← hn'.out]; exact hlt) h]; simp)
          obtain ⟨x, hx⟩ : ∃ x, x = fs.getD k 0 := ⟨_, rfl⟩
          obtain ⟨l, hl⟩ : ∃ l, l = gs.getD k [] := ⟨_, rfl⟩
          rw [← hx] at cc1 hfalse
          rw [← hl] at cc2 hrow' hm0 hfalse
          obtain ⟨m, hm⟩ : ∃ m, m = l.length := ⟨_, rfl⟩
          rw [← hm] at cc2 hrow' hm0
          have hx' := Lib.hid hx
          have hl' := Lib.hid hl
          have hm' := Lib.hid hm
          clear hc c2 hrow hx hl hm
          by_cases hxr : 0 ≤ x ∧ x ≤ 30
          · obtain ⟨x0, x1⟩ := hxr
            by_cases hm20 : m ≤ 20
            · have d20 : decide (20 < m) = false := by simp; omega
              go_wp2_with (first | (go_at_call 42; refine (in42_yes x 0 30 _ x0 x1).mono ?_; rintro e w1 ⟨rfl, e1⟩; rw [e1]; clear e1))
              go_loopw [6] (fun i wr => ∃ (q : Nat), q ≤ m ∧ i = .int .i64 q ∧ Hid (∀ j, j < q → 0 ≤ l.getD j 0 ∧ l.getD j 0 ≤ 1000 ∧ (0 < j → l.getD j 0 ≤ l.getD (j - 1) 0)) ∧ Below wo.heap.size wo wr) (fun i _ => m - (intOf i).toNat)
              case atStart => exact ⟨0, Nat.zero_le _, rfl, Lib.hid (fun j hj => by omega), Below.refl _ _⟩
              case round =>
                obtain ⟨q, hq, rfl, hin, hbq⟩ := hrel
                have hszo := hb.size
                have dd1 := (hbq.cell (p := ⟨g, o + k, none⟩) (show g < wo.heap.size by omega)).trans cc1
                have dd2 := (hbq.cell (p := ⟨g2, o2 + k, none⟩) (show g2 < wo.heap.size by omega)).trans cc2
                by_cases hqm : q < m
                · obtain ⟨g4, o4, rfl, hg4, hc4⟩ := hrow'.out.at hm'.out.symm hqm
                  have cq := (hbq.cell (p := ⟨g4, o4 + q, none⟩) hg4).trans (hc4 q hqm)
                  have hbad := Lib.hid (show ¬ (0 ≤ l.getD q 0 ∧ l.getD q 0 ≤ 1000 ∧ (0 < q → l.getD q 0 ≤ l.getD (q - 1) 0)) → false = rivB fs gs from fun h => hfalse.out (.inr (by
                    cases e : gainB l with
                    | false => rfl
                    | true =>
                      obtain ⟨a1, a2, a3⟩ := (gain_at e).2 q (by rw [← hm'.out]; exact hqm)
                      exact absurd ⟨a1, a2, fun _ => a3 (q - 1) (by omega)⟩ h)))
                  have hgood := Lib.hid (show (0 ≤ l.getD q 0 ∧ l.getD q 0 ≤ 1000 ∧ (0 < q → l.getD q 0 ≤ l.getD (q - 1) 0)) → ∀ j, j < q + 1 → 0 ≤ l.getD j 0 ∧ l.getD j 0 ≤ 1000 ∧ (0 < j → l.getD j 0 ≤ l.getD (j - 1) 0) from fun h j hj => by
                    by_cases e : j = q
                    · rw [e]; exact h
                    · exact hin.out j (by omega))
                  obtain ⟨y, hy⟩ : ∃ y, y = l.getD q 0 := ⟨_, rfl⟩
                  obtain ⟨y', hy'⟩ : ∃ y, y = l.getD (q - 1) 0 := ⟨_, rfl⟩
                  rw [← hy] at cq
                  rw [← hy, ← hy'] at hbad hgood
                  have cq' : 0 < q → wr.cell? ⟨g4, o4 + (q - 1), none⟩ = some (.int .i64 y') := fun h0 => by rw [hy']; exact (hbq.cell (p := ⟨g4, o4 + (q - 1), none⟩) hg4).trans (hc4 (q - 1) (by omega))
                  clear hc4 hy hy'
                  by_cases hyr : 0 ≤ y ∧ y ≤ 1000
                  · obtain ⟨y0, y1⟩ := hyr
                    have hcall := Lib.hid (show ∀ z, Calls Try.prog 42 #[.int .i64 y, .int .i64 0, .int .i64 1000] (wr.drewN z) fun e w' => e = .returned (.bool true) ∧ w' = wr.drewN z from fun z => in42_yes y 0 1000 _ y0 y1)
                    by_cases hq0 : 0 < q
                    · have cqq := cq' hq0
                      have wa : IntKind.i64.wrap ((q : Int) - 1) = (q : Int) - 1 := IntWalk.i64_in _ (by omega)
                      have wb : 0 ≤ (q : Int) - 1 := by omega
                      have wc : (q : Int) - 1 < m := by omega
                      have wd : ((q : Int) - 1).toNat = q - 1 := by omega
                      by_cases hyy : y' < y
                      · have hr := Lib.hid (hbad.out (fun h => by have := h.2.2 hq0; omega))
                        clear cq' hbad hgood
                        go_wp2
                        go_quiet ((go_at_call 42; exact Calls.quiet_of_same (hcall.out _)))
                        go_wp2
                        go_ret
                        exact ⟨ret_b hr.out, below_drewN (below_call hb hbq) _⟩
                      · have hgd := Lib.hid (hgood.out ⟨y0, y1, fun _ => by omega⟩)
                        clear cq' hbad hgood
                        go_wp2
                        go_quiet ((go_at_call 42; exact Calls.quiet_of_same (hcall.out _)))
                        go_wp2
                        go_roundw
                        case rel => exact ⟨q + 1, by omega, by go_num, hgd, below_drewN hbq _⟩
                        case measure => simp [intOf]; omega
                    · have hgd := Lib.hid (hgood.out ⟨y0, y1, fun h => absurd h hq0⟩)
                      clear cq' hbad hgood
                      go_wp2
                      go_quiet ((go_at_call 42; exact Calls.quiet_of_same (hcall.out _)))
                      go_wp2
                      go_roundw
                      case rel => exact ⟨q + 1, by omega, by go_num, hgd, below_drewN hbq _⟩
                      case measure => simp [intOf]; omega
                  · have hcall := Lib.hid (show ∀ z, Calls Try.prog 42 #[.int .i64 y, .int .i64 0, .int .i64 1000] (wr.drewN z) fun e w' => e = .returned (.bool false) ∧ w' = wr.drewN z from fun z => in42_no y 0 1000 _ (by omega))
                    have hr := Lib.hid (hbad.out (fun h => hyr ⟨h.1, h.2.1⟩))
                    clear cq' hbad hgood hyr
                    go_wp2
                    go_quiet ((go_at_call 42; exact Calls.quiet_of_same (hcall.out _)))
                    go_wp2
                    go_ret
                    exact ⟨ret_b hr.out, below_drewN (below_call hb hbq) _⟩
                · have hgk := Lib.hid (show gainB (gs.getD k []) = true by rw [← hl'.out]; exact gainB_of (by rw [← hm'.out]; exact hm20) (fun j hj => hin.out j (by rw [← hm'.out] at hj; omega)))
                  go_wp2
                  go_roundw
                  case rel => exact ⟨k + 1, by omega, by go_num, Lib.hid (fun j hj => by
                    by_cases e : j = k
                    · rw [e]; exact ⟨by rw [← hx'.out]; exact ⟨x0, x1⟩, hgk.out⟩
                    · exact hall.out j (by omega)), below_call hb hbq⟩
                  case measure => simp [intOf]; omega
            · have d20 : decide (20 < m) = true := by simp; omega
              have hr := Lib.hid (hfalse.out (.inr (by unfold gainB; rw [← hm'.out]; simp [hm20])))
              go_wp2_with (first | (go_at_call 42; refine (in42_yes x 0 30 _ x0 x1).mono ?_; rintro e w1 ⟨rfl, e1⟩; rw [e1]; clear e1))
              go_ret
              exact ⟨ret_b hr.out, hb⟩
          · have hr := Lib.hid (hfalse.out (.inl (by omega)))
            have hno : x < 0 ∨ 30 < x := by omega
            have hno' := Lib.hid hno
            clear hno hxr
            go_wp2_with (first | (go_at_call 42; refine (in42_no x 0 30 _ hno'.out).mono ?_; rintro e w1 ⟨rfl, e1⟩; rw [e1]; clear e1))
            go_ret
            exact ⟨ret_b hr.out, hb⟩
        · have hkn : k = n := by omega
          subst hkn
          have hr := Lib.hid (show true = rivB fs gs by
            rw [hriv.out, amt_of (fun j hj => (hall.out j (by rw [hfl'.out, ← hn'.out] at hj; exact hj)).1), allG_of (fun j hj => (hall.out j (by rw [← hn'.out] at hj; exact hj)).2)]; rfl)
          go_wp2
          go_ret
          exact ⟨ret_b hr.out, hb⟩
    · have hr := Lib.hid (show false = rivB fs gs by
        unfold rivB flowB
        rw [hfl'.out, ← hn'.out]
        by_cases e : 1 ≤ n
        · simp [show ¬ n ≤ 8 by omega]
        · simp [e])
      have hno := Lib.hid (show (n : Int) < 1 ∨ 8 < (n : Int) by omega)
      clear hlen
      go_enter Try.func18, Try.ntmps18
      go_wp2_with (first | (go_at_call 42; refine (in42_no _ _ _ _ hno.out).mono ?_; rintro e w1 ⟨rfl, e1⟩; rw [e1]; clear e1))
      go_ret
      exact ⟨ret_b hr.out, Below.refl _ _⟩
  · have hr := Lib.hid (show false = rivB fs gs by unfold rivB; simp [show ¬ gs.length = fs.length by omega])
    have ht : ((fs.length : Int) != (gs.length : Int)) = true := by simp; omega
    clear hfl
    go_enter Try.func18, Try.ntmps18
    go_wp2
    go_ret
    exact ⟨ret_b hr.out, Below.refl _ _⟩
end Go.Proofs.Ytccmabckmpelcaa
