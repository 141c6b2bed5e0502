import Derived.Test.YtpcjigdmfchbdaaDoorQ
namespace Go.Proofs.YtpcjigdmfchbdaaDoor
open Go.RowKit Go.Shelf Cl

theorem id78 {w : World} {S : Nat} : Calls Tryd.prog 78 #[.int .u64 (S : Int)] w (NumEnd w S) := by
  go_enter Tryd.func78, Tryd.ntmps78
  go_wp2
  go_ret
  exact ⟨rfl, Below.refl _ _⟩
set_option maxRecDepth 100000 in
set_option maxHeartbeats 1000000 in
theorem semi58 {w : World} (hT : Tab w) {n b : Nat} {L : Atts} (hD : OkD n L) {S : Nat} (hS : S < 4096) (hd : DAt w b n L) :
    Calls Tryd.prog 58 #[.int .u64 (S : Int), .pointer (some ⟨b, 0, none⟩)] w (NumEnd w (S ||| hit L S)) := by
  have hd0 := Lib.hid hd
  have hu := Lib.hid (attacked59 hT hD hS)
  have hor := or_any hS (hD.hlt S)
  clear hT hD hS hd
  generalize hit L S = H at hu hor ⊢
  go_enter Tryd.func58, Tryd.ntmps58
  go_wp2_with (first
    | (refine wl74 rfl _ rfl rfl hd0.out ?_)
    | (go_at_call 59; refine (hu.out).mono ?_; rintro e w1 ⟨rfl, hb⟩; have hb' := Lib.hid hb; clear hb))
  go_ret
  exact ⟨rfl, hb'.out⟩
theorem getD_lt {xs : List Nat} (h : ∀ x ∈ xs, x < 4096) (j : Nat) : xs.getD j 0 < 4096 := by
  rw [List.getD_eq_getElem?_getD]
  cases e : xs[j]? with
  | none => decide
  | some y => exact h y (List.mem_of_getElem? e)
theorem take_snoc (xs : List Nat) (k : Nat) (hk : k < xs.length) : xs.take (k + 1) = xs.take k ++ [xs.getD k 0] := by
  rw [List.take_succ_eq_append_getElem hk, List.getD_eq_getElem?_getD, List.getElem?_eq_getElem hk]; rfl
theorem take_map_snoc (m : Nat → Nat) (xs : List Nat) (k : Nat) (hk : k < xs.length) : (xs.take (k + 1)).map m = (xs.take k).map m ++ [m (xs.getD k 0)] := by
  rw [take_snoc xs k hk, List.map_append]; rfl
theorem map_at (m : Nat → Nat) (xs : List Nat) (k : Nat) (hk : k < xs.length) : (xs.map m).getD k 0 = m (xs.getD k 0) := by
  rw [List.getD_eq_getElem?_getD, List.getD_eq_getElem?_getD, List.getElem?_map, List.getElem?_eq_getElem hk]; rfl
theorem filter_snoc (q : Nat → Bool) (xs : List Nat) (k : Nat) (hk : k < xs.length) : (xs.take (k + 1)).filter q = (xs.take k).filter q ++ if q (xs.getD k 0) then [xs.getD k 0] else [] := by
  rw [take_snoc xs k hk, List.filter_append]
  congr 1
  generalize xs.getD k 0 = y
  cases e : q y <;> simp [e]
theorem grt_any (xs : List Nat) (m : Nat → Nat) : grt xs m = xs.filter fun s => !((xs.map m).any (abv (m s))) := by
  unfold grt abv
  congr 1
  funext s
  rw [List.any_map]; rfl

set_option maxRecDepth 100000 in
set_option maxHeartbeats 4000000 in
theorem greatest60i {w : World} {B : Nat} {v : Value} {xs : List Nat} {m : Nat → Nat} (hx : OwnU w B v xs) (hxs : ∀ x ∈ xs, x < 4096) (hms : ∀ x, x < 4096 → m x < 4096) (hl : xs.length ≤ 4096)
    (hk : ∀ (W : World) (S : Nat), S < 4096 → Below w.heap.size w W → Calls Tryd.prog 78 #[.int .u64 (S : Int)] W (NumEnd W (m S))) :
    Calls Tryd.prog 60 #[v, .func (.func 78) #[] #[]] w (SetsEnd w (grt xs m)) := by
  have hk' := Lib.hid hk
  have hx' := Lib.hid hx
  have hms' := Lib.hid hms
  have hxs' := Lib.hid (getD_lt hxs)
  have hmx' := Lib.hid (show ∀ j, (xs.map m).getD j 0 < 4096 from getD_lt fun y hy => by
    obtain ⟨x, hx, rfl⟩ := List.mem_map.1 hy
    exact hms x (hxs x hx))
  rw [grt_any]
  obtain ⟨q, hq⟩ : ∃ q : Nat → Bool, q = fun s => !((xs.map m).any (abv (m s))) := ⟨_, rfl⟩
  have hq' := Lib.hid (show ∀ s, q s = !((xs.map m).any (abv (m s))) from fun s => by rw [hq])
  rw [← hq]
  obtain ⟨ao, c, rfl, hcl⟩ := hx.len
  obtain ⟨N, hN⟩ : ∃ N, N = xs.length := ⟨_, rfl⟩
  have hN' := Lib.hid hN
  rw [← hN] at hl hx' ⊢
  clear hk hx hxs hms hcl hN hq
  go_enter Tryd.func60, Tryd.ntmps60
  go_wp2_with fail
  go_loopw [5, 14] (fun v5 p wr => ∃ k : Nat, k ≤ N ∧ p = .int .i64 (k : Int) ∧ Hid (OwnU wr w.heap.size v5 ((xs.take k).map m)) ∧ Hid (Below w.heap.size w wr)) (fun _ p _ => N - (intOf p).toNat)
  case atStart => exact ⟨0, Nat.zero_le _, rfl, Lib.hid (OwnU.nil _ _), Lib.hid (Below.refl _ _)⟩
  case round =>
    obtain ⟨k, hk2, rfl, ho, hb⟩ := hrel
    by_cases hlt : k < N
    · obtain ⟨g2, cap, e1, _, hg2, hcell⟩ := hx'.out.parts (fun e => by have := hN'.out; rw [e] at this; simp at this; omega)
      have ck := (hb.out.cell (p := ⟨g2, k, none⟩) hg2).trans (hcell k (by rw [← hN'.out]; exact hlt))
      obtain ⟨rfl, rfl⟩ : ao = some ⟨g2, 0, none⟩ ∧ c = cap := by injection e1 with a _ b; exact ⟨a, b⟩
      have hc := Lib.hid (hk'.out wr _ (hxs'.out k) hb.out)
      have hnx := Lib.hid (take_map_snoc m xs k (by rw [← hN'.out]; exact hlt))
      have hlen := Lib.hid (show ((xs.take k).map m).length ≤ 999999 by rw [List.length_map, List.length_take]; omega)
      have hi1 : (k : Int) < N := by omega
      generalize xs.getD k 0 = y at ck hc hnx
      clear hcell e1
      go_wp2_with (first
        | (go_at_call 78; refine (hc.out).mono ?_; rintro e w2 ⟨rfl, hb2⟩; have hb2' := Lib.hid hb2; clear hb2)
        | (at_builtin; refine app_set (ho.out.below hb2'.out) hlen.out (Nat.le_trans hb.out.size hb2'.out.size) rfl _ _ rfl rfl rfl ?_; intro v' w3 h1 h2 _ _ _; have h1q := Lib.hid h1; have h2q := Lib.hid h2; clear h1 h2))
      go_roundw
      case rel => exact ⟨k + 1, by omega, by go_num, Lib.hid (by rw [hnx.out]; exact h1q.out), Lib.hid ((below_call hb.out hb2'.out).trans h2q.out)⟩
      case measure => simp [intOf]; omega
    · obtain rfl : k = N := by omega
      have hO := Lib.hid (show OwnU wr w.heap.size u5 (xs.map m) from by have := ho.out; rw [List.take_of_length_le (by rw [← hN'.out]; exact Nat.le_refl _)] at this; exact this)
      obtain ⟨mo, mc, hu5, -⟩ := hO.out.len
      rw [List.length_map, ← hN'.out] at hu5
      rw [hu5] at hO
      have hmB := Lib.hid (show ∀ g, (Value.slice mo k mc).ownBlock = some g → g < wr.heap.size from fun g hg => (World.ownsRow.lt hO.out g hg).2)
      have hb1 := Lib.hid hb.out.size
      rw [hu5]
      clear hu5 ho
      obtain ⟨wz, hwz⟩ : ∃ wz, wz = wr := ⟨_, rfl⟩
      subst hwz
      go_wp2_with fail
      go_loopw [6, 27] (fun v6 p wr => ∃ j : Nat, j ≤ k ∧ p = .int .i64 (j : Int) ∧ Hid (OwnU wr wz.heap.size v6 ((xs.take j).filter q)) ∧ Hid (Below wz.heap.size wz wr)) (fun _ p _ => k - (intOf p).toNat)
      case atStart => exact ⟨0, Nat.zero_le _, rfl, Lib.hid (OwnU.nil _ _), Lib.hid (Below.refl _ _)⟩
      case round =>
        obtain ⟨j, hj2, rfl, ho6, hbq⟩ := hrel
        by_cases hjt : j < k
        · obtain ⟨g2, cap, e1, _, hg2, hcell⟩ := hx'.out.parts (fun e => by have := hN'.out; rw [e] at this; simp at this; omega)
          have ck := ((hb.out.trans (hbq.out.mono hb1.out)).cell (p := ⟨g2, j, none⟩) hg2).trans (hcell j (by rw [← hN'.out]; exact hjt))
          obtain ⟨rfl, rfl⟩ : ao = some ⟨g2, 0, none⟩ ∧ c = cap := by injection e1 with a _ b; exact ⟨a, b⟩
          obtain ⟨g3, cap3, e3, _, hg3, hcell3⟩ := hO.out.parts (fun e => by have := hN'.out; have h2 := congrArg List.length e; rw [List.length_map, ← this] at h2; simp at h2; omega)
          rw [List.length_map, ← hN'.out] at e3
          have cm := (hbq.out.cell (p := ⟨g3, j, none⟩) hg3).trans (hcell3 j (by rw [List.length_map, ← hN'.out]; exact hjt))
          rw [map_at m xs j (by rw [← hN'.out]; exact hjt)] at cm
          obtain ⟨rfl, rfl⟩ : mo = some ⟨g3, 0, none⟩ ∧ mc = cap3 := by injection e3 with a _ b; exact ⟨a, b⟩
          have hO2 := Lib.hid (hO.out.below hbq.out)
          have hmj := hms'.out _ (hxs'.out j)
          have hc := Lib.hid (fun (W : World) (g : Nat) (hW : Below wr.heap.size wr W) (hcg : W.cell? ⟨g, 0, none⟩ = some (.int .u64 (m (xs.getD j 0) : Int))) => contains82 (hO2.out.below hW) hmx'.out hmj (by rw [List.length_map, ← hN'.out]; exact hl) hcg)
          have hnx := Lib.hid (filter_snoc q xs j (by rw [← hN'.out]; exact hjt))
          have hlen := Lib.hid (show ((xs.take j).filter q).length ≤ 999999 by
            have := List.length_filter_le q (xs.take j)
            rw [List.length_take] at this; omega)
          have hi1 : (j : Int) < k := by omega
          have hg2' := Lib.hid (Nat.lt_of_lt_of_le hg2 (Nat.le_trans hb1.out hbq.out.size))
          have hqj := hq'.out (xs.getD j 0)
          generalize hA : (xs.map m).any (abv (m (xs.getD j 0))) = A at hqj
          simp only [hA] at hc
          clear hA hcell e1 hcell3 e3 hmj hg2 hg3
          generalize xs.getD j 0 = y at ck hc hnx hqj cm
          have ck2 := ((below_alloc1 wr (.cells #[.int .u64 (m y : Int)] 71)).cell (p := ⟨g2, j, none⟩) hg2'.out).trans ck
          cases A
          · rw [hqj] at hnx
            have hfin := Lib.hid (show (xs.take (j + 1)).filter q = (xs.take j).filter q ++ [y] by rw [hnx.out]; rfl)
            clear hnx hqj
            go_wp2_with (first
              | (go_at_call 82; refine (hc.out _ _ (below_alloc1 _ _) (cell_new_e _ _ _).1).mono ?_; rintro e w2 ⟨rfl, rfl⟩)
              | (at_builtin; refine app_set (ho6.out.below (below_alloc1 _ _)) hlen.out (by have h9 := hbq.out.size; rw [World.size_alloc]; omega) rfl _ _ rfl rfl (by rw [World.size_alloc]; rfl) ?_; intro v' w3 h1 h2 _ _ _; have h1q := Lib.hid h1; have h2q := Lib.hid h2; clear h1 h2))
            go_roundw
            case rel => exact ⟨j + 1, by omega, by go_num, Lib.hid (by rw [hfin.out]; exact h1q.out), Lib.hid ((below_call hbq.out (below_alloc1 _ _)).trans h2q.out)⟩
            case measure => simp [intOf]; omega
          · rw [hqj] at hnx
            have hfin := Lib.hid (show (xs.take (j + 1)).filter q = (xs.take j).filter q by rw [hnx.out]; simp)
            clear hnx hqj
            go_wp2_with (first
              | (go_at_call 82; refine (hc.out _ _ (below_alloc1 _ _) (cell_new_e _ _ _).1).mono ?_; rintro e w2 ⟨rfl, rfl⟩))
            go_roundw
            case rel => exact ⟨j + 1, by omega, by go_num, Lib.hid (by rw [hfin.out]; exact ho6.out.below (below_alloc1 _ _)), Lib.hid (below_call hbq.out (below_alloc1 _ _))⟩
            case measure => simp [intOf]; omega
        · obtain rfl : j = k := by omega
          have hO6 := Lib.hid (show OwnU wr w.heap.size u6 (xs.filter q) from by have := ho6.out; rw [List.take_of_length_le (by rw [← hN'.out]; exact Nat.le_refl _)] at this; exact this.base hb1.out)
          clear ho6
          go_wp2
          go_ret
          exact ⟨_, rfl, hO6.out, hb.out.trans (hbq.out.mono hb1.out)⟩
set_option maxRecDepth 100000 in
set_option maxHeartbeats 4000000 in
theorem greatest60s {w : World} {B : Nat} {v : Value} {xs : List Nat} {m : Nat → Nat} (hx : OwnU w B v xs) (hxs : ∀ x ∈ xs, x < 4096) (hms : ∀ x, x < 4096 → m x < 4096) (hl : xs.length ≤ 4096) {b : Nat}
    (hk : ∀ (W : World) (S : Nat), S < 4096 → Below w.heap.size w W → Calls Tryd.prog 58 #[.int .u64 (S : Int), .pointer (some ⟨b, 0, none⟩)] W (NumEnd W (m S))) :
    Calls Tryd.prog 60 #[v, .func (.func 58) #[] #[.pointer (some ⟨b, 0, none⟩)]] w (SetsEnd w (grt xs m)) := by
  have hk' := Lib.hid hk
  have hx' := Lib.hid hx
  have hms' := Lib.hid hms
  have hxs' := Lib.hid (getD_lt hxs)
  have hmx' := Lib.hid (show ∀ j, (xs.map m).getD j 0 < 4096 from getD_lt fun y hy => by
    obtain ⟨x, hx, rfl⟩ := List.mem_map.1 hy
    exact hms x (hxs x hx))
  rw [grt_any]
  obtain ⟨q, hq⟩ : ∃ q : Nat → Bool, q = fun s => !((xs.map m).any (abv (m s))) := ⟨_, rfl⟩
  have hq' := Lib.hid (show ∀ s, q s = !((xs.map m).any (abv (m s))) from fun s => by rw [hq])
  rw [← hq]
  obtain ⟨ao, c, rfl, hcl⟩ := hx.len
  obtain ⟨N, hN⟩ : ∃ N, N = xs.length := ⟨_, rfl⟩
  have hN' := Lib.hid hN
  rw [← hN] at hl hx' ⊢
  clear hk hx hxs hms hcl hN hq
  go_enter Tryd.func60, Tryd.ntmps60
  go_wp2_with fail
  go_loopw [5, 14] (fun v5 p wr => ∃ k : Nat, k ≤ N ∧ p = .int .i64 (k : Int) ∧ Hid (OwnU wr w.heap.size v5 ((xs.take k).map m)) ∧ Hid (Below w.heap.size w wr)) (fun _ p _ => N - (intOf p).toNat)
  case atStart => exact ⟨0, Nat.zero_le _, rfl, Lib.hid (OwnU.nil _ _), Lib.hid (Below.refl _ _)⟩
  case round =>
    obtain ⟨k, hk2, rfl, ho, hb⟩ := hrel
    by_cases hlt : k < N
    · obtain ⟨g2, cap, e1, _, hg2, hcell⟩ := hx'.out.parts (fun e => by have := hN'.out; rw [e] at this; simp at this; omega)
      have ck := (hb.out.cell (p := ⟨g2, k, none⟩) hg2).trans (hcell k (by rw [← hN'.out]; exact hlt))
      obtain ⟨rfl, rfl⟩ : ao = some ⟨g2, 0, none⟩ ∧ c = cap := by injection e1 with a _ b; exact ⟨a, b⟩
      have hc := Lib.hid (hk'.out wr _ (hxs'.out k) hb.out)
      have hnx := Lib.hid (take_map_snoc m xs k (by rw [← hN'.out]; exact hlt))
      have hlen := Lib.hid (show ((xs.take k).map m).length ≤ 999999 by rw [List.length_map, List.length_take]; omega)
      have hi1 : (k : Int) < N := by omega
      generalize xs.getD k 0 = y at ck hc hnx
      clear hcell e1
      go_wp2_with (first
        | (go_at_call 58; refine (hc.out).mono ?_; rintro e w2 ⟨rfl, hb2⟩; have hb2' := Lib.hid hb2; clear hb2)
        | (at_builtin; refine app_set (ho.out.below hb2'.out) hlen.out (Nat.le_trans hb.out.size hb2'.out.size) rfl _ _ rfl rfl rfl ?_; intro v' w3 h1 h2 _ _ _; have h1q := Lib.hid h1; have h2q := Lib.hid h2; clear h1 h2))
      go_roundw
      case rel => exact ⟨k + 1, by omega, by go_num, Lib.hid (by rw [hnx.out]; exact h1q.out), Lib.hid ((below_call hb.out hb2'.out).trans h2q.out)⟩
      case measure => simp [intOf]; omega
    · obtain rfl : k = N := by omega
      have hO := Lib.hid (show OwnU wr w.heap.size u5 (xs.map m) from by have := ho.out; rw [List.take_of_length_le (by rw [← hN'.out]; exact Nat.le_refl _)] at this; exact this)
      obtain ⟨mo, mc, hu5, -⟩ := hO.out.len
      rw [List.length_map, ← hN'.out] at hu5
      rw [hu5] at hO
      have hmB := Lib.hid (show ∀ g, (Value.slice mo k mc).ownBlock = some g → g < wr.heap.size from fun g hg => (World.ownsRow.lt hO.out g hg).2)
      have hb1 := Lib.hid hb.out.size
      rw [hu5]
      clear hu5 ho
      obtain ⟨wz, hwz⟩ : ∃ wz, wz = wr := ⟨_, rfl⟩
      subst hwz
      go_wp2_with fail
      go_loopw [6, 27] (fun v6 p wr => ∃ j : Nat, j ≤ k ∧ p = .int .i64 (j : Int) ∧ Hid (OwnU wr wz.heap.size v6 ((xs.take j).filter q)) ∧ Hid (Below wz.heap.size wz wr)) (fun _ p _ => k - (intOf p).toNat)
      case atStart => exact ⟨0, Nat.zero_le _, rfl, Lib.hid (OwnU.nil _ _), Lib.hid (Below.refl _ _)⟩
      case round =>
        obtain ⟨j, hj2, rfl, ho6, hbq⟩ := hrel
        by_cases hjt : j < k
        · obtain ⟨g2, cap, e1, _, hg2, hcell⟩ := hx'.out.parts (fun e => by have := hN'.out; rw [e] at this; simp at this; omega)
          have ck := ((hb.out.trans (hbq.out.mono hb1.out)).cell (p := ⟨g2, j, none⟩) hg2).trans (hcell j (by rw [← hN'.out]; exact hjt))
          obtain ⟨rfl, rfl⟩ : ao = some ⟨g2, 0, none⟩ ∧ c = cap := by injection e1 with a _ b; exact ⟨a, b⟩
          obtain ⟨g3, cap3, e3, _, hg3, hcell3⟩ := hO.out.parts (fun e => by have := hN'.out; have h2 := congrArg List.length e; rw [List.length_map, ← this] at h2; simp at h2; omega)
          rw [List.length_map, ← hN'.out] at e3
          have cm := (hbq.out.cell (p := ⟨g3, j, none⟩) hg3).trans (hcell3 j (by rw [List.length_map, ← hN'.out]; exact hjt))
          rw [map_at m xs j (by rw [← hN'.out]; exact hjt)] at cm
          obtain ⟨rfl, rfl⟩ : mo = some ⟨g3, 0, none⟩ ∧ mc = cap3 := by injection e3 with a _ b; exact ⟨a, b⟩
          have hO2 := Lib.hid (hO.out.below hbq.out)
          have hmj := hms'.out _ (hxs'.out j)
          have hc := Lib.hid (fun (W : World) (g : Nat) (hW : Below wr.heap.size wr W) (hcg : W.cell? ⟨g, 0, none⟩ = some (.int .u64 (m (xs.getD j 0) : Int))) => contains82 (hO2.out.below hW) hmx'.out hmj (by rw [List.length_map, ← hN'.out]; exact hl) hcg)
          have hnx := Lib.hid (filter_snoc q xs j (by rw [← hN'.out]; exact hjt))
          have hlen := Lib.hid (show ((xs.take j).filter q).length ≤ 999999 by
            have := List.length_filter_le q (xs.take j)
            rw [List.length_take] at this; omega)
          have hi1 : (j : Int) < k := by omega
          have hg2' := Lib.hid (Nat.lt_of_lt_of_le hg2 (Nat.le_trans hb1.out hbq.out.size))
          have hqj := hq'.out (xs.getD j 0)
          generalize hA : (xs.map m).any (abv (m (xs.getD j 0))) = A at hqj
          simp only [hA] at hc
          clear hA hcell e1 hcell3 e3 hmj hg2 hg3
          generalize xs.getD j 0 = y at ck hc hnx hqj cm
          have ck2 := ((below_alloc1 wr (.cells #[.int .u64 (m y : Int)] 71)).cell (p := ⟨g2, j, none⟩) hg2'.out).trans ck
          cases A
          · rw [hqj] at hnx
            have hfin := Lib.hid (show (xs.take (j + 1)).filter q = (xs.take j).filter q ++ [y] by rw [hnx.out]; rfl)
            clear hnx hqj
            go_wp2_with (first
              | (go_at_call 82; refine (hc.out _ _ (below_alloc1 _ _) (cell_new_e _ _ _).1).mono ?_; rintro e w2 ⟨rfl, rfl⟩)
              | (at_builtin; refine app_set (ho6.out.below (below_alloc1 _ _)) hlen.out (by have h9 := hbq.out.size; rw [World.size_alloc]; omega) rfl _ _ rfl rfl (by rw [World.size_alloc]; rfl) ?_; intro v' w3 h1 h2 _ _ _; have h1q := Lib.hid h1; have h2q := Lib.hid h2; clear h1 h2))
            go_roundw
            case rel => exact ⟨j + 1, by omega, by go_num, Lib.hid (by rw [hfin.out]; exact h1q.out), Lib.hid ((below_call hbq.out (below_alloc1 _ _)).trans h2q.out)⟩
            case measure => simp [intOf]; omega
          · rw [hqj] at hnx
            have hfin := Lib.hid (show (xs.take (j + 1)).filter q = (xs.take j).filter q by rw [hnx.out]; simp)
            clear hnx hqj
            go_wp2_with (first
              | (go_at_call 82; refine (hc.out _ _ (below_alloc1 _ _) (cell_new_e _ _ _).1).mono ?_; rintro e w2 ⟨rfl, rfl⟩))
            go_roundw
            case rel => exact ⟨j + 1, by omega, by go_num, Lib.hid (by rw [hfin.out]; exact ho6.out.below (below_alloc1 _ _)), Lib.hid (below_call hbq.out (below_alloc1 _ _))⟩
            case measure => simp [intOf]; omega
        · obtain rfl : j = k := by omega
          have hO6 := Lib.hid (show OwnU wr w.heap.size u6 (xs.filter q) from by have := ho6.out; rw [List.take_of_length_le (by rw [← hN'.out]; exact Nat.le_refl _)] at this; exact this.base hb1.out)
          clear ho6
          go_wp2
          go_ret
          exact ⟨_, rfl, hO6.out, hb.out.trans (hbq.out.mono hb1.out)⟩
end Go.Proofs.YtpcjigdmfchbdaaDoor
