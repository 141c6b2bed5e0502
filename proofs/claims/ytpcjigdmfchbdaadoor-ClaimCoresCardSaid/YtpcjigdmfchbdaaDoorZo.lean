import Derived.Test.YtpcjigdmfchbdaaDoorZn
import Derived.Test.YtpcjigdmfchbdaaDoorZh
namespace Go.Proofs.YtpcjigdmfchbdaaDoor
open Go.RowKit Go.Shelf Cl

theorem inB_inn {S T : Nat} (h : Inn S T) : inB (natI (bl S)) (natI (bl T)) = true := by
  unfold inB
  rw [List.all_eq_true]
  intro x hx
  obtain ⟨j, hj, rfl⟩ := List.mem_map.1 hx
  have hj' := List.mem_filter.1 hj
  rw [List.any_eq_true]
  exact ⟨Int.ofNat j, List.mem_map.2 ⟨j, List.mem_filter.2 ⟨hj'.1, h j hj'.2⟩, rfl⟩, beq_self_eq_true _⟩
theorem natI_le (S : Nat) : (natI (bl S)).length ≤ 1000000 := by have := natI_len S; omega
theorem com_dfd {n : Nat} {L : Atts} {S : Nat} (hn : n ≤ 12) (hS : S < 2 ^ n) (h : Com n L S) : dfd n L S = S := by
  have := (comB_iff hn hS).2 h
  unfold comB at this
  rw [Bool.and_eq_true, beq_iff_eq] at this
  exact this.2
theorem grantedM {w : World} (hT : Tab w) {sz : Nat} {L : Atts} {B : Nat} {v : Value} (hv : vldB (sz : Int) (toI L) = true) (hp : OwnP w B v (toI L)) :
    Calls Tryd.prog 17 #[.int .i64 (sz : Int), v] w (MadeE w (natI (bl (grd sz L))) 0) := by
  have h := granted17 hT (n := (sz : Int)) hp.reads (by have := (vld_ok hv).2.2.2; omega)
  unfold resL at h
  rw [if_pos hv, resE_made hv, Int.toNat_natCast, natP_toI] at h
  exact h
theorem idealM {w : World} (hT : Tab w) {sz : Nat} {L : Atts} {B : Nat} {v : Value} (hv : vldB (sz : Int) (toI L) = true) (hp : OwnP w B v (toI L)) :
    Calls Tryd.prog 32 #[.int .i64 (sz : Int), v] w (MadeE w (natI (bl (idl sz L))) 0) := by
  have h := ideal32 hT (n := (sz : Int)) hp.reads (by have := (vld_ok hv).2.2.2; omega)
  unfold resL at h
  rw [if_pos hv, resE_made hv, Int.toNat_natCast, natP_toI] at h
  exact h
theorem defendsM {w : World} (hT : Tab w) {sz : Nat} {L : Atts} {B S : Nat} {v u : Value} (hs : sz ≤ 12) (hS : S < 2 ^ sz) (hv : vldB (sz : Int) (toI L) = true) (hp : OwnP w B v (toI L)) (hu : Reads w u (natI (bl S))) :
    Calls Tryd.prog 35 #[.int .i64 (sz : Int), v, u] w (MadeE w (natI (bl (dfd sz L S))) 0) := by
  have h := defends35 hT (n := (sz : Int)) hp.reads (by have := (vld_ok hv).2.2.2; omega) hu (natI_le S)
  unfold defL setE at h
  rw [if_pos hv, if_pos hv, rdS_bl hs hS, Int.toNat_natCast, natP_toI] at h
  exact h
theorem admissibleM {w : World} (hT : Tab w) {sz : Nat} {L : Atts} {B S : Nat} {v u : Value} (hs : sz ≤ 12) (hS : S < 2 ^ sz) (hv : vldB (sz : Int) (toI L) = true) (hp : OwnP w B v (toI L)) (hu : Reads w u (natI (bl S))) :
    Calls Tryd.prog 34 #[.int .i64 (sz : Int), v, u] w fun e w' => e = .returned (.tuple #[.bool (admB sz L S), .int .i64 0]) ∧ Below w.heap.size w w' := by
  have h := admissible34 hT (n := (sz : Int)) hp.reads (by have := (vld_ok hv).2.2.2; omega) hu (natI_le S)
  unfold admR setE at h
  rw [if_pos hv, if_pos hv, rdS_bl hs hS, Int.toNat_natCast, natP_toI] at h
  exact h
set_option maxRecDepth 100000 in
set_option maxHeartbeats 8000000 in
theorem walk12 {w : World} (hT : Tab w) {n : Nat} {v : Value} {xs : List (Nat × Nat)} (hn : n < 256) (hx : InDuo w v xs) :
    Calls Tryd.prog 12 #[.int .u8 (n : Int), v] w fun e w' => e = .returned (.bool true) ∧ Below w.heap.size w w' := by
  have hT' := Lib.hid hT
  have hm := Lib.hid (show Calls Tryd.prog 43 #[.int .u8 (n : Int), v, .int .i64 12] w (MadeD w (szM n 12) (mkL (szM n 12) xs)) from made43 (most := 12) hn (by omega) (by omega) hx)
  have hs12 : szM n 12 ≤ 12 := by unfold szM; omega
  have hs1 : 1 ≤ szM n 12 := by unfold szM; omega
  have hv := mk_vld hs1 hs12 xs
  have hL := mkL_within (sz := szM n 12) (by omega) xs
  clear hT hx
  generalize szM n 12 = sz at hm hs12 hs1 hv hL
  generalize mkL sz xs = L at hm hv hL
  have hI2 : idl sz L < 2 ^ sz := idl_lt hs12
  have hcom : Com sz L (idl sz L) := idl_com hs12
  have hdf := com_dfd hs12 hI2 hcom
  have had : admB sz L (idl sz L) = true := (admB_iff hs12 hI2).2 hcom.1
  have hgi : Inn (grd sz L) (idl sz L) := stp_com hs12 hcom _
  have hpi : ∀ x ∈ lists (prefs sz L), inB (natI (bl (idl sz L))) x = true := fun x hx => by
    obtain ⟨S, hS, rfl⟩ := mem_lists.1 hx
    exact inB_inn (((mem_idls hs12).1 (idl_mem hs12)).2.2 S hS)
  have h32 := Lib.hid (fun (W : World) (v : Value) (h : Below w.heap.size w W) (hp : OwnP W w.heap.size v (toI L)) => idealM (hT'.out.call h) hv hp)
  have h17 := Lib.hid (fun (W : World) (v : Value) (h : Below w.heap.size w W) (hp : OwnP W w.heap.size v (toI L)) => grantedM (hT'.out.call h) hv hp)
  have h25 := Lib.hid (fun (W : World) (v : Value) (h : Below w.heap.size w W) (hp : OwnP W w.heap.size v (toI L)) => preferredM (hT'.out.call h) hv hp)
  have h35 := Lib.hid (fun (W : World) (v u : Value) (h : Below w.heap.size w W) (hp : OwnP W w.heap.size v (toI L)) (hu : Reads W u (natI (bl (idl sz L)))) => show Calls Tryd.prog 35 #[.int .i64 (sz : Int), v, u] W (MadeE W (natI (bl (idl sz L))) 0) from by
    have := defendsM (hT'.out.call h) hs12 hI2 hv hp hu
    rwa [hdf] at this)
  have h34 := Lib.hid (fun (W : World) (v u : Value) (h : Below w.heap.size w W) (hp : OwnP W w.heap.size v (toI L)) (hu : Reads W u (natI (bl (idl sz L)))) => show Calls Tryd.prog 34 #[.int .i64 (sz : Int), v, u] W (fun e w' => e = .returned (.tuple #[.bool true, .int .i64 0]) ∧ Below W.heap.size W w') from by
    have := admissibleM (hT'.out.call h) hs12 hI2 hv hp hu
    rwa [had] at this)
  have h23 := Lib.hid (fun (W : World) (u v : Value) (hu : Reads W u (natI (bl (idl sz L)))) (hv : Reads W v (natI (bl (idl sz L)))) => show Calls Tryd.prog 23 #[u, v] W (BoolEnd W true) from by
    have := same23 hu hv (natI_le _)
    rwa [sameL_self] at this)
  have h44 := Lib.hid (fun (W : World) (u v : Value) (hu : Reads W u (natI (bl (grd sz L)))) (hv : Reads W v (natI (bl (idl sz L)))) => show Calls Tryd.prog 44 #[u, v] W (BoolEnd W true) from by
    rw [← inB_inn hgi]; exact within44 hu hv (natI_le _) (natI_le _))
  have hli := Lib.hid (fun (W : World) (h : Below w.heap.size w W) => lives20 (hT'.out.call h))
  have hlp : (lists (prefs sz L)).length ≤ 4096 := by rw [lists_len]; exact grt_len (sets_len hs12)
  have hrow := Lib.hid (fun j => lists_row (prefs sz L) j)
  have hpin := Lib.hid (fun (j : Nat) (hj : j < (lists (prefs sz L)).length) => show inB (natI (bl (idl sz L))) ((lists (prefs sz L)).getD j []) = true from hpi _ (by rw [List.getD_eq_getElem?_getD, List.getElem?_eq_getElem hj]; exact List.getElem_mem _))
  have hIl := natI_le (idl sz L)
  clear hdf had hgi hpi hcom hI2 hs1 hs12 hv hL
  generalize natI (bl (idl sz L)) = I at h32 h35 h34 h23 h44 hpin hIl
  generalize natI (bl (grd sz L)) = G at h17 h44
  generalize lists (prefs sz L) = A3 at h25 hlp hrow hpin
  obtain ⟨N, hN⟩ : ∃ N, N = A3.length := ⟨_, rfl⟩
  have hN' := Lib.hid hN
  rw [← hN] at hlp hpin
  clear hN
  go_enter Tryd.func12, Tryd.ntmps12
  go_wp2_with (first
    | (go_at_call 43; refine (hm.out).mono ?_; rintro e w1 ⟨v1, rfl, ho, hb⟩; have ho1 := Lib.hid ho; have hb1 := Lib.hid hb; clear ho hb hm)
    | (go_at_call 32; refine (h32.out _ _ hb1.out ho1.out).mono ?_; rintro e w2 ⟨v2, rfl, hz, hb⟩; have hI2 := Lib.hid hz.shape; have hb2 := Lib.hid (below_call hb1.out hb); have ho2 := Lib.hid (ho1.out.below hb); clear hz hb h32)
    | (go_at_call 17; refine (h17.out _ _ hb2.out ho2.out).mono ?_; rintro e w3 ⟨v3, rfl, hz, hb⟩; have hG3 := Lib.hid hz.shape; have hb3 := Lib.hid (below_call hb2.out hb); have ho3 := Lib.hid (ho2.out.below hb); have hI3 := Lib.hid (hI2.out.below hb); clear hz hb h17)
    | (go_at_call 25; refine (h25.out _ _ hb3.out ho3.out).mono ?_; rintro e w4 ⟨v4, rfl, ho, hb⟩; obtain ⟨a4, c4, rfl, -⟩ := id ho.shape; rw [← hN'.out] at ho ⊢; have hA4 := Lib.hid ho.shape; have hb4 := Lib.hid (below_call hb3.out hb); have ho4 := Lib.hid (ho3.out.below hb); have hI4 := Lib.hid (hI3.out.below hb); have hG4 := Lib.hid (hG3.out.below hb); clear ho hb h25)
    | (go_at_call 35; refine (h35.out _ _ _ hb4.out ho4.out hI4.out).mono ?_; rintro e w5 ⟨v5, rfl, hz, hb⟩; have hD5 := Lib.hid hz.shape; have hb5 := Lib.hid (below_call hb4.out hb); have ho5 := Lib.hid (ho4.out.below hb); have hI5 := Lib.hid (hI4.out.below hb); have hG5 := Lib.hid (hG4.out.below hb); have hA5 := Lib.hid (hA4.out.below hb); clear hz hb h35)
    | (go_at_call 34; refine (h34.out _ _ _ hb5.out ho5.out hI5.out).mono ?_; rintro e w6 ⟨rfl, hb⟩; have hD6 := Lib.hid (hD5.out.below hb); have hb6 := Lib.hid (below_call hb5.out hb); have hI6 := Lib.hid (hI5.out.below hb); have hG6 := Lib.hid (hG5.out.below hb); have hA6 := Lib.hid (hA5.out.below hb); clear hb h34)
    | (go_at_call 23; refine (h23.out _ _ _ hD6.out hI6.out).mono ?_; rintro e w7 ⟨rfl, hb⟩; have hb7 := Lib.hid (below_call hb6.out hb); have hI7 := Lib.hid (hI6.out.below hb); have hG7 := Lib.hid (hG6.out.below hb); have hA7 := Lib.hid (hA6.out.below hb); clear hb h23)
    | (go_at_call 44; refine (h44.out _ _ _ hG7.out hI7.out).mono ?_; rintro e w8 ⟨rfl, hb⟩; have hb8 := Lib.hid (below_call hb7.out hb); have hI8 := Lib.hid (hI7.out.below hb); have hA8 := Lib.hid (hA7.out.below hb); clear hb h44)
    | (go_at_call 20; refine (hli.out _ hb8.out).mono ?_; rintro e w9 ⟨rfl, hb⟩; have hb9 := Lib.hid (below_call hb8.out hb); have hI9 := Lib.hid (hI8.out.below hb); have hA9 := Lib.hid (hA8.out.below hb); clear hb hli))
  go_loopw [17] (fun p wr => ∃ k : Nat, k ≤ N ∧ p = .int .i64 (k : Int) ∧ Hid (Below w9.heap.size w9 wr)) (fun p _ => N - (intOf p).toNat)
  case atStart => exact ⟨0, Nat.zero_le _, rfl, Lib.hid (Below.refl _ _)⟩
  case round =>
    obtain ⟨k, hk, rfl, hb⟩ := hrel
    by_cases hlt : k < N
    · obtain ⟨g, o, rfl, hg0, ro, rc, c1, hR1⟩ := hA9.out.at hN'.out.symm hlt
      have cx := (hb.out.cell (p := ⟨g, o + k, none⟩) hg0).trans c1
      have hlx := hrow.out k
      have hin := hpin.out k hlt
      generalize A3.getD k [] = x at cx hR1 hlx hin
      have hc := Lib.hid (show Calls Tryd.prog 44 #[v2, .slice ro x.length rc] wr (BoolEnd wr true) from by
        rw [← hin]; exact within44 (hI9.out.below hb.out) (hR1.below hb.out) hIl hlx)
      have hki : (k : Int) < N := by omega
      clear c1 hin hlx hR1
      generalize x.length = xl at cx hc
      go_wp2_with (first
        | (go_at_call 44; refine (hc.out).mono ?_; rintro e w10 ⟨rfl, hb2⟩; have hb10 := Lib.hid (below_call hb.out hb2); clear hb2))
      go_roundw
      case rel => exact ⟨k + 1, by omega, by go_num, hb10⟩
      case measure => simp [intOf]; omega
    · go_wp2
      go_ret
      exact ⟨rfl, below_call hb9.out hb.out⟩
end Go.Proofs.YtpcjigdmfchbdaaDoor
