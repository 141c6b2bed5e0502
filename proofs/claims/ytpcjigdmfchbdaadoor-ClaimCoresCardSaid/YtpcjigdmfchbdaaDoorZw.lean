import Derived.Test.YtpcjigdmfchbdaaDoorZv
import Derived.Test.YtpcjigdmfchbdaaDoorZi
namespace Go.Proofs.YtpcjigdmfchbdaaDoor
open Go.RowKit Go.Shelf Cl

theorem hasP_att (L : Atts) (a b : Nat) : hasP (toI L) (a : Int) (b : Int) = att L a b := by
  rw [Bool.eq_iff_iff, att_iff]
  unfold hasP toI
  rw [List.any_map, List.any_eq_true]
  constructor
  · rintro ⟨⟨x, y⟩, hx, h⟩
    simp only [Function.comp, Bool.and_eq_true, beq_iff_eq] at h
    obtain ⟨h1, h2⟩ := h
    have e1 : x = a := by omega
    have e2 : y = b := by omega
    subst e1; subst e2
    exact hx
  · intro h
    exact ⟨(a, b), h, by simp⟩
theorem idlP_idle (L : Atts) (a b : Nat) : idlP (toI L) (a : Int) (b : Int) = idleB L a b := by
  unfold idlP idleB
  rw [hasP_att, hasP_att, hasP_att, Bool.and_assoc, show (!((a : Int) == (b : Int))) = (a != b) from by rw [cast_beq]; rfl]
def coreR (L : Atts) (a k : Nat) : Atts := ((List.range k).filter fun b => keep L a b).map fun b => (a, b)
def coreA (n : Nat) (L : Atts) (a : Nat) : Atts := (List.range a).flatMap fun a => coreR L a n
theorem coreA_all (n : Nat) (L : Atts) : coreA n L n = core n L := rfl
theorem coreA_succ (n : Nat) (L : Atts) (a : Nat) : coreA n L (a + 1) = coreA n L a ++ coreR L a n := by
  unfold coreA
  rw [List.range_succ, List.flatMap_append]; simp
theorem coreR_succ (L : Atts) (a k : Nat) : coreR L a (k + 1) = coreR L a k ++ if keep L a k then [(a, k)] else [] := by
  unfold coreR
  rw [List.range_succ, List.filter_append, List.map_append]
  cases h : keep L a k <;> simp [h]
theorem coreR_len (L : Atts) (a k : Nat) : (coreR L a k).length ≤ k := by
  unfold coreR
  rw [List.length_map]
  exact Nat.le_trans (List.length_filter_le _ _) (by simp)
theorem coreA_len (n : Nat) (L : Atts) : ∀ a, (coreA n L a).length ≤ a * n
  | 0 => by simp [coreA]
  | a + 1 => by
    rw [coreA_succ, List.length_append, Nat.succ_mul]
    exact Nat.add_le_add (coreA_len n L a) (coreR_len L a n)
theorem core_part (n : Nat) (L : Atts) (a k : Nat) (hn : n ≤ 12) (ha : a < n) (hk : k ≤ n) : (toI (coreA n L a ++ coreR L a k)).length ≤ 1000 := by
  rw [toI, List.length_map, List.length_append]
  have h1 := coreA_len n L a
  have h2 := coreR_len L a k
  have h3 : a * n ≤ 12 * 12 := Nat.mul_le_mul (by omega) hn
  omega
def MadeP (w : World) (ps : List (Int × Int)) (err : Int) (e : Ending) (w' : World) : Prop := ∃ v, e = .returned (.tuple #[v, .int .i64 err]) ∧ OwnP w' w.heap.size v ps ∧ Below w.heap.size w w'
theorem OwnP.nil (w : World) (B : Nat) : OwnP w B (.slice none 0 0) [] := ⟨by simp [flat], .inl ⟨rfl, rfl⟩⟩
set_option maxRecDepth 100000 in
set_option maxHeartbeats 4000000 in
theorem core_bad {w : World} {n : Int} {v : Value} {ps : List (Int × Int)} (hp : ReadsP w v ps) (hl : ps.length ≤ 1000000) (hv : vldB n ps = false) :
    Calls Tryd.prog 39 #[.int .i64 n, v] w (MadeP w [] 1) := by
  have hr := Lib.hid (read_bad hp hl hv)
  clear hp hl hv
  go_enter Tryd.func39, Tryd.ntmps39
  go_wp2_with (first
    | (go_at_call 47; refine (hr.out).mono ?_; rintro e w1 ⟨rfl, hb⟩; have hb1 := Lib.hid hb; have hth1 := Lib.hid (Th.new w1 (csD 0 []) 74 rfl); have hbA := Lib.hid (below_call hb (below_alloc1 w1 (.cells (csD 0 []) 74))); clear hb)
    | (refine ws74 (n := 0) (L := []) rfl _ _ rfl rfl rfl hth1.out ?_; intro W1 hW1; have hbW := Lib.hid (show Below w.heap.size w W1 from by rw [hW1]; exact below_setC hb1.out.size _ _ _ hbA.out); clear hW1))
  refine bodyPost_ret (results_tmp2 rfl _ _ _) rfl ?_
  exact ⟨_, rfl, OwnP.nil _ _, hbW.out⟩
set_option maxRecDepth 100000 in
set_option maxHeartbeats 4000000 in
theorem core_ok {w : World} {n : Nat} {v : Value} {L : Atts} (hp : ReadsP w v (toI L)) (hv : vldB (n : Int) (toI L) = true) :
    Calls Tryd.prog 39 #[.int .i64 (n : Int), v] w (MadeP w (toI (core n L)) 0) := by
  have hl : (toI L).length ≤ 1000000 := by have := (vld_ok hv).2.2.2; omega
  have hr := Lib.hid (read_ok hp hl hv)
  rw [Int.toNat_natCast, natP_toI] at hr
  have hn12 : n ≤ 12 := by have := (vld_ok hv).2.2.1; omega
  have h70 := Lib.hid (fun (W : World) (a b : Nat) (h : Below w.heap.size w W) => show Calls Tryd.prog 70 #[v, .agg #[.int .i64 (a : Int), .int .i64 (b : Int)]] W (BoolEnd W (att L a b)) from by
    rw [← hasP_att]; exact has70 (hp.below h) hl)
  have h71 := Lib.hid (fun (W : World) (a b : Nat) (h : Below w.heap.size w W) => show Calls Tryd.prog 71 #[v, .agg #[.int .i64 (a : Int), .int .i64 (b : Int)]] W (BoolEnd W (idleB L a b)) from by
    rw [← idlP_idle]; exact idle71 (hp.below h) hl)
  have hend := Lib.hid (coreA_all n L)
  have hsa := Lib.hid (coreA_succ n L)
  have hsr := Lib.hid (coreR_succ L)
  have hlen := Lib.hid (fun a k => core_part n L a k hn12)
  have hkp := Lib.hid (fun a b => show keep L a b = (att L a b && !idleB L a b) from rfl)
  have hc0 := Lib.hid (show coreA n L 0 = [] from rfl)
  have hr0 := Lib.hid (fun a => show coreR L a 0 = [] from rfl)
  clear hp hl hv
  go_enter Tryd.func39, Tryd.ntmps39
  go_wp2_with (first
    | (go_at_call 47; refine (hr.out).mono ?_; rintro e w1 ⟨rfl, hb⟩; have hb1 := Lib.hid hb; have hth1 := Lib.hid (Th.new w1 (csD 0 []) 74 rfl); have hbA := Lib.hid (below_call hb (below_alloc1 w1 (.cells (csD 0 []) 74))); clear hb)
    | (refine ws74 (n := n) (L := L) rfl _ _ rfl rfl rfl hth1.out ?_; intro W1 hW1; have hbW := Lib.hid (show Below w.heap.size w W1 from by rw [hW1]; exact below_setC hb1.out.size _ _ _ hbA.out); clear hW1))
  go_loopw [22, 8] (fun iv cv wr => ∃ a : Nat, a ≤ n ∧ iv = .int .i64 (a : Int) ∧ Hid (OwnP wr w.heap.size cv (toI (coreA n L a))) ∧ Hid (Below w.heap.size w wr)) (fun iv _ _ => n - (intOf iv).toNat)
  case atStart => exact ⟨0, Nat.zero_le _, rfl, Lib.hid (by rw [hc0.out]; exact OwnP.nil _ _), hbW⟩
  case round =>
    obtain ⟨a, ha, rfl, hoa, hba⟩ := hrel
    obtain ⟨wz, hwz⟩ : ∃ wz, wz = wr := ⟨_, rfl⟩
    subst hwz
    by_cases hlt : a < n
    · have hai : (a : Int) < n := by omega
      go_wp2
      go_loopw [26, 8] (fun iv cv wr => ∃ b : Nat, b ≤ n ∧ iv = .int .i64 (b : Int) ∧ Hid (OwnP wr w.heap.size cv (toI (coreA n L a ++ coreR L a b))) ∧ Hid (Below w.heap.size w wr)) (fun iv _ _ => n - (intOf iv).toNat)
      case atStart => exact ⟨0, Nat.zero_le _, rfl, Lib.hid (by rw [hr0.out, List.append_nil]; exact hoa.out), hba⟩
      case round =>
        obtain ⟨b, hbn, rfl, hob, hbb⟩ := hrel
        by_cases hlb : b < n
        · have hbi : (b : Int) < n := by omega
          have hl2 := Lib.hid (hlen.out a b hlt (by omega))
          have hbA2 := Lib.hid (below_call hbb.out (below_alloc1 wr (.cells #[.int .i64 (a : Int), .int .i64 (b : Int)] 58)))
          have hoA := Lib.hid (own_below hob.out (below_alloc1 wr (.cells #[.int .i64 (a : Int), .int .i64 (b : Int)] 58)))
          have d0 : (wr.alloc (.cells #[.int .i64 (a : Int), .int .i64 (b : Int)] 58)).cell? ⟨wr.heap.size, 0, none⟩ = some (.int .i64 (a : Int)) := by
            rw [World.cell?_alloc_at (hn := rfl)]; rfl
          have d1 : (wr.alloc (.cells #[.int .i64 (a : Int), .int .i64 (b : Int)] 58)).cell? ⟨wr.heap.size, 1, none⟩ = some (.int .i64 (b : Int)) := by
            rw [World.cell?_alloc_at (hn := rfl)]; rfl
          have hsz : wr.heap.size < (wr.alloc (.cells #[.int .i64 (a : Int), .int .i64 (b : Int)] 58)).heap.size := by simp
          obtain ⟨R, hR⟩ : ∃ R, R = wr.heap.size := ⟨_, rfl⟩
          have hsz' := Lib.hid hsz
          clear hsz

          cases h1 : att L a b
          · have hat := Lib.hid h1
            have hsn := Lib.hid (show coreR L a (b + 1) = coreR L a b from by rw [hsr.out, hkp.out, h1]; simp)
            clear h1 hR
            go_wp2_with (first
              | (go_at_call 70; refine (h70.out _ _ _ hbA2.out).mono ?_; rw [hat.out]; rintro e w2 ⟨rfl, hb⟩; have hb2 := Lib.hid (below_call hbA2.out hb); have ho2 := Lib.hid (own_below hoA.out hb); replace d0 := (hb.cell (p := ⟨wr.heap.size, 0, none⟩) hsz'.out).trans d0; replace d1 := (hb.cell (p := ⟨wr.heap.size, 1, none⟩) hsz'.out).trans d1; have hs2 := Lib.hid (Nat.lt_of_lt_of_le hsz'.out hb.size); clear hb))
            go_roundw
            case rel => exact ⟨b + 1, by omega, by go_num, Lib.hid (by rw [hsn.out]; exact ho2.out), hb2⟩
            case measure => simp [intOf]; omega
          · cases h2 : idleB L a b
            · have hat := Lib.hid h1
              have hid := Lib.hid h2
              have hsn := Lib.hid (show coreR L a (b + 1) = coreR L a b ++ [(a, b)] from by rw [hsr.out, hkp.out, h1, h2]; simp)
              clear h1 h2 hR
              go_wp2_with (first
                | (go_at_call 70; refine (h70.out _ _ _ hbA2.out).mono ?_; rw [hat.out]; rintro e w2 ⟨rfl, hb⟩; have hb2 := Lib.hid (below_call hbA2.out hb); have ho2 := Lib.hid (own_below hoA.out hb); replace d0 := (hb.cell (p := ⟨wr.heap.size, 0, none⟩) hsz'.out).trans d0; replace d1 := (hb.cell (p := ⟨wr.heap.size, 1, none⟩) hsz'.out).trans d1; have hs2 := Lib.hid (Nat.lt_of_lt_of_le hsz'.out hb.size); clear hb)
                | (go_at_call 71; refine (h71.out _ _ _ hb2.out).mono ?_; rw [hid.out]; rintro e w3 ⟨rfl, hb⟩; have hb3 := Lib.hid (below_call hb2.out hb); have ho3 := Lib.hid (own_below ho2.out hb); replace d0 := (hb.cell (p := ⟨wr.heap.size, 0, none⟩) hs2.out).trans d0; replace d1 := (hb.cell (p := ⟨wr.heap.size, 1, none⟩) hs2.out).trans d1; clear hb)
                | (at_builtin; refine app_pair ho3.out (by have := hl2.out; omega) hb3.out.size rfl _ _ rfl rfl rfl ?_; intro v' w4 h1 h2; have h1q := Lib.hid h1; have h2q := Lib.hid h2; clear h1 h2))
              go_roundw
              case rel => exact ⟨b + 1, by omega, by go_num, Lib.hid (by rw [hsn.out, ← List.append_assoc, toI_snoc]; exact h1q.out), Lib.hid (hb3.out.trans h2q.out)⟩
              case measure => simp [intOf]; omega
            · have hat := Lib.hid h1
              have hid := Lib.hid h2
              have hsn := Lib.hid (show coreR L a (b + 1) = coreR L a b from by rw [hsr.out, hkp.out, h1, h2]; simp)
              clear h1 h2 hR
              go_wp2_with (first
                | (go_at_call 70; refine (h70.out _ _ _ hbA2.out).mono ?_; rw [hat.out]; rintro e w2 ⟨rfl, hb⟩; have hb2 := Lib.hid (below_call hbA2.out hb); have ho2 := Lib.hid (own_below hoA.out hb); replace d0 := (hb.cell (p := ⟨wr.heap.size, 0, none⟩) hsz'.out).trans d0; replace d1 := (hb.cell (p := ⟨wr.heap.size, 1, none⟩) hsz'.out).trans d1; have hs2 := Lib.hid (Nat.lt_of_lt_of_le hsz'.out hb.size); clear hb)
                | (go_at_call 71; refine (h71.out _ _ _ hb2.out).mono ?_; rw [hid.out]; rintro e w3 ⟨rfl, hb⟩; have hb3 := Lib.hid (below_call hb2.out hb); have ho3 := Lib.hid (own_below ho2.out hb); replace d0 := (hb.cell (p := ⟨wr.heap.size, 0, none⟩) hs2.out).trans d0; replace d1 := (hb.cell (p := ⟨wr.heap.size, 1, none⟩) hs2.out).trans d1; clear hb))
              go_roundw
              case rel => exact ⟨b + 1, by omega, by go_num, Lib.hid (by rw [hsn.out]; exact ho3.out), hb3⟩
              case measure => simp [intOf]; omega
        · obtain rfl : b = n := by omega
          go_wp2
          go_roundw
          case rel => exact ⟨a + 1, by omega, by go_num, Lib.hid (by rw [hsa.out]; exact hob.out), hbb⟩
          case measure => simp [intOf]; omega
    · obtain rfl : a = n := by omega
      go_wp2
      refine bodyPost_ret (results_tmp2 rfl _ _ _) rfl ?_
      exact ⟨_, rfl, by rw [← hend.out]; exact hoa.out, hba.out⟩
end Go.Proofs.YtpcjigdmfchbdaaDoor