import Derived.Test.YtpcjigdmfchbdaaDoorZa
namespace Go.Proofs.YtpcjigdmfchbdaaDoor
open Go.RowKit Go.Shelf Cl

def clo (L : Atts) (l s : Nat) : Bool := (frm L s l).testBit s
/-- What Odd returns. -/
def OddIs (n : Int) (ps : List (Int × Int)) (xs : List Int) (err : Int) : Prop :=
  if vldB n ps = true then
    (err = 0 ∧ ∃ l s : Nat, l % 2 = 1 ∧ l ≤ n.toNat ∧ s < n.toNat ∧ clo (natP ps) l s = true ∧ (∀ l', l' < l → l' % 2 = 1 → ∀ s', s' < n.toNat → clo (natP ps) l' s' = false) ∧ (∀ s', s' < s → clo (natP ps) l s' = false) ∧ xs = natI (s :: arP (natP ps) s (l - 1) s)) ∨
    (err = 5 ∧ xs = [] ∧ ∀ l', l' ≤ n.toNat → l' % 2 = 1 → ∀ s', s' < n.toNat → clo (natP ps) l' s' = false)
  else xs = [] ∧ err = 1
def OddEnd (w : World) (n : Int) (ps : List (Int × Int)) (e : Ending) (w' : World) : Prop := ∃ v err xs, e = .returned (.tuple #[v, .int .i64 err]) ∧ Ints w' w.heap.size v xs ∧ Hid (OddIs n ps xs err) ∧ Below w.heap.size w w'
set_option maxRecDepth 100000 in
set_option maxHeartbeats 4000000 in
theorem odd41 {w : World} (hT : Tab w) {n : Int} {v : Value} {ps : List (Int × Int)} (hp : ReadsP w v ps) (hl : ps.length ≤ 1000000) :
    Calls Tryd.prog 41 #[.int .i64 n, v] w (OddEnd w n ps) := by
  cases hv : vldB n ps
  · have hr := Lib.hid (read_bad hp hl hv)
    have hf := Lib.hid (show OddIs n ps [] 1 from by unfold OddIs; rw [if_neg (by rw [hv]; decide)]; exact ⟨rfl, rfl⟩)
    clear hp hl hv hT
    go_enter Tryd.func41, Tryd.ntmps41

    go_wp2_with (first
        | (go_at_call 47; refine (hr.out).mono ?_; rintro e w1 ⟨rfl, hb⟩; have hb1 := Lib.hid hb; have hth1 := Lib.hid (Th.new w1 (csD 0 []) 74 rfl); have hbA := Lib.hid (below_call hb (below_alloc1 w1 (.cells (csD 0 []) 74))); clear hb)
        | (refine ws74 (n := 0) (L := []) rfl _ _ rfl rfl rfl hth1.out ?_; intro W1 hW1; have hd1 := Lib.hid (show DAt W1 w1.heap.size (0) ([]) from by rw [hW1]; exact DAt.stored hth1.out); have hbW := Lib.hid (show Below w.heap.size w W1 from by rw [hW1]; exact below_setC hb1.out.size _ _ _ hbA.out); clear hW1)
        | (refine wl74 rfl _ rfl rfl hd1.out ?_))
    refine bodyPost_ret (results_tmp2 rfl _ _ _) rfl ?_
    exact ⟨_, _, _, rfl, Ints.nil _ _, hf, hbW.out⟩
  · have hr := Lib.hid (read_ok hp hl hv)
    obtain ⟨hD, hn1, hn12, -⟩ := vld_ok hv
    obtain ⟨n, rfl⟩ : ∃ m : Nat, n = (m : Int) := ⟨n.toNat, by omega⟩
    rw [Int.toNat_natCast] at hr hD
    have hf0 := Lib.hid (fun (l s : Nat) (h1 : l % 2 = 1) (h2 : l ≤ n) (h3 : s < n) (h4 : clo (natP ps) l s = true) (h5 : ∀ l', l' < l → l' % 2 = 1 → ∀ s', s' < n → clo (natP ps) l' s' = false) (h6 : ∀ s', s' < s → clo (natP ps) l s' = false) => show OddIs n ps (natI (s :: arP (natP ps) s (l - 1) s)) 0 from by
      unfold OddIs; rw [if_pos hv, Int.toNat_natCast]; exact .inl ⟨rfl, l, s, h1, h2, h3, h4, h5, h6, rfl⟩)
    have hf5 := Lib.hid (fun (h : ∀ l', l' ≤ n → l' % 2 = 1 → ∀ s', s' < n → clo (natP ps) l' s' = false) => show OddIs n ps [] 5 from by
      unfold OddIs; rw [if_pos hv, Int.toNat_natCast]; exact .inr ⟨rfl, rfl, h⟩)
    have har := Lib.hid (fun (W : World) (l s : Nat) (h : Below w.heap.size w W) (hs : s < n) (hl : l ≤ 12) (h1 : 1 ≤ l) => around72 (hT.call h) hD hs hl h1)
    clear hp hl hv hT hD
    have hn12' : n ≤ 12 := by omega
    go_enter Tryd.func41, Tryd.ntmps41

    go_wp2_with (first
        | (go_at_call 47; refine (hr.out).mono ?_; rintro e w1 ⟨rfl, hb⟩; have hb1 := Lib.hid hb; have hth1 := Lib.hid (Th.new w1 (csD 0 []) 74 rfl); have hbA := Lib.hid (below_call hb (below_alloc1 w1 (.cells (csD 0 []) 74))); clear hb)
        | (refine ws74 (n := n) (L := natP ps) rfl _ _ rfl rfl rfl hth1.out ?_; intro W1 hW1; have hd1 := Lib.hid (show DAt W1 w1.heap.size (n) (natP ps) from by rw [hW1]; exact DAt.stored hth1.out); have hbW := Lib.hid (show Below w.heap.size w W1 from by rw [hW1]; exact below_setC hb1.out.size _ _ _ hbA.out); clear hW1)
        | (refine wl74 rfl _ rfl rfl hd1.out ?_))
    go_loopw [8] (fun p wr => ∃ l : Nat, l ≤ n + 2 ∧ l % 2 = 1 ∧ p = .int .i64 (l : Int) ∧ Hid (∀ l', l' < l → l' % 2 = 1 → ∀ s', s' < n → clo (natP ps) l' s' = false) ∧ Hid (Below w.heap.size w wr) ∧ Hid (DAt wr w1.heap.size n (natP ps))) (fun p _ => n + 3 - (intOf p).toNat)
    case atStart => exact ⟨1, by omega, by omega, rfl, Lib.hid (fun l' h1 h2 => by omega), hbW, hd1⟩
    case round =>
      obtain ⟨l, hln, hodd, rfl, hno, hb, hdr⟩ := hrel
      by_cases hle : l ≤ n
      · have hle' : (l : Int) ≤ n := by omega
        obtain ⟨wz, hwz⟩ : ∃ wz, wz = wr := ⟨_, rfl⟩
        subst hwz
        go_wp2_with fail
        go_loopw [26] (fun p wq => ∃ s : Nat, s ≤ n ∧ p = .int .i64 (s : Int) ∧ Hid (∀ s', s' < s → clo (natP ps) l s' = false) ∧ Hid (Below w.heap.size w wq) ∧ Hid (DAt wq w1.heap.size n (natP ps))) (fun p _ => n - (intOf p).toNat)
        case atStart => exact ⟨0, Nat.zero_le _, rfl, Lib.hid (fun s' h => absurd h (Nat.not_lt_zero _)), hb, hdr⟩
        case round =>
          obtain ⟨s, hsn, rfl, hns, hbr, hdq⟩ := hrel
          by_cases hst : s < n
          · have hc := Lib.hid (har.out wr l s hbr.out hst (by omega) (by omega))
            have hss : (s : Int) < n := by omega
            cases hq : clo (natP ps) l s
            · have hns2 := Lib.hid (show ∀ s', s' < s + 1 → clo (natP ps) l s' = false from fun s' h => by
                rcases Nat.lt_succ_iff_lt_or_eq.1 h with h | h
                · exact hns.out s' h
                · rw [h]; exact hq)
              have hc2 := Lib.hid (show Calls Tryd.prog 72 #[.agg (csD n (natP ps)), .int .i64 (s : Int), .int .i64 (l : Int)] wr (fun e w' => e = .returned (.slice none 0 0) ∧ Below wr.heap.size wr w') from hc.out.mono fun e w' h => by
                rcases h.1 with h1 | h1
                · exact ⟨h1.2, h.2⟩
                · unfold clo at hq; rw [hq] at h1; cases h1.1)
              clear hq hc
              go_wp2_with (first
                | (refine wl74 rfl _ rfl rfl hdq.out ?_)
                | (go_at_call 72; refine (hc2.out).mono ?_; rintro e w2 ⟨rfl, hb2⟩; have hb2' := Lib.hid (below_call hbr.out hb2); have hd2 := Lib.hid (hdq.out.below hb2); clear hb2))
              go_roundw
              case rel => exact ⟨s + 1, by omega, by go_num, hns2, hb2', hd2⟩
              case measure => simp [intOf]; omega
            · have hf := Lib.hid (hf0.out l s hodd hle hst hq hno.out hns.out)
              have hc2 := Lib.hid (show Calls Tryd.prog 72 #[.agg (csD n (natP ps)), .int .i64 (s : Int), .int .i64 (l : Int)] wr (fun e w' => (∃ g c, e = .returned (.slice (some ⟨g, 0, none⟩) l c) ∧ Ints w' wr.heap.size (.slice (some ⟨g, 0, none⟩) l c) (natI (s :: arP (natP ps) s (l - 1) s))) ∧ Below wr.heap.size wr w') from hc.out.mono fun e w' h => by
                rcases h.1 with h1 | h1
                · unfold clo at hq; rw [hq] at h1; cases h1.1
                · exact ⟨h1.2, h.2⟩)
              clear hq hc
              go_wp2_with (first
                | (refine wl74 rfl _ rfl rfl hdq.out ?_)
                | (go_at_call 72; refine (hc2.out).mono ?_; rintro e w2 ⟨⟨g2, c2, rfl, hi2⟩, hb2⟩; have hi2' := Lib.hid (hi2.base hbr.out.size); have hb2' := Lib.hid (below_call hbr.out hb2); clear hb2 hi2))
              refine bodyPost_ret (results_tmp2 rfl _ _ _) rfl ?_
              exact ⟨_, _, _, rfl, hi2'.out, hf, hb2'.out⟩
          · obtain rfl : s = n := by omega
            have hno2 := Lib.hid (show ∀ l', l' < l + 2 → l' % 2 = 1 → ∀ s', s' < s → clo (natP ps) l' s' = false from fun l' h1 h2 s' h3 => by
              rcases Nat.lt_or_ge l' l with h | h
              · exact hno.out l' h h2 s' h3
              · have : l' = l := by omega
                rw [this]; exact hns.out s' h3)
            go_wp2
            go_roundw
            case rel => exact ⟨l + 2, by omega, by omega, by go_num, hno2, hbr, hdq⟩
            case measure => simp [intOf]; omega
      · have hf := Lib.hid (hf5.out (fun l' h1 h2 s' h3 => hno.out l' (by omega) h2 s' h3))
        have hgt : (n : Int) < l := by omega
        go_wp2
        refine bodyPost_ret (results_tmp2 rfl _ _ _) rfl ?_
        exact ⟨_, _, _, rfl, Ints.nil _ _, hf, hb.out⟩
end Go.Proofs.YtpcjigdmfchbdaaDoor
