import Derived.Test.YtccmabckmpelcaaL
namespace Go.Proofs.Ytccmabckmpelcaa
open Go.RowKit

def rightsB (fs rs ag : List Int) : Bool := flowB fs && decide (rs.length = fs.length) && amt rs && agesB ag fs.length

/-- One place takes ag many pieces ag are possible, at most `r`. -/
def serve (fs : List Int) (p : Nat) : Nat → List Int → List Int
  | 0, us => us
  | r + 1, us => if poss 0 fs (grow1 us p) = true then serve fs p r (grow1 us p) else us
def placeOf (ag : List Int) (age : Nat) : Nat := (idx (age : Nat) ag).toNat
def served (fs rs ag : List Int) : Nat → List Int
  | 0 => List.replicate fs.length 0
  | k + 1 => serve fs (placeOf ag k) (rs.getD (placeOf ag k) 0).toNat (served fs rs ag k)

def Bdd (us : List Int) (c : Int) : Prop := ∀ j, j < us.length → 0 ≤ us.getD j 0 ∧ us.getD j 0 ≤ c
theorem Bdd.nn {us : List Int} {c : Int} (h : Bdd us c) : NonNeg us := fun j hj => (h j hj).1
theorem Bdd.mono {us : List Int} {c d : Int} (h : Bdd us c) (hd : c ≤ d) : Bdd us d := fun j hj => by have := h j hj; omega
theorem Bdd.grow {us : List Int} {c : Int} (h : Bdd us c) (p : Nat) : Bdd (grow1 us p) (c + 1) := by
  intro j hj
  rw [grow1_len] at hj
  have a := h j hj
  by_cases hp : p < us.length
  · rw [grow1_at _ _ _ hp]
    have b := h p hp
    split <;> omega
  · have : grow1 us p = us := by unfold grow1; rw [List.set_eq_of_length_le (by omega)]
    rw [this]; omega
theorem serve_len (fs : List Int) (p : Nat) : ∀ r us, (serve fs p r us).length = us.length := by
  intro r
  induction r with
  | zero => intro us; rfl
  | succ r ih => intro us; unfold serve; split <;> simp [ih, grow1_len]
theorem serve_bdd (fs : List Int) (p : Nat) : ∀ r us c, Bdd us c → Bdd (serve fs p r us) (c + r) := by
  intro r
  induction r with
  | zero => intro us c h; exact h.mono (by omega)
  | succ r ih =>
    intro us c h
    unfold serve
    split
    · exact (ih _ _ (h.grow p)).mono (by omega)
    · exact h.mono (by omega)
theorem served_len (fs rs ag : List Int) (k : Nat) : (served fs rs ag k).length = fs.length := by
  induction k with
  | zero => simp [served]
  | succ k ih => rw [served, serve_len, ih]
theorem amt_at {l : List Int} (h : amt l = true) : ∀ j, j < l.length → 0 ≤ l.getD j 0 ∧ l.getD j 0 ≤ 30 := by
  intro j hj
  unfold amt at h
  rw [List.all_eq_true] at h
  have := h (l.getD j 0) (by rw [List.getD_eq_getElem?_getD, List.getElem?_eq_getElem hj]; exact List.getElem_mem _)
  simp only [Bool.and_eq_true, decide_eq_true_eq] at this
  exact this
theorem amt_any {l : List Int} (h : amt l = true) (j : Nat) : 0 ≤ l.getD j 0 ∧ l.getD j 0 ≤ 30 := by
  by_cases hj : j < l.length
  · exact amt_at h j hj
  · rw [List.getD_eq_getElem?_getD, List.getElem?_eq_none (by omega)]; simp
theorem served_bdd (fs rs ag : List Int) (hr : amt rs = true) (k : Nat) : Bdd (served fs rs ag k) (30 * k) := by
  induction k with
  | zero => intro j _; rw [served, zeros_at]; omega
  | succ k ih =>
    rw [served]
    exact (serve_bdd fs _ _ _ _ ih).mono (by have := amt_any hr (placeOf ag k); omega)

theorem flowB_facts {fs : List Int} (h : flowB fs = true) : 1 ≤ fs.length ∧ fs.length ≤ 8 ∧ amt fs = true ∧ FlowOk fs := by
  unfold flowB at h
  simp only [Bool.and_eq_true, decide_eq_true_eq] at h
  obtain ⟨⟨h1, h2⟩, h3⟩ := h
  exact ⟨h1, h2, h3, by omega, fun j hj => by have := amt_at h3 j hj; omega⟩

set_option maxHeartbeats 1000000 in
set_option maxRecDepth 100000 in
theorem calls34_bad {w : World} {u v z : Value} {fs rs ag : List Int} (hu : Reads w u fs) (hv : Reads w v rs) (hz : Reads w z ag) (h1 : fs.length ≤ 1000000) (h2 : rs.length ≤ 1000000) (h3 : ag.length ≤ 1000000) (hb : rightsB fs rs ag = false) :
    Calls Try.prog 34 #[u, v, z] w fun e w' => e = .returned (.tuple #[.slice none 0 0, .int .i64 1]) ∧ w = w' := by
  have hu' := Lib.hid hu
  have hv' := Lib.hid hv
  have hz' := Lib.hid hz
  obtain ⟨fo, fc, rfl, _, _⟩ := hu
  obtain ⟨ro, rc, rfl, _, _⟩ := hv
  obtain ⟨ao, ac, rfl, _, _⟩ := hz
  by_cases ha : flowB fs = true
  · by_cases hl : rs.length = fs.length
    · rw [hl] at hv' ⊢
      by_cases hr : amt rs = true
      · have hg : agesB ag fs.length = false := by
          unfold rightsB at hb
          simpa [ha, hl, hr] using hb
        go_enter Try.func34, Try.ntmps34
        go_wp2_with (first | (go_at_call 50; refine (flow50 hu'.out h1).mono ?_; rw [ha]; rintro e w1 ⟨rfl, rfl⟩) | (go_at_call 51; refine (amounts51 hv'.out h2).mono ?_; rw [hr]; rintro e w1 ⟨rfl, rfl⟩) | (go_at_call 52; refine (ages52 hz'.out h3 _ h1).mono ?_; rw [hg]; rintro e w1 ⟨rfl, rfl⟩))
        go_ret2
        exact ⟨rfl, rfl⟩
      · have hr1 : amt rs = false := by simpa using hr
        clear hr
        go_enter Try.func34, Try.ntmps34
        go_wp2_with (first | (go_at_call 50; refine (flow50 hu'.out h1).mono ?_; rw [ha]; rintro e w1 ⟨rfl, rfl⟩) | (go_at_call 51; refine (amounts51 hv'.out h2).mono ?_; rw [hr1]; rintro e w1 ⟨rfl, rfl⟩))
        go_ret2
        exact ⟨rfl, rfl⟩
    · have hb2 : ((rs.length : Int) != (fs.length : Int)) = true := by simp; omega
      go_enter Try.func34, Try.ntmps34
      go_wp2_with (first | (go_at_call 50; refine (flow50 hu'.out h1).mono ?_; rw [ha]; rintro e w1 ⟨rfl, rfl⟩))
      go_ret2
      exact ⟨rfl, rfl⟩
  · have ha1 : flowB fs = false := by simpa using ha
    clear ha
    go_enter Try.func34, Try.ntmps34
    go_wp2_with (first | (go_at_call 50; refine (flow50 hu'.out h1).mono ?_; rw [ha1]; rintro e w1 ⟨rfl, rfl⟩))
    go_ret2
    exact ⟨rfl, rfl⟩

set_option maxHeartbeats 2000000 in
set_option maxRecDepth 100000 in
theorem calls34 {w : World} {u v z : Value} {fs rs ag : List Int} (hu : Reads w u fs) (hv : Reads w v rs) (hz : Reads w z ag) (hb : rightsB fs rs ag = true) :
    Calls Try.prog 34 #[u, v, z] w fun e w' => ∃ x, e = .returned (.tuple #[x, .int .i64 0]) ∧ Reads w' x (served fs rs ag fs.length) ∧ Below w.heap.size w w' := by
  unfold rightsB at hb
  simp only [Bool.and_eq_true, decide_eq_true_eq] at hb
  obtain ⟨⟨⟨ha, hl⟩, hr⟩, hg⟩ := hb
  obtain ⟨_, h8, _, hfo⟩ := flowB_facts ha
  have hla : ag.length = fs.length := by
    unfold agesB at hg
    simp only [Bool.and_eq_true, decide_eq_true_eq] at hg
    exact hg.1
  have hgg : hasB ag fs.length = true := by
    unfold agesB at hg
    simp only [Bool.and_eq_true, decide_eq_true_eq] at hg
    exact hg.2
  obtain ⟨n, hn⟩ : ∃ n, n = fs.length := ⟨_, rfl⟩
  have hu' := Lib.hid hu
  have hv' := Lib.hid hv
  have hz' := Lib.hid hz
  obtain ⟨fo, fc, rfl, _, _⟩ := hu
  obtain ⟨ro, rc, rfl, _, hro⟩ := hv
  obtain ⟨ao, ac, rfl, _, _⟩ := hz
  rw [← hn] at h8 hu' hg hgg
  rw [hl, ← hn] at hv'
  rw [hla, ← hn] at hz'
  rw [hla, hl, ← hn]
  have hro' := Lib.hid hro
  have hfo' := Lib.hid hfo
  have hn' := Lib.hid hn
  have hl' := Lib.hid hl
  have hla' := Lib.hid hla
  have hgg' := Lib.hid hgg
  clear hro hfo hn hl hla hgg
  go_enter Try.func34, Try.ntmps34
  go_wp2_with (first | (go_at_call 50; refine (flow50 hu'.out (by rw [← hn'.out]; omega)).mono ?_; rw [ha]; rintro e w1 ⟨rfl, rfl⟩) | (go_at_call 51; refine (amounts51 hv'.out (by rw [hl'.out, ← hn'.out]; omega)).mono ?_; rw [hr]; rintro e w1 ⟨rfl, rfl⟩) | (go_at_call 52; refine (ages52 hz'.out (by rw [hla'.out, ← hn'.out]; omega) _ (by omega)).mono ?_; rw [hg]; rintro e w1 ⟨rfl, rfl⟩) | (at_make; refine make_row n (by omega) (Nat.le_refl w.heap.size) rfl _ _ rfl rfl rfl ?_; intro w3 hr3 hb3))
  have hr3' := hr3.reads
  clear hr3
  go_loopw [8, 39] (fun p i wr => ∃ (k : Nat), k ≤ n ∧ i = .int .i64 k ∧ Reads wr p (served fs rs ag k) ∧ Below w.heap.size w wr) (fun _ i _ => n - (intOf i).toNat)
  case atStart => exact ⟨0, Nat.zero_le _, rfl, by rw [served, ← hn'.out]; exact hr3', hb3⟩
  case round =>
    obtain ⟨k, hk, rfl, hus, hb⟩ := hrel
    by_cases hlt : k < n
    · obtain ⟨pl, hpl1, hpl2⟩ : ∃ pl : Nat, idx (k : Nat) ag = (pl : Int) ∧ pl < n := by
        rcases idx_cases (k : Nat) ag with ⟨h1, _⟩ | ⟨j, h1, h2, _⟩
        · have := hasB_at hlt hgg'.out
          omega
        · exact ⟨j, h2, by rw [hn'.out, ← hla'.out]; exact h1⟩
      have hpo := Lib.hid (show placeOf ag k = pl by unfold placeOf; rw [hpl1]; rfl)
      have e1 := hl'.out
      have e2 := hn'.out
      obtain ⟨g, o, rfl, hg, hc1⟩ := hro'.out (fun e => by rw [e] at e1; simp at e1; omega)
      have c1 := (hb.cell (p := ⟨g, o + pl, none⟩) hg).trans (hc1 pl (by omega))
      have bb := amt_any hr pl
      clear hc1 e1 e2
      obtain ⟨r, hrr⟩ : ∃ r : Nat, (r : Int) = rs.getD pl 0 := ⟨(rs.getD pl 0).toNat, by omega⟩
      rw [← hrr] at c1 bb
      have hrr' := Lib.hid hrr
      have hpl1' := Lib.hid hpl1
      obtain ⟨ua, uc, rfl, hul, _⟩ := id hus
      have hul2 := Lib.hid (show (served fs rs ag k).length = n by rw [served_len, ← hn'.out])
      rw [hul2.out] at hus hul ⊢
      have hus' := Lib.hid hus
      have hsv := Lib.hid (show served fs rs ag (k + 1) = serve fs pl r (served fs rs ag k) by rw [served, hpo.out, ← hrr'.out]; rfl)
      have hbd := Lib.hid (served_bdd fs rs ag hr k)
      obtain ⟨_, bb⟩ := bb
      clear hus hrr hpl1
      go_wp2_with fail
      refine (index53 (hz'.out.below hb) (by rw [hla'.out, ← hn'.out]; omega) _).mono ?_
      rw [hpl1'.out]
      rintro e w4 ⟨rfl, rfl⟩
      go_wp2_with fail
      obtain ⟨wo, hwo⟩ : ∃ wo : World, wo = wr := ⟨_, rfl⟩
      go_loopw [8, 49] (fun p i wr => ∃ (j : Nat) (us : List Int), j ≤ r ∧ i = .int .i64 j ∧ Reads wr p us ∧ Hid (us.length = n) ∧ Hid (Bdd us (30 * k + j)) ∧ Hid (served fs rs ag (k + 1) = serve fs pl (r - j) us) ∧ Below w.heap.size w wr) (fun _ i _ => r - (intOf i).toNat)
      case atStart => exact ⟨0, _, Nat.zero_le _, rfl, hus'.out, hul2, Lib.hid (hbd.out.mono (by omega)), hsv, hb⟩
      case round =>
        obtain ⟨j, us, hj, rfl, hvs, hvl, hvb, hveq, hbj⟩ := hrel
        obtain ⟨va, vc, rfl, hvc, _⟩ := id hvs
        rw [hvl.out] at hvs hvc ⊢
        have hvs' := Lib.hid hvs
        clear hvs
        by_cases hjr : j < r
        · have hvb2 := hvb.out pl (by rw [hvl.out]; exact hpl2)
          have hst := Lib.hid (show serve fs pl (r - j) us = if poss 0 fs (grow1 us pl) = true then serve fs pl (r - (j + 1)) (grow1 us pl) else us by
            rw [show r - j = r - (j + 1) + 1 from by omega, serve])
          obtain ⟨hv1, hv2⟩ := hvb2
          have hv3 : us.getD pl 0 ≤ 1000000 := by omega
          have hv1' := Lib.hid hv1
          have hv3' := Lib.hid hv3
          clear hv1 hv2 hv3
          go_wp2_with fail
          refine (grown48 hvs'.out pl (by rw [hvl.out]; exact hpl2) (by rw [hvl.out]; omega) hv1'.out hv3'.out).mono ?_
          rintro e w5 ⟨x, rfl, hx, hb5⟩
          have hx' := Lib.hid hx
          obtain ⟨xa, xc, rfl, _, _⟩ := hx
          go_wp2_with fail
          have hbb := below_call hbj hb5
          refine (possible40 (hu'.out.below hbb) hx'.out (by rw [grow1_len, hvl.out, ← hn'.out]) hfo'.out (hvb.out.grow pl).nn).mono ?_
          rintro e w6 ⟨rfl, rfl⟩
          by_cases hp : poss 0 fs (grow1 us pl) = true
          · rw [hp]
            go_wp2_with fail
            go_roundw
            case rel => exact ⟨j + 1, _, by omega, by go_num, hx'.out, Lib.hid (by rw [grow1_len, hvl.out]), Lib.hid ((hvb.out.grow pl).mono (by omega)), Lib.hid (by rw [hveq.out, hst.out, if_pos hp]), hbb⟩
            case measure => simp [intOf]; omega
          · have hp1 : poss 0 fs (grow1 us pl) = false := by simpa using hp
            have hend := Lib.hid (show served fs rs ag (k + 1) = us by rw [hveq.out, hst.out, if_neg hp])
            rw [hp1]
            clear hp
            go_wp2_with fail
            go_roundw
            case rel => exact ⟨k + 1, by omega, by go_num, by rw [hend.out]; have := hvs'.out.below hb5; exact this, hbb⟩
            case measure => simp [intOf]; omega
        · have hend := Lib.hid (show served fs rs ag (k + 1) = us by rw [hveq.out, show r - j = 0 from by omega]; rfl)
          go_wp2_with fail
          go_roundw
          case rel => exact ⟨k + 1, by omega, by go_num, by rw [hend.out]; exact hvs'.out, hbj⟩
          case measure => simp [intOf]; omega
    · have hkn : n = k := by omega
      subst hkn
      have hul2 := Lib.hid (show (served fs rs ag n).length = n by rw [served_len, ← hn'.out])
      obtain ⟨ua, uc, rfl, hul, _⟩ := id hus
      have hus' := Lib.hid hus
      clear hus
      go_wp2
      go_ret2
      exact ⟨_, rfl, hus'.out, hb⟩
end Go.Proofs.Ytccmabckmpelcaa
