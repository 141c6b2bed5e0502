import Derived.Test.YtfobdlllghpelaaS
import Derived.Test.YtfobdlllghpelaaP
namespace Go.Proofs.Ytfobdlllghpelaa
open Go.RowKit Go.Shelf Pair
attribute [local go_sem] Oper.semAt_some

/-- A set is before another: it is less, or it is as great and earlier. -/
def befB (l b : List Nat) : Bool := decide (orI ((l.length : Int) - b.length) (cmpL (natI l) (natI b)) < 0)
def lkStep : Option (List Nat) → List Nat → Option (List Nat)
  | none, l => some l
  | some b, l => if befB l b then some l else some b
/-- The rows of a set have too few columns. -/
def lackB (al : List Nat) (R : Nat) : Bool := decide (szS (hdlK al (bl R)) < szS R)
def lkM (al : List Nat) : Nat → Option (List Nat)
  | 0 => none
  | R + 1 => if lackB al R then lkStep (lkM al R) (bl R) else lkM al R
def LkIs (wr : World) (B : Nat) (v : Value) : Option (List Nat) → Prop
  | none => v = .slice none 0 0
  | some l => ListAt wr B v (natI l) ∧ l.length ≤ 8 ∧ l ≠ []
def LkEnd (w : World) (o : Option (List Nat)) (e : Ending) (w' : World) : Prop :=
  (∃ v, e = .returned (.tuple #[v, .int .i64 (if o = none then 5 else 0)]) ∧ LkIs w' w.heap.size v o) ∧ Below w.heap.size w w'
theorem LkIs.below {w w' : World} {B : Nat} {v : Value} : ∀ {o : Option (List Nat)}, LkIs w B v o → Below w.heap.size w w' → LkIs w' B v o
  | none, h, _ => h
  | some _, h, hb => ⟨⟨h.1.1.below hb, h.1.2⟩, h.2⟩
theorem natI_len (l : List Nat) : (natI l).length = l.length := by simp [natI]
theorem list_val {w : World} {B : Nat} {v : Value} {l : List Nat} (h : ListAt w B v (natI l)) (hne : l ≠ []) :
    ∃ g cap, v = .slice (some ⟨g, 0, none⟩) l.length cap ∧ Reads w (.slice (some ⟨g, 0, none⟩) l.length cap) (natI l) := by
  obtain ⟨g, cap, he, _⟩ := ints_parts h.1 (by intro e; exact hne (by simpa [natI] using e))
  rw [natI_len] at he
  subst he
  exact ⟨g, cap, rfl, h.1.shape⟩
theorem lack_ne {al : List Nat} {R : Nat} (h : lackB al R = true) : bl R ≠ [] := by
  intro e
  unfold lackB at h
  simp only [decide_eq_true_eq] at h
  have : szS R = (bl R).length := rfl
  rw [this, e] at h
  simp at h
theorem shl_tab : ∀ n : Nat, n ≤ 8 → IntKind.u64.wrap ((2 : Int) ^ n) = ((2 ^ n : Nat) : Int) := by decide +kernel

set_option maxHeartbeats 4000000 in
set_option maxRecDepth 100000 in
theorem lacks30_bad {w : World} {v : Value} {cs : List (List Int)} (h : Cst w v cs) (hb : validC cs = false) (lim : Int) :
    Calls Try.prog 30 #[v, .int .i64 lim] w fun e w' => e = .returned (.tuple #[.slice none 0 0, .int .i64 1]) ∧ Below w.heap.size w w' := by
  have hv := Lib.hid (valid48' h)
  rw [hb] at hv
  clear h
  go_enter Try.func30, Try.ntmps30
  go_wp2_with fail
  refine (hv.out).mono ?_
  rintro e w1 ⟨rfl, rfl⟩
  go_wp2_with fail
  go_ret2
  exact ⟨rfl, Below.refl _ _⟩

set_option maxHeartbeats 4000000 in
set_option maxRecDepth 100000 in
theorem lacks30 {w : World} {v : Value} {cs : List (List Int)} {n : Nat} (h : Cst w v cs) (hb : validC cs = true) (hg : Good cs n) (lim : Int) :
    Calls Try.prog 30 #[v, .int .i64 lim] w (LkEnd w (lkM (alwL cs 0 lim n) (2 ^ n))) := by
  have hv := Lib.hid (valid48' h)
  rw [hb] at hv
  have hal := Lib.hid (allowed62 (h.sq hg) hg.eight 0 lim)
  have hp := shl_tab n hg.eight
  have hN1 := pow_le n hg.eight
  have h256 := Lib.hid (fun i => Nat.lt_of_lt_of_le (show (alwL cs 0 lim n).getD i 0 < 2 ^ n from ?lt) hN1)
  case lt =>
    unfold alwL
    by_cases hi : i < n
    · rw [List.getD_eq_getElem?_getD]; simp [hi]; exact maskTo_lt _ (Nat.le_refl _)
    · rw [List.getD_eq_getElem?_getD]; simp [hi]; exact Nat.pow_pos (by decide)
  have hn8 := hg.eight
  obtain ⟨ao, c, rfl⟩ := (h.sq hg).val
  obtain ⟨N, hN⟩ : ∃ N, N = 2 ^ n := ⟨_, rfl⟩
  rw [← hN] at hp hN1 ⊢
  obtain ⟨al, hal2⟩ : ∃ al, al = alwL cs 0 lim n := ⟨_, rfl⟩
  rw [← hal2] at hal h256 ⊢
  have hN' := Lib.hid hN
  clear hN h hg hal2 hb
  have hnil := nil_eq
  have hhd := Lib.hid (fun (w : World) (BA gA R : Nat) (hA : SRow w BA gA n al) (hR : R < N) => handles63 hA h256.out (by rw [← hN'.out]; exact hR) hn8)
  have hh256 := Lib.hid (fun (l : List Nat) => hdlK_lt h256.out l)
  go_enter Try.func30, Try.ntmps30
  go_wp2_with fail
  refine (hv.out).mono ?_
  rintro e w1 ⟨rfl, rfl⟩
  go_wp2_with fail
  refine (hal.out).mono ?_
  rintro e w1 ⟨gA, rfl, hA, hb1⟩
  have hA' := Lib.hid hA
  have hb1' := Lib.hid hb1
  clear hA hb1
  go_wp2_with fail
  go_loopw [7, 19] (fun vb iv wr => ∃ R : Nat, R ≤ N ∧ iv = .int .u64 R ∧ Hid (LkIs wr w.heap.size vb (lkM al R)) ∧ Hid (SRow wr w.heap.size gA n al) ∧ Hid (Below w.heap.size w wr)) (fun _ iv _ => N - (intOf iv).toNat)
  case atStart => exact ⟨0, Nat.zero_le _, rfl, Lib.hid rfl, hA', hb1'⟩
  case round =>
    obtain ⟨R, hR, rfl, hk, hA, hbw⟩ := hrel
    by_cases hlt : R < N
    · have hR8 : R < 256 := by omega
      have hcall := Lib.hid (hhd.out wr _ gA R hA.out hlt)
      go_wp2_with fail
      refine (hcall.out).mono ?_
      rintro e w2 ⟨rfl, hb2⟩
      have hH := hh256.out (bl R)
      have hA2 := Lib.hid (hA.out.below hb2)
      have hk2 := Lib.hid (hk.out.below hb2)
      have hbw2 := Lib.hid (hbw.out.trans (hb2.mono hbw.out.size))
      have hlk := Lib.hid (show lackB al R = decide (szS (hdlK al (bl R)) < szS R) from rfl)
      obtain ⟨H, hHq⟩ : ∃ H, H = hdlK al (bl R) := ⟨_, rfl⟩
      rw [← hHq] at hH hlk ⊢
      clear hHq hb2 hcall hA hk hbw
      have hs1 := Lib.hid (fun (w : World) => size64 (w := w) hH)
      have hs2 := Lib.hid (fun (w : World) => size64 (w := w) hR8)
      obtain ⟨p, hp1⟩ : ∃ p, p = szS H := ⟨_, rfl⟩
      obtain ⟨q, hq1⟩ : ∃ q, q = szS R := ⟨_, rfl⟩
      rw [← hp1] at hs1 hlk
      rw [← hq1] at hs2 hlk
      clear hp1 hq1
      go_wp2_with fail
      refine (hs1.out _).mono ?_
      rintro e w3 ⟨rfl, rfl⟩
      go_wp2_with fail
      refine (hs2.out _).mono ?_
      rintro e w3 ⟨rfl, rfl⟩
      by_cases hpq : p < q
      · have hpq' : ¬ ((q : Int) ≤ (p : Int)) := by omega
        have hl := Lib.hid (show lackB al R = true by rw [hlk.out]; simpa using hpq)
        have hst := Lib.hid (show lkM al (R + 1) = lkStep (lkM al R) (bl R) by show (if lackB al R then _ else _) = _; rw [if_pos hl.out])
        go_wp2_with fail
        refine (list65 hR8).mono ?_
        rintro e w3 ⟨v3, rfl, hv3, hb3⟩
        have hne := lack_ne hl.out
        have hbl8 := bl_len R
        have hnew := Lib.hid (show LkIs w3 w.heap.size v3 (some (bl R)) from ⟨⟨hv3.1.base hbw2.out.size, hv3.2⟩, hbl8, hne⟩)
        have hk3 := Lib.hid (hk2.out.below hb3)
        have hA3 := Lib.hid (hA2.out.below hb3)
        have hbw3 := Lib.hid (hbw2.out.trans (hb3.mono hbw2.out.size))
        obtain ⟨g3, cap3, rfl, hr3⟩ := list_val hv3 hne
        have hr3' := Lib.hid hr3
        have hnl := Lib.hid (natI_len (bl R))
        obtain ⟨L, hL⟩ : ∃ L, L = bl R := ⟨_, rfl⟩
        rw [← hL] at hst hnew hr3' hbl8 hnl ⊢
        obtain ⟨m3, hm3⟩ : ∃ m, m = L.length := ⟨_, rfl⟩
        rw [← hm3] at hr3' hbl8 hnl hnew ⊢
        have hm3' := Lib.hid hm3
        clear hv3 hb3 hr3 hL hne hk2 hA2 hbw2 hm3
        obtain ⟨o, ho⟩ : ∃ o, o = lkM al R := ⟨_, rfl⟩
        rw [← ho] at hk3 hst
        clear ho
        cases o with
        | none =>
          have e7 : u7 = .slice none 0 0 := hk3.out
          subst e7
          have hst' := Lib.hid (show lkM al (R + 1) = some L from hst.out)
          go_wp2_with fail
          go_roundw
          case rel => exact ⟨R + 1, by omega, by go_num, Lib.hid (by rw [hst'.out]; exact hnew.out), hA3, hbw3⟩
          case measure => simp [intOf]; omega
        | some b =>
          obtain ⟨hvb, hb8, hbne⟩ := hk3.out
          obtain ⟨gb, capb, rfl, hrb⟩ := list_val hvb hbne
          have hst' := Lib.hid (show lkM al (R + 1) = if befB L b then some L else some b from hst.out)
          have hbef := Lib.hid (show befB L b = decide (orI ((m3 : Int) - b.length) (cmpL (natI L) (natI b)) < 0) by rw [hm3'.out]; rfl)
          have hcm := Lib.hid (compare52 hr3'.out hrb (by rw [hnl.out]; omega))
          obtain ⟨mb, hmb⟩ : ∃ m, m = b.length := ⟨_, rfl⟩
          rw [← hmb] at hbef hcm hb8 hk3 ⊢
          clear hmb hrb hvb hbne
          obtain ⟨C, hC⟩ : ∃ C, C = cmpL (natI L) (natI b) := ⟨_, rfl⟩
          rw [← hC] at hbef hcm
          clear hC
          have hsub : IntKind.i64.wrap ((m3 : Int) - (mb : Int)) = (m3 : Int) - mb := by simp [IntKind.wrap_i64]; omega
          go_wp2_with fail
          refine (hcm.out).mono ?_
          rintro e w4 ⟨rfl, rfl⟩
          go_wp2_with fail
          refine (or51 (w := w3.alloc (.cells #[.int .i64 ((m3 : Int) - (mb : Int)), .int .i64 C] 3)) (a := (m3 : Int) - mb) (b := C) (by rw [World.cell?_alloc_at (hn := rfl)]; rfl) (by rw [World.cell?_alloc_at (hn := rfl)]; rfl)).mono ?_
          rintro e w5 ⟨rfl, rfl⟩
          have hbx := below_alloc1 w3 (.cells #[.int .i64 ((m3 : Int) - (mb : Int)), .int .i64 C] 3)
          have hA5 := Lib.hid (hA3.out.below hbx)
          have hbw5 := Lib.hid (hbw3.out.trans (hbx.mono hbw3.out.size))
          have hk5 := Lib.hid (hk3.out.below hbx)
          have hnew5 := Lib.hid (hnew.out.below hbx)
          obtain ⟨w6, hw6⟩ : ∃ w6, w6 = w3.alloc (.cells #[.int .i64 ((m3 : Int) - (mb : Int)), .int .i64 C] 3) := ⟨_, rfl⟩
          rw [← hw6] at hA5 hbw5 hk5 hnew5 ⊢
          clear hbx hw6 hA3 hbw3 hk3 hnew hsub
          obtain ⟨Z, hZ⟩ : ∃ Z, Z = orI ((m3 : Int) - mb) C := ⟨_, rfl⟩
          rw [← hZ] at hbef ⊢
          clear hZ
          by_cases hz : Z < 0
          · have hst2 := Lib.hid (show lkM al (R + 1) = some L by rw [hst'.out, hbef.out]; simp [hz])
            go_wp2_with fail
            go_roundw
            case rel => exact ⟨R + 1, by omega, by go_num, Lib.hid (by rw [hst2.out]; exact hnew5.out), hA5, hbw5⟩
            case measure => simp [intOf]; omega
          · have hst2 := Lib.hid (show lkM al (R + 1) = some b by rw [hst'.out, hbef.out]; simp [hz])
            go_wp2_with fail
            go_roundw
            case rel => exact ⟨R + 1, by omega, by go_num, Lib.hid (by rw [hst2.out]; exact hk5.out), hA5, hbw5⟩
            case measure => simp [intOf]; omega
      · have hpq' : (q : Int) ≤ (p : Int) := by omega
        have hl := Lib.hid (show lackB al R = false by rw [hlk.out]; simpa using hpq)
        have hst := Lib.hid (show lkM al (R + 1) = lkM al R by show (if lackB al R then _ else _) = _; rw [if_neg (by rw [hl.out]; simp)])
        go_wp2_with fail
        go_roundw
        case rel => exact ⟨R + 1, by omega, by go_num, Lib.hid (by rw [hst.out]; exact hk2.out), hA2, hbw2⟩
        case measure => simp [intOf]; omega
    · obtain rfl : R = N := by omega
      obtain ⟨o, ho⟩ : ∃ o, o = lkM al R := ⟨_, rfl⟩
      rw [← ho] at hk
      have ho' := Lib.hid ho
      clear ho
      cases o with
      | none =>
        have e7 : u7 = .slice none 0 0 := hk.out
        subst e7
        go_wp2_with fail
        go_ret2
        exact ⟨⟨_, by rw [← ho'.out]; rfl, by rw [← ho'.out]; rfl⟩, hbw.out⟩
      | some b =>
        obtain ⟨hvb, hb8, hbne⟩ := hk.out
        obtain ⟨gb, capb, rfl, hrb⟩ := list_val hvb hbne
        have hk' := Lib.hid (show ListAt wr w.heap.size (.slice (some ⟨gb, 0, none⟩) b.length capb) (natI b) ∧ b.length ≤ 8 ∧ b ≠ [] from ⟨hvb, hb8, hbne⟩)
        clear hvb hb8 hbne hrb hk
        go_wp2_with fail
        go_ret2
        exact ⟨⟨_, by rw [← ho'.out]; rfl, by rw [← ho'.out]; exact hk'.out⟩, hbw.out⟩
end Go.Proofs.Ytfobdlllghpelaa
