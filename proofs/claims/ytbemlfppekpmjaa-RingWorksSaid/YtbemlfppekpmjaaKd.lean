import Derived.Test.YtbemlfppekpmjaaKc
import Derived.Deep.RegionWith
import Derived.Deep.CutRange
namespace Go.Proofs.Ytbemlfppekpmjaa
open Go.RowKit Rng
/-- What is due to worker `i` of the first letters, of the first workers. -/
def dueL (S : WS) (i k : Nat) : Nat := (S.fl.take k).countP fun l => (!l.ack && l.fr == i) || (l.ack && l.to == i)
def dueH (S : WS) (i k : Nat) : Nat := (S.hs.take k).countP fun h => h.par == i + 1
theorem take_succ_getD {α : Type} (d : α) (xs : List α) {k : Nat} (h : k < xs.length) : xs.take (k + 1) = xs.take k ++ [xs.getD k d] := by
  rw [List.take_add_one, List.getElem?_eq_getElem h, List.getD_eq_getElem?_getD, List.getElem?_eq_getElem h]; rfl
theorem dueL_succ (S : WS) (i : Nat) {k : Nat} (h : k < S.fl.length) : dueL S i (k + 1) = dueL S i k + if ((!(S.fl.getD k L0).ack && (S.fl.getD k L0).fr == i) || ((S.fl.getD k L0).ack && (S.fl.getD k L0).to == i)) = true then 1 else 0 := by
  unfold dueL
  rw [take_succ_getD L0 _ h, List.countP_append, List.countP_cons, List.countP_nil]; omega
theorem dueH_succ (S : WS) (i : Nat) {k : Nat} (h : k < S.n) : dueH S i (k + 1) = dueH S i k + if (S.hd k).par = i + 1 then 1 else 0 := by
  unfold dueH
  rw [take_succ_getD H0 _ h, List.countP_append, List.countP_cons, List.countP_nil]
  show _ + (0 + if ((S.hd k).par == i + 1) = true then 1 else 0) = _
  simp
theorem due_all (S : WS) (i : Nat) : dueL S i S.fl.length + dueH S i S.n = S.tk i + S.ak i + S.kids i := by
  have h1 : dueL S i S.fl.length = S.tk i + S.ak i := by
    unfold dueL WS.tk WS.ak
    rw [List.take_of_length_le (Nat.le_refl _)]
    induction S.fl with
    | nil => rfl
    | cons l xs ih =>
      simp only [List.countP_cons]
      rw [ih]
      cases l with
      | mk f t a => cases a <;> simp <;> omega
  have h2 : dueH S i S.n = S.kids i := by
    unfold dueH WS.kids WS.n
    rw [List.take_of_length_le (Nat.le_refl _)]
  omega
/-- Behind the copy of the letters. -/
def TCut (w : World) (b : Nat) (S : WS) (v : Value) (w4 : World) : Prop := ∃ a c, v = .slice a S.fl.length c ∧ WkK w b S w4 ∧ ∀ j, j < S.fl.length → ∃ g, a = some ⟨g, 0, none⟩ ∧ S.fl.length ≤ c ∧ w4.cell? ⟨g, j * 3, none⟩ = some (.int .i64 (S.fl.getD j L0).fr) ∧ w4.cell? ⟨g, j * 3 + 1, none⟩ = some (.int .i64 (S.fl.getD j L0).to) ∧ w4.cell? ⟨g, j * 3 + 2, none⟩ = some (.bool (S.fl.getD j L0).ack)
theorem WkK.cut {w0 w : World} {b : Nat} {S : WS} (h : WkK w0 b S w) : Calls Try.prog 37 #[.pointer (some ⟨b, 0, none⟩)] w fun e w' => ∃ v, e = .returned v ∧ TCut w0 b S v w' ∧ Below w.heap.size w w' := by
  obtain ⟨hb, hi, hh, c, fv, k⟩ := h
  refine (flight37 k (by have := hi.room; omega)).mono ?_
  rintro e w' ⟨v', rfl, ho, hb2⟩
  obtain ⟨a, c', e, hc, hcl⟩ := own_cells ho
  refine ⟨v', rfl, ⟨a, c', e, ⟨hb.trans (hb2.mono hb.size), hi, hh, c, fv, k.below hb2⟩, fun j hj => ?_⟩, hb2⟩
  obtain ⟨g, e2, _, _, h4⟩ := hcl (by omega)
  obtain ⟨f1, f2, f3⟩ := fl_at (ls := S.fl) (i := j) hj
  exact ⟨g, e2, hc, h4 _ _ f1, h4 _ _ f2, h4 _ _ f3⟩
set_option maxHeartbeats 8000000 in
set_option maxRecDepth 100000 in
theorem walk11 {w : World} {n : Int} {v : Value} {xs : List (Nat × Nat × Nat)} (hw : (Lit.int .u8 n).wf = true) (h : InTri w v xs) : Calls Try.prog 11 #[.int .u8 n, v] w (LawEnd w) := by
  obtain ⟨a, rfl, ha⟩ := byte_nat hw
  have hp := Lib.hid (played36 h ha)
  obtain ⟨ao, xc, rfl, -⟩ := tri_cells h
  obtain ⟨z, hz⟩ : ∃ z, z = a % 10 + 1 := ⟨_, rfl⟩
  have hz1 : 1 ≤ z ∧ z ≤ 10 := by omega
  rw [← hz] at hp
  clear h hw hz
  go_enter Try.func11, Try.ntmps11
  go_wp2_with (first
    | (go_at_call 36; refine hp.out.mono ?_; rintro e w1 ⟨b, m, S, rfl, hP⟩; have hP' := Lib.hid hP; clear hP)
    | (go_at_call 19; refine (lives19 _).mono ?_; rintro e w2 ⟨rfl, hb⟩
       have hPr := Lib.hid (hP'.out.2.2.2.below hb)
       obtain ⟨ta, tc, ht⟩ := hPr.out.tk
       rw [hP'.out.2.1] at ht
       have hK := Lib.hid (hPr.out.wk hP'.out.1)
       have hn := Lib.hid hP'.out.2.1
       have hkc := Lib.hid (hK.out.below (Below.refl _ _).drew).cut
       clear hb))
  clear hp hP'
  go_cut [7, 8] from 27 to 33 (fun p q wx => ∃ w4 : World, w4 = wx ∧ p = .int .i64 z ∧ TCut w b S q w4)
  case first =>
    go_region_with (go_at_call 37; refine hkc.out.mono ?_; rintro e w4 ⟨v4, rfl, hT, hb4⟩
                    have ht4 := (hb4.cell (p := ⟨m, 0, none⟩) (by obtain ⟨_, _, _, _, _, _, _, _, t, _⟩ := hPr.out; exact t.bw)).trans ht
                    have hT' := Lib.hid hT
                    clear hT hb4)
    all_goals (go_wp2_with fail; go_meet; exact ⟨_, rfl, rfl, hT'.out⟩)
  case rest =>
    obtain ⟨w4, rfl, rfl, hT⟩ := hcut
    obtain ⟨la, lc, rfl, K, hlt⟩ := hT
    have hv := Lib.hid K.2.1
    have hbW := Lib.hid K.1
    have hlt' := Lib.hid hlt
    obtain ⟨r, hr1, hr2⟩ := rank K.2.1
    have hr1' := Lib.hid hr1
    have hr2' := Lib.hid hr2
    have p40 := Lib.hid (fun (j : Nat) (hj : j < z) => (show Calls Try.prog 40 #[.pointer (some ⟨b, 0, none⟩), .int .i64 j] w4 fun e w' => e = .returned (.int .i64 (((S.hd j).par : Int) - 1)) ∧ w4 = w' by
      have := K.parent (j : Int)
      rw [if_pos (by have := hn.out; simp [inB]; omega), Int.toNat_natCast] at this; exact this))
    have p41 := Lib.hid (fun (j : Nat) (hj : j < z) => (show Calls Try.prog 41 #[.pointer (some ⟨b, 0, none⟩), .int .i64 j] w4 fun e w' => e = .returned (.bool (S.hd j).wk) ∧ w4 = w' by
      obtain ⟨_, _, _, _, _, k⟩ := K
      have := working41 k (j : Int)
      rw [show inB (j : Int) S.n = true by have := hn.out; simp [inB]; omega, Bool.true_and, Int.toNat_natCast] at this; exact this))
    have p42 := Lib.hid (fun (j : Nat) (hj : j < z) => (show Calls Try.prog 42 #[.pointer (some ⟨b, 0, none⟩), .int .i64 j] w4 fun e w' => e = .returned (.int .i64 (S.hd j).owed) ∧ w4 = w' by
      obtain ⟨_, _, _, _, _, k⟩ := K
      have := owed42 k (j : Int)
      rw [if_pos (by have := hn.out; simp [inB]; omega), Int.toNat_natCast] at this; exact this))
    obtain ⟨f, hf⟩ : ∃ f, f = S.fl.length := ⟨_, rfl⟩
    have hf' := Lib.hid hf
    have hf200 : f ≤ 200 := by rw [hf]; exact K.2.1.room
    rw [← hf]
    clear hf hlt hr1 hr2 K hkc hPr ht hK
    go_wp2_with fail
    go_loopw [9] (fun iv wr => ∃ i : Nat, i ≤ z ∧ iv = .int .i64 i ∧ Hid (Same w4 wr)) (fun iv _ => z - (intOf iv).toNat)
    case atStart => exact ⟨0, Nat.zero_le _, rfl, Lib.hid (show Same _ _ from rfl)⟩
    case round =>
      obtain ⟨i, hi, rfl, hw⟩ := hrel
      obtain rfl := hw.out
      by_cases hiz : i < z
      · have hiI : (i : Int) < (z : Int) := by omega
        have hin := Lib.hid (show i < S.n by rw [hn.out]; exact hiz)
        go_wp2_with fail
        go_loopw [10, 11] (fun tv kv wk => ∃ t k : Nat, tv = .int .i64 t ∧ kv = .int .i64 k ∧ Hid (t < S.n ∧ r t + k ≤ r i ∧ (t = i ∨ S.kids t ≠ 0)) ∧ Hid (Same w4 wk)) (fun _ kv _ => z - (intOf kv).toNat)
        case atStart => exact ⟨i, 0, rfl, rfl, Lib.hid ⟨hin.out, by omega, .inl rfl⟩, Lib.hid (show Same _ _ from rfl)⟩
        case round =>
          obtain ⟨t, k, rfl, rfl, hT, hw2⟩ := hrel
          obtain rfl := hw2.out
          have htz : t < z := by have := hT.out.1; have := hn.out; omega
          have hkz : k < z := by have := hT.out.2.1; have := hr1'.out i hin.out; have := hn.out; omega
          have hkI : (k : Int) < (z : Int) := by omega
          have hpar := Lib.hid (hv.out.par t hT.out.1)
          have q40 := Lib.hid (p40.out t htz)
          by_cases h0 : (S.hd t).par = 0
          · have q40' := Lib.hid (show Calls Try.prog 40 #[.pointer (some ⟨b, 0, none⟩), .int .i64 t] w4 fun e w' => e = .returned (.int .i64 (-1)) ∧ w4 = w' by have := q40.out; rw [h0] at this; exact this)
            have hti : t = i ∨ t = 0 := by
              rcases hT.out.2.2 with e | e
              · exact .inl e
              · have hdue := hv.out.due t hT.out.1
                rcases hv.out.held t hT.out.1 (by omega) with e2 | e2
                · exact .inr e2
                · exact absurd h0 e2
            have hwki := Lib.hid (hv.out.wkE i hin.out)
            have q41 := p41.out i hiz
            have r40 := Lib.hid (p40.out i hiz)
            have htp := Lib.hid h0
            clear q40 h0
            go_upto_region 15 with (go_at_call 40; refine q40'.out.mono ?_; rintro e wj ⟨rfl, rfl⟩)
            go_cut [78] from 57 to 78 (fun d wx => d = .bool false ∧ w4 = wx)
            case first =>
              cases hwk : (S.hd i).wk with
              | false =>
                rw [hwk] at q41
                have q41' := Lib.hid q41
                clear q41 hwk
                by_cases e : t = i
                · subst e
                  go_wp2_with (go_at_call 41; refine q41'.out.mono ?_; rintro e wj ⟨rfl, rfl⟩)
                  go_meet
                  exact ⟨rfl, rfl⟩
                · have ht0 : t = 0 := hti.resolve_left e
                  subst ht0
                  have hne : (((0 : Nat) : Int) == (i : Int)) = false := by simp; omega
                  have hne2 : ((0 : Int) == (i : Int)) = false := by simp; omega
                  go_wp2_with (go_at_call 41; refine q41'.out.mono ?_; rintro e wj ⟨rfl, rfl⟩)
                  go_meet
                  exact ⟨rfl, rfl⟩
              | true =>
                rw [hwk] at q41
                have q41' := Lib.hid q41
                have hwi := hwki.out hwk
                clear q41 hwk
                by_cases e : t = i
                · subst e
                  have hi0 : t = 0 := hwi.resolve_right (fun e => e htp.out)
                  subst hi0
                  go_wp2_with (go_at_call 41; refine q41'.out.mono ?_; rintro e wj ⟨rfl, rfl⟩)
                  go_meet
                  exact ⟨rfl, rfl⟩
                · have ht0 : t = 0 := hti.resolve_left e
                  subst ht0
                  have hi0 : ((i : Int) == 0) = false := by simp; omega
                  have hne : (((0 : Nat) : Int) == (i : Int)) = false := by simp; omega
                  have hne2 : ((0 : Int) == (i : Int)) = false := by simp; omega
                  obtain ⟨p, hp⟩ : ∃ p, (S.hd i).par = p + 1 := ⟨(S.hd i).par - 1, by have := hwi.resolve_left (by omega); omega⟩
                  have r40' := Lib.hid (show Calls Try.prog 40 #[.pointer (some ⟨b, 0, none⟩), .int .i64 i] w4 fun e w' => e = .returned (.int .i64 (p : Int)) ∧ w4 = w' by
                    have := r40.out
                    rw [hp, show (((p + 1 : Nat) : Int) - 1) = (p : Int) by omega] at this; exact this)
                  clear hp r40 hwi
                  go_wp2_with (first
                    | (go_at_call 41; refine q41'.out.mono ?_; rintro e wj ⟨rfl, rfl⟩)
                    | (go_at_call 40; refine r40'.out.mono ?_; rintro e wj ⟨rfl, rfl⟩))
                  go_meet
                  exact ⟨by simp [show ¬ ((p : Int) < 0) by omega], rfl⟩
            case rest =>
              obtain ⟨rfl, rfl⟩ := hcut
              clear hti q41 r40 htp hwki q40'
              go_wp2_with fail
              go_loopw [13, 12] (fun kv dv wk => ∃ k : Nat, k ≤ f ∧ kv = .int .i64 k ∧ dv = .int .i64 (dueL S i k) ∧ Hid (Same w4 wk)) (fun kv _ _ => f - (intOf kv).toNat)
              case atStart => exact ⟨0, Nat.zero_le _, rfl, rfl, Lib.hid (show Same _ _ from rfl)⟩
              case round =>
                obtain ⟨k, hk, rfl, rfl, hw3⟩ := hrel
                obtain rfl := hw3.out
                by_cases hkf : k < f
                · obtain ⟨g, rfl, hfc, l0, l1, l2⟩ := hlt'.out k (by rw [← hf'.out]; exact hkf)
                  rw [← hf'.out] at hfc
                  have hsu := dueL_succ S i (k := k) (by rw [← hf'.out]; exact hkf)
                  have hle : dueL S i k ≤ 200 := Nat.le_trans List.countP_le_length (by rw [List.length_take]; omega)
                  obtain ⟨⟨fr, tw, ac⟩, hL⟩ : ∃ l, l = S.fl.getD k L0 := ⟨_, rfl⟩
                  rw [← hL] at l0 l1 l2 hsu
                  simp only at l0 l1 l2 hsu
                  obtain ⟨d, hd⟩ : ∃ d, d = dueL S i k := ⟨_, rfl⟩
                  rw [← hd] at hsu hle ⊢
                  have hkI2 : (k : Int) < (f : Int) := by omega
                  have hd' := Lib.hid hd
                  clear hL hd
                  cases ac with
                  | false =>
                    by_cases e : fr = i
                    · subst e
                      have hs1 := Lib.hid (show dueL S fr (k + 1) = d + 1 by rw [hsu]; simp)
                      clear hsu
                      go_wp2_with fail
                      go_roundw
                      case rel => exact ⟨k + 1, by omega, by go_num, by rw [hs1.out]; go_num, Lib.hid (show Same _ _ from rfl)⟩
                      case measure => simp [intOf]; omega
                    · have hs1 := Lib.hid (show dueL S i (k + 1) = d by rw [hsu]; simp [e])
                      have hne : ((fr : Int) == (i : Int)) = false := by simp; omega
                      clear hsu
                      go_wp2_with fail
                      go_roundw
                      case rel => exact ⟨k + 1, by omega, by go_num, by rw [hs1.out], Lib.hid (show Same _ _ from rfl)⟩
                      case measure => simp [intOf]; omega
                  | true =>
                    by_cases e : tw = i
                    · subst e
                      have hs1 := Lib.hid (show dueL S tw (k + 1) = d + 1 by rw [hsu]; simp)
                      clear hsu
                      go_wp2_with fail
                      go_roundw
                      case rel => exact ⟨k + 1, by omega, by go_num, by rw [hs1.out]; go_num, Lib.hid (show Same _ _ from rfl)⟩
                      case measure => simp [intOf]; omega
                    · have hs1 := Lib.hid (show dueL S i (k + 1) = d by rw [hsu]; simp [e])
                      have hne : ((tw : Int) == (i : Int)) = false := by simp; omega
                      clear hsu
                      go_wp2_with fail
                      go_roundw
                      case rel => exact ⟨k + 1, by omega, by go_num, by rw [hs1.out], Lib.hid (show Same _ _ from rfl)⟩
                      case measure => simp [intOf]; omega
                · obtain rfl : k = f := by omega
                  obtain ⟨d0, hd0⟩ : ∃ d, d = dueL S i k := ⟨_, rfl⟩
                  have hd0le : d0 ≤ 200 := by rw [hd0]; exact Nat.le_trans List.countP_le_length (by rw [List.length_take]; omega)
                  rw [← hd0]
                  have hd0' := Lib.hid hd0
                  clear hd0
                  go_wp2_with fail
                  go_loopw [14, 12] (fun kv dv wk => ∃ j : Nat, j ≤ z ∧ kv = .int .i64 j ∧ dv = .int .i64 (d0 + dueH S i j : Nat) ∧ Hid (Same w4 wk)) (fun kv _ _ => z - (intOf kv).toNat)
                  case atStart => exact ⟨0, Nat.zero_le _, rfl, rfl, Lib.hid (show Same _ _ from rfl)⟩
                  case round =>
                    obtain ⟨j, hj, rfl, rfl, hw4⟩ := hrel
                    obtain rfl := hw4.out
                    by_cases hjz : j < z
                    · have hjI : (j : Int) < (z : Int) := by omega
                      have hsu := dueH_succ S i (k := j) (by rw [hn.out]; exact hjz)
                      have hle : dueH S i j ≤ 10 := Nat.le_trans List.countP_le_length (by rw [List.length_take]; omega)
                      have q40 := Lib.hid (p40.out j hjz)
                      obtain ⟨d, hd⟩ : ∃ d, d = dueH S i j := ⟨_, rfl⟩
                      rw [← hd] at hsu hle ⊢
                      by_cases e : (S.hd j).par = i + 1
                      · have q40' := Lib.hid (show Calls Try.prog 40 #[.pointer (some ⟨b, 0, none⟩), .int .i64 j] w4 fun e w' => e = .returned (.int .i64 (i : Int)) ∧ w4 = w' by
                          have := q40.out
                          rw [e, show (((i + 1 : Nat) : Int) - 1) = (i : Int) by omega] at this; exact this)
                        have hs1 := Lib.hid (show dueH S i (j + 1) = d + 1 by rw [hsu, if_pos e])
                        clear hsu q40 e hd
                        go_wp2_with (go_at_call 40; refine q40'.out.mono ?_; rintro e wj ⟨rfl, rfl⟩)
                        go_roundw
                        case rel => exact ⟨j + 1, by omega, by go_num, by rw [hs1.out]; go_num, Lib.hid (show Same _ _ from rfl)⟩
                        case measure => simp [intOf]; omega
                      · obtain ⟨y, hy⟩ : ∃ y : Int, y = ((S.hd j).par : Int) - 1 := ⟨_, rfl⟩
                        have q40' := Lib.hid (show Calls Try.prog 40 #[.pointer (some ⟨b, 0, none⟩), .int .i64 j] w4 fun e w' => e = .returned (.int .i64 y) ∧ w4 = w' by
                          have := q40.out
                          rw [← hy] at this; exact this)
                        have hne : (y == (i : Int)) = false := by simp; omega
                        have hs1 := Lib.hid (show dueH S i (j + 1) = d by rw [hsu, if_neg e]; rfl)
                        clear hsu q40 e hd hy
                        go_wp2_with (go_at_call 40; refine q40'.out.mono ?_; rintro e wj ⟨rfl, rfl⟩)
                        go_roundw
                        case rel => exact ⟨j + 1, by omega, by go_num, by rw [hs1.out]; go_num, Lib.hid (show Same _ _ from rfl)⟩
                        case measure => simp [intOf]; omega
                    · obtain rfl : j = z := by omega
                      have hdue := hv.out.due i hin.out
                      have hall := due_all S i
                      have q42 := p42.out i hiz
                      rw [show (S.hd i).owed = d0 + dueH S i j by rw [hd0'.out]; rw [hn.out, ← hf'.out] at hall; omega] at q42
                      have q42' := Lib.hid q42
                      obtain ⟨d, hd⟩ : ∃ d, d = d0 + dueH S i j := ⟨_, rfl⟩
                      rw [← hd] at q42' ⊢
                      clear q42 hdue hall hd
                      go_wp2_with (go_at_call 42; refine q42'.out.mono ?_; rintro e wj ⟨rfl, rfl⟩)
                      go_roundw
                      case rel => exact ⟨i + 1, by omega, by go_num, Lib.hid (show Same _ _ from rfl)⟩
                      case measure => simp [intOf]; omega
          · obtain ⟨p, hp⟩ : ∃ p, (S.hd t).par = p + 1 := ⟨(S.hd t).par - 1, by omega⟩
            have q40' := Lib.hid (show Calls Try.prog 40 #[.pointer (some ⟨b, 0, none⟩), .int .i64 t] w4 fun e w' => e = .returned (.int .i64 (p : Int)) ∧ w4 = w' by
              have := q40.out
              rw [hp, show (((p + 1 : Nat) : Int) - 1) = (p : Int) by omega] at this; exact this)
            have hpz : p < z := by have := hpar.out; have := hn.out; omega
            have hpI : (p : Int) < (z : Int) := by omega
            have hT2 := Lib.hid (show p < S.n ∧ r p + (k + 1) ≤ r i ∧ (p = i ∨ S.kids p ≠ 0) from ⟨by rw [hn.out]; exact hpz, by
              have := hr2'.out t hT.out.1 h0
              rw [hp] at this
              simp only [Nat.add_sub_cancel] at this
              have := hT.out.2.1
              omega, .inr (by have := kid_pos hT.out.1 hp; omega)⟩)
            clear q40 h0 hp hpar
            go_wp2_with (first
              | (go_at_call 40; refine q40'.out.mono ?_; rintro e wj ⟨rfl, rfl⟩))
            go_roundw
            case rel => exact ⟨p, k + 1, rfl, by go_num, hT2, Lib.hid (show Same _ _ from rfl)⟩
            case measure => simp [intOf]; omega
      · obtain rfl : i = z := by omega
        go_wp2_with fail
        go_ret
        exact ⟨rfl, hbW.out⟩
end Go.Proofs.Ytbemlfppekpmjaa
