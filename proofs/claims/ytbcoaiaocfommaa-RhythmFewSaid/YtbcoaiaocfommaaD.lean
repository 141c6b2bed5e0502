import Derived.Test.YtbcoaiaocfommaaC
import Derived.IntWalk
namespace Go.Proofs.Ytbcoaiaocfommaa
open Go.RowKit

theorem local31_bad (s : ByteArray) (w : World) (hs : s.size ≤ maxLen) (hc : chk s ≠ 0) :
    Calls Try.prog 31 #[.string s] w (MadeE w [] (chk s)) := by
  have hc1 : (chk s != 0) = true := by simpa using hc
  clear hc
  go_enter Try.func31, Try.ntmps31
  go_wp2_with (first | (go_at_call 55; refine (check55 _ _ hs).mono ?_; rintro e w1 ⟨rfl, rfl⟩))
  go_ret2
  exact ⟨_, rfl, Ints.nil _ _, Below.refl _ _⟩

theorem local31 (s : ByteArray) (w : World) (hc : chk s = 0) :
    Calls Try.prog 31 #[.string s] w (MadeE w (locs s.data.toList (s.size - 1)) 0) := by
  obtain ⟨h1, h2, hg⟩ := chk_size hc
  have hs : s.size ≤ 1000000 := by omega
  have hc1 : (chk s != 0) = false := by simpa using hc
  have hm : s.size ≤ maxLen := by unfold maxLen; omega
  clear hg hc
  go_enter Try.func31, Try.ntmps31
  go_wp2_with (first | (go_at_call 55; refine (check55 _ _ hm).mono ?_; rintro e w1 ⟨rfl, rfl⟩) | (go_at_call 59; refine (locals59 _ _ h1 hs).mono ?_; rintro e w1 ⟨v, rfl, hv, hb⟩))
  go_ret2
  exact ⟨_, rfl, hv, hb⟩

/-! ## critical positions -/
def crits (l : List UInt8) (p : Nat) : Nat → List Int
  | 0 => []
  | k + 1 => if localP l (k + 1) = p then crits l p k ++ [((k : Int) + 1)] else crits l p k
theorem crits_le (l : List UInt8) (p k : Nat) : (crits l p k).length ≤ k := by
  induction k with
  | zero => simp [crits]
  | succ k ih =>
    unfold crits; split
    · rw [List.length_append, List.length_singleton]; omega
    · omega
theorem crits_yes {l : List UInt8} {p k : Nat} (h : localP l (k + 1) = p) : crits l p (k + 1) = crits l p k ++ [(k : Int) + 1] := by rw [crits, if_pos h]
theorem crits_no {l : List UInt8} {p k : Nat} (h : localP l (k + 1) ≠ p) : crits l p (k + 1) = crits l p k := by rw [crits, if_neg h]
theorem locs_get (l : List UInt8) : ∀ n k, k < n → (locs l n).getD k 0 = localP l (k + 1) := by
  intro n
  induction n with
  | zero => intro k h; omega
  | succ n ih =>
    intro k h
    rw [locs]
    by_cases e : k < n
    · rw [← ih k e, List.getD_eq_getElem?_getD, List.getElem?_append_left (by rw [locs_len]; exact e), List.getD_eq_getElem?_getD]
    · have : k = n := by omega
      subst this
      rw [List.getD_eq_getElem?_getD, List.getElem?_append_right (by rw [locs_len]; omega), locs_len]
      simp

theorem critical32_bad (s : ByteArray) (w : World) (hs : s.size ≤ maxLen) (hc : chk s ≠ 0) :
    Calls Try.prog 32 #[.string s] w (MadeE w [] (chk s)) := by
  have hc1 : (chk s != 0) = true := by simpa using hc
  clear hc
  go_enter Try.func32, Try.ntmps32
  go_wp2_with (first | (go_at_call 55; refine (check55 _ _ hs).mono ?_; rintro e w1 ⟨rfl, rfl⟩))
  go_ret2
  exact ⟨_, rfl, Ints.nil _ _, Below.refl _ _⟩

set_option maxHeartbeats 1000000 in
set_option maxRecDepth 100000 in
theorem critical32 (s : ByteArray) (w : World) (hc : chk s = 0) :
    Calls Try.prog 32 #[.string s] w (MadeE w (crits s.data.toList (leastP s.data.toList) (s.size - 1)) 0) := by
  obtain ⟨h1, h2, hg⟩ := chk_size hc
  have hs : s.size ≤ 1000000 := by omega
  have hc1 : (chk s != 0) = false := by simpa using hc
  have hm : s.size ≤ maxLen := by unfold maxLen; omega
  clear hg hc
  obtain ⟨p, hp⟩ : ∃ p, p = leastP s.data.toList := ⟨_, rfl⟩
  rw [← hp]
  have hp' := Lib.hid hp
  clear hp
  go_enter Try.func32, Try.ntmps32
  go_wp2_with (first | (go_at_call 55; refine (check55 _ _ hm).mono ?_; rintro e w1 ⟨rfl, rfl⟩) | (go_at_call 60; refine (least60 _ _ h1 hs).mono ?_; rw [← hp'.out]; rintro e w1 ⟨rfl, hb1⟩) | (go_at_call 59; refine (locals59 _ _ h1 hs).mono ?_; rintro e w2 ⟨v, rfl, hv, hb2⟩; obtain ⟨ao, c, rfl, hsh⟩ := hv.shape; rw [locs_len] at hsh ⊢; obtain ⟨m, hm2⟩ : ∃ m, m = s.size - 1 := ⟨_, rfl⟩; rw [← hm2] at hsh ⊢; have hm3 := Lib.hid hm2; clear hm2))
  have hb := below_seq hb1 hb2 (Nat.le_refl _)
  clear hb1 hv
  have hm1 : m + 1 = s.size := by have := hm3.out; omega
  go_loopw [6, 7, 8, 19] (fun v _ _ i wr => ∃ k : Nat, k ≤ m ∧ i = .int .i64 (k : Int) ∧ Ints wr w2.heap.size v (crits s.data.toList p k) ∧ Below w2.heap.size w2 wr) (fun _ _ _ i _ => s.size + 1 - (intOf i).toNat)
  case atStart => exact ⟨0, by omega, rfl, Ints.nil _ _, Below.refl _ _⟩
  case round =>
    obtain ⟨k, hk, rfl, hown, hbk2⟩ := hrel
    have hsz2 := hbk2.size
    have hsz3 := hb.size
    by_cases hlt : k < m
    · obtain ⟨g, rfl, hg, _, hcell⟩ := hsh (fun e => by have := locs_len s.data.toList m; rw [e] at this; simp at this; omega)
      have hc0 : wr.cell? ⟨g, k, none⟩ = some (.int .i64 (localP s.data.toList (k + 1))) := by rw [hbk2.cell hg, hcell k hlt, locs_get _ _ _ hlt]
      have hlen := crits_le s.data.toList p k
      obtain ⟨q, hq⟩ : ∃ q, q = localP s.data.toList (k + 1) := ⟨_, rfl⟩
      rw [← hq] at hc0
      have hq' := Lib.hid hq
      have hcell' := Lib.hid hcell
      clear hq hcell hsh
      by_cases hqp : q = p
      · have hqp' := Lib.hid hqp
        have ht : ((q : Int) == (p : Int)) = true := by simp [hqp]
        clear hqp
        go_wp2_with (first | (at_builtin; refine app_int hown (by omega) (by omega) rfl _ _ rfl rfl rfl ?_; intro v' w3 hown3 hb3))
        go_roundw
        case rel => exact ⟨k + 1, by omega, by go_num, by rw [crits_yes (by rw [← hq'.out]; exact hqp'.out)]; exact hown3, hbk2.trans hb3⟩
        case measure => simp [intOf]; omega
      · have hqp' := Lib.hid hqp
        have ht : ((q : Int) == (p : Int)) = false := by simp; omega
        clear hqp
        go_wp2
        go_roundw
        case rel => exact ⟨k + 1, by omega, by go_num, by rw [crits_no (by rw [← hq'.out]; exact hqp'.out)]; exact hown, hbk2⟩
        case measure => simp [intOf]; omega
    · have hkl : m = k := by omega
      have hkl := Lib.hid hkl
      go_wp2
      go_ret2
      exact ⟨_, rfl, by rw [← hm3.out, hkl.out]; exact hown.base (by omega), below_seq hb hbk2 (Nat.le_refl _)⟩

theorem int_eq {k : IntKind} {a b : Int} (h : a = b) : Value.int k a = .int k b := by rw [h]
/-! ## the reference's local periods -/
def okUp (l : List UInt8) (f q j : Nat) : Bool := decide (∀ t, t < j → f ≤ t → l.getD t 0 = l.getD (t + q) 0)
theorem okUp_all (l : List UInt8) (i q : Nat) : okUp l (i - q) q (min i (l.length - q)) = repB l i q := rfl
theorem okUp_snoc (l : List UInt8) (f q j : Nat) (h : f ≤ j) : okUp l f q (j + 1) = (okUp l f q j && (l.getD j 0 == l.getD (j + q) 0)) := by
  unfold okUp
  rw [Bool.eq_iff_iff, decide_eq_true_iff, Bool.and_eq_true, decide_eq_true_iff, beq_iff_eq]
  constructor
  · intro g; exact ⟨fun t h1 h2 => g t (by omega) h2, g j (by omega) h⟩
  · rintro ⟨g1, g2⟩ t h1 h2
    by_cases e : t = j
    · rw [e]; exact g2
    · exact g1 t (by omega) h2
theorem okUp_start (l : List UInt8) (f q j : Nat) (h : j ≤ f) : okUp l f q j = true := by
  unfold okUp; rw [decide_eq_true_iff]; intro t h1 h2; omega

theorem byte_eq (s : ByteArray) (a b : Nat) (ha : a < s.size) (hb : b < s.size) : ((s[a].toNat : Int) == (s[b].toNat : Int)) = (s.data.toList.getD a 0 == s.data.toList.getD b 0) := by
  have e1 : s.data.toList.getD a 0 = s[a] := by rw [List.getD_eq_getElem?_getD, List.getElem?_eq_getElem (by simpa using ha)]; rfl
  have e2 : s.data.toList.getD b 0 = s[b] := by rw [List.getD_eq_getElem?_getD, List.getElem?_eq_getElem (by simpa using hb)]; rfl
  rw [e1, e2, Bool.eq_iff_iff, beq_iff_eq, beq_iff_eq]
  constructor
  · intro h; exact UInt8.toNat_inj.1 (by omega)
  · intro h; rw [h]

set_option maxHeartbeats 1000000 in
set_option maxRecDepth 100000 in
theorem local61 (s : ByteArray) (i : Nat) (w : World) (hs : s.size ≤ 1000000) (hi0 : 1 ≤ i) (hi : i < s.size) :
    Calls Try.prog 61 #[.string s, .int .i64 i] w fun e w' => e = .returned (.int .i64 (localP s.data.toList i)) ∧ Below w.heap.size w w' := by
  go_enter Try.func61, Try.ntmps61
  go_wp2_with fail
  go_loopw [6, 7, 8] (fun q _ _ wr => ∃ k : Nat, 1 ≤ k ∧ k ≤ s.size ∧ q = .int .i64 (k : Int) ∧ Hid (∀ r, 1 ≤ r → r < k → repB s.data.toList i r = false) ∧ Below w.heap.size w wr) (fun q _ _ _ => s.size - (intOf q).toNat)
  case atStart => exact ⟨1, by omega, by omega, rfl, Lib.hid (fun r _ _ => by omega), Below.refl _ _⟩
  case round =>
    obtain ⟨k, hk1, hk, rfl, hmin, hb⟩ := hrel
    obtain ⟨wo, rfl⟩ : ∃ wo : World, wo = wr := ⟨_, rfl⟩
    obtain ⟨to, hto⟩ : ∃ to, to = min i (s.size - k) := ⟨_, rfl⟩
    have hfto : i - k ≤ to := by omega
    have hto' := Lib.hid hto
    clear hto
    by_cases h1 : (k : Int) < i
    all_goals
      go_wp2_with fail
      go_loopw [7, 8] (fun b j wr => ∃ (ok : Bool) (n : Nat), i - k ≤ n ∧ n ≤ to ∧ b = .bool ok ∧ j = .int .i64 (n : Int) ∧ Hid (ok = okUp s.data.toList (i - k) k n) ∧ Below wo.heap.size wo wr) (fun _ j _ => s.size - (intOf j).toNat)
      case atStart => exact ⟨true, i - k, by omega, by omega, rfl, int_eq (by omega), Lib.hid (okUp_start _ _ _ _ (by omega)).symm, Below.refl _ _⟩
      case round =>
        obtain ⟨ok, n, hn1, hn2, rfl, rfl, hok, hbn⟩ := hrel
        by_cases hlt : n < to
        · have hl1 : n < i := by have := hto'.out; omega
          have hl2 : n + k < s.size := by have := hto'.out; omega
          have hl3 : (n : Int) < s.size - k := by omega
          by_cases h2 : s.size - (k : Int) < i
          all_goals
            cases ok
            · go_wp2
              go_quiet (fail)
              go_wp2
              exact ⟨⟨false, n + 1, by omega, by omega, rfl, by go_num, Lib.hid (by rw [okUp_snoc _ _ _ _ hn1, ← hok.out]; rfl), below_drewN hbn _⟩, by simp [intOf]; omega⟩
            · have e1 : IntKind.i64.wrap ((n : Int) + (k : Int)) = (n : Int) + k := IntWalk.i64_in _ (by omega)
              have e3 : (n : Int) + k < s.size := by omega
              have e4 : (n : Int) < s.size := by omega
              have e5 : n < s.size := by omega
              have e6 : 0 ≤ (n : Int) + k := by omega
              have e2 : ((n : Int) + k).toNat = n + k := by omega
              go_wp2
              go_quiet (fail)
              go_wp2
              exact ⟨⟨_, n + 1, by omega, by omega, rfl, by go_num, Lib.hid (by rw [okUp_snoc _ _ _ _ hn1, ← hok.out, byte_eq s n (n + k) e5 hl2]; rfl), below_drewN hbn _⟩, by simp [intOf]; omega⟩
        · have hge : to ≤ n := by omega
          have hnt : n = min i (s.size - k) := by have := hto'.out; omega
          have hnt' := Lib.hid hnt
          clear hnt
          have hbb := below_seq hb hbn (Nat.le_refl _)
          cases ok
          · have hlt2 : k < s.size := by
              by_cases e : k = s.size
              · exfalso
                have h2 := hok.out
                rw [hnt'.out] at h2
                have h3 := okUp_all s.data.toList i k
                rw [size_len] at h3
                rw [h3, e, ← size_len, repB_full] at h2
                simp at h2
              · omega
            have hrep : repB s.data.toList i k = false := by
              have h2 := hok.out
              rw [hnt'.out] at h2
              have h3 := okUp_all s.data.toList i k
              rw [size_len] at h3
              rw [← h3, h2]
            have hrep' := Lib.hid hrep
            clear hrep
            by_cases h2 : s.size - (k : Int) < i
            all_goals
              first | have hz : ¬ (n : Int) < s.size - k := (by have := hnt'.out; omega) | have hz : ¬ (n : Int) < i := (by have := hnt'.out; omega)
              go_wp2
              exact ⟨⟨k + 1, by omega, by omega, by go_num, Lib.hid (fun r hr1 hr2 => by
                by_cases e : r = k
                · rw [e]; exact hrep'.out
                · exact hmin.out r hr1 (by omega)), hbb⟩, by simp [intOf]; omega⟩
          · have hrep : repB s.data.toList i k = true := by
              have h2 := hok.out
              rw [hnt'.out] at h2
              have h3 := okUp_all s.data.toList i k
              rw [size_len] at h3
              rw [← h3, h2]
            have hrep' := Lib.hid hrep
            clear hrep
            by_cases h2 : s.size - (k : Int) < i
            all_goals
              first | have hz : ¬ (n : Int) < s.size - k := (by have := hnt'.out; omega) | have hz : ¬ (n : Int) < i := (by have := hnt'.out; omega)
              go_wp2
              go_ret
              exact ⟨ret_i (localP_eq hk1 (by rw [size_len]; omega) hrep'.out hmin.out), hbb⟩

set_option maxHeartbeats 1000000 in
set_option maxRecDepth 100000 in
theorem locals33 (s : ByteArray) (w : World) (h1 : 1 ≤ s.size) (hs : s.size ≤ 1000000) :
    Calls Try.prog 33 #[.string s] w (Made w (locs s.data.toList (s.size - 1))) := by
  go_enter Try.func33, Try.ntmps33
  go_wp2_with fail
  go_loopw [3, 4] (fun v i wr => ∃ k : Nat, k + 1 ≤ s.size ∧ i = .int .i64 ((k : Int) + 1) ∧ Ints wr w.heap.size v (locs s.data.toList k) ∧ Below w.heap.size w wr) (fun _ i _ => s.size + 1 - (intOf i).toNat)
  case atStart => exact ⟨0, by omega, rfl, Ints.lit _ _ (Nat.le_refl _), (Below.refl _ _).alloc (Nat.le_refl _) _⟩
  case round =>
    obtain ⟨k, hk, rfl, hown, hb⟩ := hrel
    by_cases hlt : k + 1 < s.size
    · have hlen := Lib.hid (locs_len s.data.toList k)
      have hsz := hb.size
      go_wp2_with (first | (go_at_call 61; refine (local61 _ (k + 1) _ hs (by omega) hlt).mono ?_; rintro e w1 ⟨rfl, hb1⟩) | (at_builtin; refine app_int (hown.below hb1) (by rw [hlen.out]; omega) (by have := hb1.size; omega) rfl _ _ rfl rfl rfl ?_; intro v' w2 hown2 hb2))
      go_roundw
      case rel => exact ⟨k + 1, by omega, by go_num, hown2, (below_seq hb hb1 (Nat.le_refl _)).trans hb2⟩
      case measure => simp [intOf]; omega
    · have hkl : s.size - 1 = k := by omega
      have hkl := Lib.hid hkl
      go_wp2
      go_ret
      exact ⟨_, rfl, by rw [hkl.out]; exact hown, hb⟩
end Go.Proofs.Ytbcoaiaocfommaa
