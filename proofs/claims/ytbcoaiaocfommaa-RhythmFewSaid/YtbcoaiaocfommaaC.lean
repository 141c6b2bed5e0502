import Derived.Test.YtbcoaiaocfommaaB
namespace Go.Proofs.Ytbcoaiaocfommaa
open Go.RowKit

/-! ## the least number with a property -/
def lst (P : Nat → Bool) (q : Nat) : Nat → Nat
  | 0 => q
  | f + 1 => if P q then q else lst P (q + 1) f

theorem lst_eq (P : Nat → Bool) : ∀ (f a q : Nat), a ≤ q → q < a + f → P q = true → (∀ r, a ≤ r → r < q → P r = false) → lst P a f = q := by
  intro f
  induction f with
  | zero => intro a q h1 h2; omega
  | succ f ih =>
    intro a q h1 h2 h3 h4
    unfold lst
    by_cases e : a = q
    · subst e; rw [if_pos h3]
    · rw [if_neg (by rw [h4 a (Nat.le_refl _) (by omega)]; simp)]
      exact ih (a + 1) q (by omega) (by omega) h3 (fun r hr => h4 r (by omega))

theorem lst_spec (P : Nat → Bool) : ∀ (f a : Nat), (∃ q, a ≤ q ∧ q < a + f ∧ P q = true) → a ≤ lst P a f ∧ lst P a f < a + f ∧ P (lst P a f) = true ∧ ∀ r, a ≤ r → r < lst P a f → P r = false := by
  intro f
  induction f with
  | zero => rintro a ⟨q, h1, h2, _⟩; omega
  | succ f ih =>
    rintro a ⟨q, h1, h2, h3⟩
    unfold lst
    by_cases hp : P a = true
    · rw [if_pos hp]; exact ⟨Nat.le_refl _, by omega, hp, fun r hr hr2 => by omega⟩
    · rw [if_neg hp]
      have hne : a ≠ q := fun e => hp (e ▸ h3)
      obtain ⟨g1, g2, g3, g4⟩ := ih (a + 1) ⟨q, by omega, by omega, h3⟩
      refine ⟨by omega, by omega, g3, fun r hr hr2 => ?_⟩
      by_cases e : r = a
      · subst e; simpa using hp
      · exact g4 r (by omega) hr2

def leastP (l : List UInt8) : Nat := lst (perB l) 1 l.length
theorem perB_full (l : List UInt8) : perB l l.length = true := by unfold perB; simp

theorem leastP_spec {l : List UInt8} (h : 1 ≤ l.length) : 1 ≤ leastP l ∧ leastP l ≤ l.length ∧ perB l (leastP l) = true ∧ ∀ r, 1 ≤ r → r < leastP l → perB l r = false := by
  have := lst_spec (perB l) l.length 1 ⟨l.length, h, by omega, perB_full l⟩
  unfold leastP
  exact ⟨this.1, by omega, this.2.2⟩

theorem leastP_eq {l : List UInt8} {q : Nat} (h1 : 1 ≤ q) (h2 : q ≤ l.length) (hq : perB l q = true) (hr : ∀ r, 1 ≤ r → r < q → perB l r = false) : (q : Int) = leastP l := by
  unfold leastP; rw [lst_eq (perB l) l.length 1 q h1 (by omega) hq hr]

theorem size_len (s : ByteArray) : s.data.toList.length = s.size := by simp

set_option maxRecDepth 100000 in
theorem least60 (s : ByteArray) (w : World) (h1 : 1 ≤ s.size) (hs : s.size ≤ 1000000) :
    Calls Try.prog 60 #[.string s] w fun e w' => e = .returned (.int .i64 (leastP s.data.toList)) ∧ Below w.heap.size w w' := by
  go_enter Try.func60, Try.ntmps60
  go_wp2_with fail
  go_loopw [3] (fun i wr => ∃ q : Nat, 1 ≤ q ∧ q ≤ s.size ∧ i = .int .i64 q ∧ Hid (∀ r, 1 ≤ r → r < q → perB s.data.toList r = false) ∧ Below w.heap.size w wr) (fun i _ => s.size - (intOf i).toNat)
  case atStart => exact ⟨1, Nat.le_refl _, h1, rfl, Lib.hid (fun r _ _ => by omega), Below.refl _ _⟩
  case round =>
    obtain ⟨q, hq1, hq2, rfl, hq, hb⟩ := hrel
    by_cases hp : perB s.data.toList q = true
    · have hp2 := Lib.hid hp
      have hp3 : perB s.data.toList (q : Int).toNat = true := hp
      go_wp2_with (first | (go_at_call 56; refine (has56 _ _ _ hs (by omega) (by omega)).mono ?_; rintro e w1 ⟨rfl, hb1⟩))
      go_ret
      exact ⟨ret_i (leastP_eq hq1 (by rw [size_len]; omega) hp2.out hq.out), below_seq hb hb1 (Nat.le_refl _)⟩
    · have hp1 : perB s.data.toList q = false := by simpa using hp
      have hp3 : perB s.data.toList (q : Int).toNat = false := hp1
      have hp2 := Lib.hid hp1
      have hlt : q < s.size := by
        by_cases e : q = s.size
        · rw [e, ← size_len, perB_full] at hp1; simp at hp1
        · omega
      clear hp
      go_wp2_with (first | (go_at_call 56; refine (has56 _ _ _ hs (by omega) (by omega)).mono ?_; rintro e w1 ⟨rfl, hb1⟩))
      go_roundw
      case rel => exact ⟨q + 1, by omega, by omega, by go_num, Lib.hid (fun r hr1 hr2 => by
        by_cases e : r = q
        · rw [e]; exact hp2.out
        · exact hq.out r hr1 (by omega)), below_seq hb hb1 (Nat.le_refl _)⟩
      case measure => simp [intOf]; omega

/-! ## local periods -/
def repB (l : List UInt8) (i q : Nat) : Bool := decide (∀ j, j < min i (l.length - q) → i - q ≤ j → l.getD j 0 = l.getD (j + q) 0)

theorem take_drop_eq {l : List UInt8} {a b m : Nat} (ha : a + m ≤ l.length) (hb : b + m ≤ l.length) :
    ((l.drop a).take m == (l.drop b).take m) = decide (∀ j, j < m → l.getD (a + j) 0 = l.getD (b + j) 0) := by
  rw [Bool.eq_iff_iff, beq_iff_eq, decide_eq_true_iff]
  constructor
  · intro h j hj
    have := congrArg (fun x => x[j]?) h
    simp only [List.getElem?_take, List.getElem?_drop, hj, if_true] at this
    simp [List.getD_eq_getElem?_getD, this]
  · intro h
    refine List.ext_getElem (by simp only [List.length_take, List.length_drop]; omega) fun j h1 h2 => ?_
    have := h j (by simp at h1; omega)
    simp only [List.getElem_take, List.getElem_drop]
    simp at h1
    rw [List.getD_eq_getElem?_getD, List.getD_eq_getElem?_getD, List.getElem?_eq_getElem (by omega), List.getElem?_eq_getElem (by omega)] at this
    exact this

theorem repB_slices (l : List UInt8) (i q : Nat) (hi : i ≤ l.length) :
    repB l i q = if min i (l.length - q) ≤ i - q then true else ((l.drop (i - q)).take (min i (l.length - q) - (i - q)) == (l.drop (i - q + q)).take (min i (l.length - q) - (i - q))) := by
  split
  · unfold repB; rw [decide_eq_true_iff]; intro j h1 h2; omega
  · rw [take_drop_eq (by omega) (by omega)]
    unfold repB
    rw [Bool.eq_iff_iff, decide_eq_true_iff, decide_eq_true_iff]
    constructor
    · intro h j hj
      have := h (i - q + j) (by omega) (by omega)
      rw [this]; congr 1; omega
    · intro h j h1 h2
      have := h (j - (i - q)) (by omega)
      rw [show i - q + (j - (i - q)) = j from by omega, show i - q + q + (j - (i - q)) = j + q from by omega] at this
      exact this

theorem repB_full (l : List UInt8) (i : Nat) : repB l i l.length = true := by
  unfold repB; rw [decide_eq_true_iff]; intro j h1 h2; omega

theorem rep_spell (s : ByteArray) (i q a b c d : Nat) (hi : i ≤ s.size) (ha : a = i - q) (hb : b = min i (s.size - q)) (hc : c = i - q + q) (hd : d = b + q) (hab : a < b) :
    ((s.extract a b).toList == (s.extract c d).toList) = repB s.data.toList i q := by
  rw [repB_slices _ _ _ (by simpa using hi), size_len, if_neg (by omega), Lib.extract_toList, Lib.extract_toList, ha, hb, hc, hd, hb]
  rw [show min i (s.size - q) + q - (i - q + q) = min i (s.size - q) - (i - q) from by omega]

set_option maxRecDepth 100000 in
theorem rep74 (s : ByteArray) (i q : Int) (w : World) (hs : s.size ≤ 1000000) (hi0 : 1 ≤ i) (hi : i < s.size) (hq0 : 1 ≤ q) (hq : q ≤ s.size) :
    Calls Try.prog 74 #[.string s, .int .i64 i, .int .i64 q] w fun e w' => e = .returned (.bool (repB s.data.toList i.toNat q.toNat)) ∧ Below w.heap.size w w' := by
  have hfull := Lib.hid (fun (e : min i.toNat (s.size - q.toNat) ≤ i.toNat - q.toNat) => (show true = repB s.data.toList i.toNat q.toNat from by
    rw [repB_slices _ _ _ (by rw [size_len]; omega), size_len, if_pos e]))
  by_cases h1 : q < i
  · by_cases h2 : s.size - q < i
    · have h3 : i - q < s.size - q := by omega
      go_enter Try.func74, Try.ntmps74
      go_wp2
      go_quiet (fail)
      go_wp2
      go_ret
      exact ⟨ret_b (rep_spell s _ _ _ _ _ _ (by omega) (by omega) (by omega) (by omega) (by omega) (by omega)), below_drewN (Below.refl _ _) _⟩
    · go_enter Try.func74, Try.ntmps74
      go_wp2
      go_quiet (fail)
      go_wp2
      go_ret
      exact ⟨ret_b (rep_spell s _ _ _ _ _ _ (by omega) (by omega) (by omega) (by omega) (by omega) (by omega)), below_drewN (Below.refl _ _) _⟩
  · by_cases h2 : s.size - q < i
    · by_cases h3 : 0 < s.size - q
      · go_enter Try.func74, Try.ntmps74
        go_wp2
        go_quiet (fail)
        go_wp2
        go_ret
        exact ⟨ret_b (rep_spell s _ _ _ _ _ _ (by omega) (by omega) (by omega) (by omega) (by omega) (by omega)), below_drewN (Below.refl _ _) _⟩
      · go_enter Try.func74, Try.ntmps74
        go_wp2
        go_ret
        exact ⟨ret_b (hfull.out (by omega)), Below.refl _ _⟩
    · go_enter Try.func74, Try.ntmps74
      go_wp2
      go_quiet (fail)
      go_wp2
      go_ret
      exact ⟨ret_b (rep_spell s _ _ _ _ _ _ (by omega) (by omega) (by omega) (by omega) (by omega) (by omega)), below_drewN (Below.refl _ _) _⟩

def localP (l : List UInt8) (i : Nat) : Nat := lst (repB l i) 1 l.length
theorem localP_spec {l : List UInt8} (i : Nat) (h : 1 ≤ l.length) : 1 ≤ localP l i ∧ localP l i ≤ l.length ∧ repB l i (localP l i) = true ∧ ∀ r, 1 ≤ r → r < localP l i → repB l i r = false := by
  have := lst_spec (repB l i) l.length 1 ⟨l.length, h, by omega, repB_full l i⟩
  unfold localP
  exact ⟨this.1, by omega, this.2.2⟩
theorem localP_eq {l : List UInt8} {i q : Nat} (h1 : 1 ≤ q) (h2 : q ≤ l.length) (hq : repB l i q = true) (hr : ∀ r, 1 ≤ r → r < q → repB l i r = false) : (q : Int) = localP l i := by
  unfold localP; rw [lst_eq (repB l i) l.length 1 q h1 (by omega) hq hr]

def locs (l : List UInt8) : Nat → List Int
  | 0 => []
  | k + 1 => locs l k ++ [(localP l (k + 1) : Int)]
theorem locs_len (l : List UInt8) (k : Nat) : (locs l k).length = k := by
  induction k with
  | zero => rfl
  | succ k ih => rw [locs, List.length_append, ih]; rfl

set_option maxHeartbeats 1000000 in
set_option maxRecDepth 100000 in
theorem locals59 (s : ByteArray) (w : World) (h1 : 1 ≤ s.size) (hs : s.size ≤ 1000000) :
    Calls Try.prog 59 #[.string s] w (Made w (locs s.data.toList (s.size - 1))) := by
  go_enter Try.func59, Try.ntmps59
  go_wp2_with fail
  go_loopw [3, 4, 5] (fun v i _ wr => ∃ k : Nat, k + 1 ≤ s.size ∧ i = .int .i64 ((k : Int) + 1) ∧ Ints wr w.heap.size v (locs s.data.toList k) ∧ Below w.heap.size w wr) (fun _ i _ _ => s.size + 1 - (intOf i).toNat)
  case atStart => exact ⟨0, by omega, rfl, Ints.nil _ _, Below.refl _ _⟩
  case round =>
    obtain ⟨k, hk, rfl, hown, hb⟩ := hrel
    obtain ⟨wo, rfl⟩ : ∃ wo : World, wo = wr := ⟨_, rfl⟩
    by_cases hlt : k + 1 < s.size
    · have hlen := locs_len s.data.toList k
      have hlen' := Lib.hid hlen
      clear hlen
      have hsz := hb.size
      have hdec : decide ((k : Int) + 1 < (s.size : Int)) = true := by simp; omega
      go_wp2_with fail
      go_loopw [5] (fun i wr => ∃ q : Nat, 1 ≤ q ∧ q ≤ s.size ∧ i = .int .i64 q ∧ Hid (∀ r, 1 ≤ r → r < q → repB s.data.toList (k + 1) r = false) ∧ Below wo.heap.size wo wr) (fun i _ => s.size - (intOf i).toNat)
      case atStart => exact ⟨1, Nat.le_refl _, h1, rfl, Lib.hid (fun r _ _ => by omega), Below.refl _ _⟩
      case round =>
        obtain ⟨q, hq1, hq2, rfl, hq, hbq⟩ := hrel
        have hszq := hbq.size
        by_cases hp : repB s.data.toList (k + 1) q = true
        · have hp2 := Lib.hid hp
          have hp3 : repB s.data.toList ((k : Int) + 1).toNat (q : Int).toNat = true := hp
          go_wp2_with (first | (go_at_call 74; refine (rep74 _ _ _ _ hs (by omega) (by omega) (by omega) (by omega)).mono ?_; rintro e w1 ⟨rfl, hb1⟩) | (at_builtin; refine app_int ((hown.below hbq).below hb1) (by rw [hlen'.out]; omega) (by have := hb1.size; omega) rfl _ _ rfl rfl rfl ?_; intro v' w2 hown2 hb2))
          go_roundw
          case rel => exact ⟨k + 1, by omega, by go_num, by rw [locs, ← localP_eq hq1 (by rw [size_len]; omega) hp2.out hq.out]; exact hown2, (below_seq (below_seq hb hbq (Nat.le_refl _)) hb1 (Nat.le_refl _)).trans hb2⟩
          case measure => simp [intOf]; omega
        · have hp1 : repB s.data.toList (k + 1) q = false := by simpa using hp
          have hp3 : repB s.data.toList ((k : Int) + 1).toNat (q : Int).toNat = false := hp1
          have hp2 := Lib.hid hp1
          have hlt : q < s.size := by
            by_cases e : q = s.size
            · rw [e, ← size_len, repB_full] at hp1; simp at hp1
            · omega
          clear hp
          go_wp2_with (first | (go_at_call 74; refine (rep74 _ _ _ _ hs (by omega) (by omega) (by omega) (by omega)).mono ?_; rintro e w1 ⟨rfl, hb1⟩))
          go_roundw
          case rel => exact ⟨q + 1, by omega, by omega, by go_num, Lib.hid (fun r hr1 hr2 => by
            by_cases e : r = q
            · rw [e]; exact hp2.out
            · exact hq.out r hr1 (by omega)), below_seq hbq hb1 (Nat.le_refl _)⟩
          case measure => simp [intOf]; omega
    · have hkl : s.size - 1 = k := by omega
      have hkl := Lib.hid hkl
      go_wp2
      go_ret
      exact ⟨_, rfl, by rw [hkl.out]; exact hown, hb⟩
end Go.Proofs.Ytbcoaiaocfommaa
