import Derived.Test.YtbcoaiaocfommaaK
namespace Go.Proofs.Ytbcoaiaocfommaa
open Go.RowKit

/-- The length of the longest beginning that is a Lyndon word. -/
def fwDown (l : List UInt8) : Nat → Nat
  | 0 => 0
  | n + 1 => if lynB (l.take (n + 1)) then n + 1 else fwDown l n
def fw (l : List UInt8) : Nat := fwDown l l.length
theorem fwDown_eq (l : List UInt8) (p : Nat) (hp1 : 1 ≤ p) (hp : lynB (l.take p) = true) : ∀ n, p ≤ n → (∀ m, p < m → m ≤ n → lynB (l.take m) = false) → fwDown l n = p := by
  intro n
  induction n with
  | zero => intro h _; omega
  | succ n ih =>
    intro h hm
    unfold fwDown
    by_cases e : p = n + 1
    · subst e; rw [if_pos hp]
    · rw [if_neg (by rw [hm (n + 1) (by omega) (Nat.le_refl _)]; simp)]
      exact ih (by omega) (fun m h1 h2 => hm m h1 (by omega))
theorem fw_eq {l : List UInt8} {p : Nat} (hp1 : 1 ≤ p) (hpl : p ≤ l.length) (hp : lynB (l.take p) = true) (hm : ∀ m, p < m → m ≤ l.length → lynB (l.take m) = false) : (p : Int) = fw l := by
  unfold fw; rw [fwDown_eq l p hp1 hp l.length hpl hm]
theorem Duv.fw {l : List UInt8} {p e : Nat} (h : Duv l p e) (hend : e = l.length ∨ ∃ x c, l[e - p]? = some x ∧ l[e]? = some c ∧ c < x) : (p : Int) = fw l :=
  fw_eq h.p1 (by have := h.pe; have := h.el; omega) ((lynB_iff _).2 h.lyn) (fun m h1 h2 => by
    cases e0 : lynB (l.take m) with
    | false => rfl
    | true => exact absurd ((lynB_iff _).1 e0) (h.max hend m h1 h2))
theorem fw_spec {l : List UInt8} (h : 1 ≤ l.length) : 1 ≤ Go.Proofs.Ytbcoaiaocfommaa.fw l ∧ Go.Proofs.Ytbcoaiaocfommaa.fw l ≤ l.length ∧ lynB (l.take (Go.Proofs.Ytbcoaiaocfommaa.fw l)) = true ∧ ∀ m, Go.Proofs.Ytbcoaiaocfommaa.fw l < m → m ≤ l.length → lynB (l.take m) = false := by
  have key : ∀ n, 1 ≤ n → n ≤ l.length → 1 ≤ fwDown l n ∧ fwDown l n ≤ n ∧ lynB (l.take (fwDown l n)) = true ∧ ∀ m, fwDown l n < m → m ≤ n → lynB (l.take m) = false := by
    intro n
    induction n with
    | zero => intro h1 _; omega
    | succ n ih =>
      intro _ hn
      unfold fwDown
      by_cases e : lynB (l.take (n + 1)) = true
      · rw [if_pos e]; exact ⟨by omega, Nat.le_refl _, e, fun m h1 h2 => by omega⟩
      · rw [if_neg e]
        have hn1 : 1 ≤ n := by
          rcases Nat.eq_zero_or_pos n with h0 | h0
          · subst h0
            exfalso; apply e
            cases l with
            | nil => simp at h
            | cons c l => exact (lynB_iff _).2 (lyn_one c)
          · exact h0
        obtain ⟨g1, g2, g3, g4⟩ := ih hn1 (by omega)
        refine ⟨g1, by omega, g3, fun m h1 h2 => ?_⟩
        by_cases em : m = n + 1
        · subst em; simpa using e
        · exact g4 m h1 (by omega)
  exact key l.length h (Nat.le_refl _)

theorem get_some (s : ByteArray) (a : Nat) (h : a < s.size) : s.data.toList[a]? = some s[a] := by
  rw [List.getElem?_eq_getElem (by simpa using h)]; rfl
theorem byte_lt (x y : UInt8) : ((x.toNat : Int) < (y.toNat : Int)) ↔ x < y := by rw [UInt8.lt_iff_toNat_lt]; omega

set_option maxHeartbeats 1000000 in
set_option maxRecDepth 100000 in
theorem first57 (s : ByteArray) (w : World) (h1 : 1 ≤ s.size) (hs : s.size ≤ 1000000) :
    Calls Try.prog 57 #[.string s] w fun e w' => e = .returned (.int .i64 (fw s.data.toList)) ∧ Below w.heap.size w w' := by
  go_enter Try.func57, Try.ntmps57
  go_wp2_with fail
  go_loopw [3, 4] (fun a b wr => ∃ i e : Nat, i < e ∧ e ≤ s.size ∧ a = .int .i64 (i : Int) ∧ b = .int .i64 (e : Int) ∧ Hid (Duv s.data.toList (e - i) e) ∧ Below w.heap.size w wr) (fun _ b _ => s.size - (intOf b).toNat)
  case atStart => exact ⟨0, 1, by omega, h1, rfl, rfl, Lib.hid (Duv.first (by rw [size_len]; exact h1)), Below.refl _ _⟩
  case round =>
    obtain ⟨i, e, hie, he, rfl, rfl, hd, hb⟩ := hrel
    by_cases hlt : e < s.size
    · have hdec : decide (e < s.size) = true := by simpa using hlt
      have hi : i < s.size := by omega
      have hgi := Lib.hid (get_some s i hi)
      have hge := Lib.hid (get_some s e hlt)
      have e4 : (i : Int) < s.size := by omega
      have e5 : (e : Int) < s.size := by omega
      have hei := Lib.hid (show e - (e - i) = i by omega)
      rcases Nat.lt_trichotomy s[i].toNat s[e].toNat with h | h | h
      · have hl : (s[i].toNat : Int) < (s[e].toNat : Int) := by omega
        have hl2 : (s[i].toNat : Int) ≤ (s[e].toNat : Int) := by omega
        have hl3 : decide ((s[i].toNat : Int) ≤ (s[e].toNat : Int)) = true := by simpa using hl2
        have hl4 : decide ((s[i].toNat : Int) < (s[e].toNat : Int)) = true := by simpa using hl
        have hgrow := Lib.hid (Duv.grow hd.out s[i] s[e] (by rw [hei.out]; exact hgi.out) hge.out ((byte_lt _ _).1 hl))
        go_wp2
        go_quiet (fail)
        generalize hwn : wr.drewN nq = wn
        have hbn : Below w.heap.size w wn := by rw [← hwn]; exact below_drewN hb _
        clear hwn hb
        go_wp2
        go_quiet (fail)
        go_wp2
        go_roundw
        case rel => exact ⟨0, e + 1, by omega, by omega, rfl, by go_num, Lib.hid (by rw [Nat.sub_zero]; exact hgrow.out), below_drewN hbn _⟩
        case measure => simp [intOf]; omega
      · have hl2 : (s[i].toNat : Int) ≤ (s[e].toNat : Int) := by omega
        have hl3 : decide ((s[i].toNat : Int) ≤ (s[e].toNat : Int)) = true := by simpa using hl2
        have hl : ¬ (s[i].toNat : Int) < (s[e].toNat : Int) := by omega
        have hl4 : decide ((s[i].toNat : Int) < (s[e].toNat : Int)) = false := by simpa using hl
        have hse : s[i] = s[e] := UInt8.toNat_inj.1 h
        have hstep := Lib.hid (Duv.step hd.out (by rw [size_len]; exact hlt) (by rw [hei.out, hgi.out, hge.out, hse]))
        clear h hse
        go_wp2
        go_quiet (fail)
        generalize hwn : wr.drewN nq = wn
        have hbn : Below w.heap.size w wn := by rw [← hwn]; exact below_drewN hb _
        clear hwn hb
        go_wp2
        go_quiet (fail)
        go_wp2
        go_roundw
        case rel => exact ⟨i + 1, e + 1, by omega, by omega, by go_num, by go_num, Lib.hid (by rw [show e + 1 - (i + 1) = e - i from by omega]; exact hstep.out), below_drewN hbn _⟩
        case measure => simp [intOf]; omega
      · have hl : ¬ (s[i].toNat : Int) ≤ (s[e].toNat : Int) := by omega
        have hl3 : decide ((s[i].toNat : Int) ≤ (s[e].toNat : Int)) = false := by simpa using hl
        have hfw := Lib.hid (Duv.fw hd.out (.inr ⟨s[i], s[e], by rw [hei.out]; exact hgi.out, hge.out, (byte_lt _ _).1 (by omega)⟩))
        clear h
        go_wp2
        go_quiet (fail)
        go_wp2
        go_ret
        exact ⟨ret_i (by rw [← hfw.out]; omega), below_drewN hb _⟩
    · have hdec : decide (e < s.size) = false := by simpa using hlt
      have hel := Lib.hid (show e = s.data.toList.length by rw [size_len]; omega)
      have hfw := Lib.hid (Duv.fw hd.out (.inl hel.out))
      go_wp2
      go_quiet (fail)
      go_wp2
      go_ret
      exact ⟨ret_i (by rw [← hfw.out]; omega), below_drewN hb _⟩

theorem leq_lynB (l : List UInt8) (i : Nat) : (Op.bytesLess (l.drop i) l || l.drop i == l) = !lessL l (l.drop i) := by
  have hd : Op.bytesLess (l.drop i) l = lessL (l.drop i) l := rfl
  rw [hd]
  rcases lessL_total (l.drop i) l with h | h | h
  · rw [h, lessL_asymm h]; rfl
  · rw [h, lessL_irrefl]; simp
  · rw [h, lessL_asymm h]
    have : (l.drop i == l) = false := by rw [beq_eq_false_iff_ne]; intro e; rw [e, lessL_irrefl] at h; simp at h
    rw [this]; rfl

set_option maxHeartbeats 1000000 in
set_option maxRecDepth 100000 in
theorem isLyn51 (s : ByteArray) (w : World) (hs : s.size ≤ 1000000) :
    Calls Try.prog 51 #[.string s] w fun e w' => e = .returned (.bool (lynB s.data.toList)) ∧ w = w' := by
  go_enter Try.func51, Try.ntmps51
  go_wp2_with fail
  go_loop [3] (fun b => ∃ k : Nat, 1 ≤ k ∧ b = .int .i64 (k : Int) ∧ (k ≤ s.size ∨ k = 1) ∧ Hid (∀ i, 1 ≤ i → i < k → lessL s.data.toList (s.data.toList.drop i) = true)) (fun b => s.size + 1 - (intOf b).toNat)
  case atStart => exact ⟨1, by omega, rfl, .inr rfl, Lib.hid (fun i _ _ => by omega)⟩
  case round =>
    obtain ⟨k, hk1, rfl, hk, hall⟩ := hrel
    have hk' := Lib.hid hk
    clear hk
    by_cases hlt : k < s.size
    · have hsp : (Op.bytesLess (s.extract k s.size).toList s.toList || (s.extract k s.size).toList == s.toList) = !lessL s.data.toList (s.data.toList.drop k) := by
        rw [← leq_lynB, toList_data s, Lib.extract_toList]
        have e1 : List.take (s.size - k) (List.drop k s.data.toList) = List.drop k s.data.toList := List.take_of_length_le (by simp)
        rw [e1]
      by_cases hl : lessL s.data.toList (s.data.toList.drop k) = true
      · rw [hl] at hsp
        have hl' := Lib.hid hl
        clear hl
        go_wp2
        exact ⟨⟨k + 1, by omega, by go_num, by omega, Lib.hid (fun i h1 h2 => by
          by_cases e : i = k
          · rw [e]; exact hl'.out
          · exact hall.out i h1 (by omega))⟩, by simp [intOf]; omega⟩
      · have hl1 : lessL s.data.toList (s.data.toList.drop k) = false := by simpa using hl
        rw [hl1] at hsp
        have hno : false = lynB s.data.toList := by
          symm; rw [Bool.eq_false_iff]; intro hy
          have := ((lynB_iff _).1 hy).2 k hk1 (by rw [size_len]; exact hlt)
          rw [hl1] at this; simp at this
        have hno' := Lib.hid hno
        clear hl hl1 hno
        go_wp2
        go_ret
        exact ⟨ret_b hno'.out, rfl⟩
    · have hemp := empty_iff s
      have hres : (!decide (s.size = 0)) = lynB s.data.toList := by
        rw [Bool.eq_iff_iff, lynB_iff]
        simp only [Bool.not_eq_true', decide_eq_false_iff_not]
        constructor
        · intro h0; exact ⟨fun e => h0 (by rw [← size_len, e]; rfl), fun i h1 h2 => hall.out i h1 (by rw [size_len] at h2; omega)⟩
        · intro hl e; exact hl.1 (List.length_eq_zero_iff.1 (by rw [size_len]; exact e))
      have hres' := Lib.hid (by rw [← hemp] at hres; exact hres : (!s.toList.isEmpty) = lynB s.data.toList)
      clear hemp hres
      go_wp2
      go_ret
      exact ⟨ret_b hres'.out, rfl⟩
end Go.Proofs.Ytbcoaiaocfommaa
