import Derived.Test.YtbcoaiaocfommaaBe
import Derived.Test.YtbcoaiaocfommaaLaw3
namespace Go.Proofs.Ytbcoaiaocfommaa
open Go.RowKit

theorem good_mem {l : List UInt8} (h : goodL l = true) {c : UInt8} (hc : c ∈ l) : okc c = true := by
  unfold goodL at h
  exact List.all_eq_true.1 h c hc
theorem okc_iff (c : UInt8) : okc c = true ↔ (97 ≤ c.toNat ∧ c.toNat ≤ 100) := by
  unfold okc
  simp <;> omega
theorem any_iff (chars : List UInt8) : ∀ l : List UInt8, 0 ≤ Go.Lib.indexAny l chars ↔ ∃ x, x ∈ l ∧ x ∈ chars := by
  intro l
  induction l with
  | nil => simp [Go.Lib.indexAny]
  | cons b l ih =>
    have hge := Go.Lib.indexAny_ge chars l
    rw [Go.Lib.indexAny]
    by_cases hb : b ∈ chars
    · rw [if_pos (by simpa using hb)]
      exact ⟨fun _ => ⟨b, by simp, hb⟩, fun _ => Int.le_refl _⟩
    · rw [if_neg (by simpa using hb)]
      have h2 : (∃ x, x ∈ b :: l ∧ x ∈ chars) ↔ ∃ x, x ∈ l ∧ x ∈ chars := by
        constructor
        · rintro ⟨x, hx, hc⟩
          rcases List.mem_cons.1 hx with rfl | hx
          · exact absurd hc hb
          · exact ⟨x, hx, hc⟩
        · rintro ⟨x, hx, hc⟩
          exact ⟨x, List.mem_cons_of_mem _ hx, hc⟩
      rw [h2, ← ih]
      by_cases e : Go.Lib.indexAny l chars = -1
      · rw [if_pos (by simpa using e)]; omega
      · rw [if_neg (by simpa using e)]; omega
theorem cd_ab {l : List UInt8} (h : goodL l = true) : Go.Lib.containsAny l [99, 100] = !abB l := by
  unfold Go.Lib.containsAny abB
  rw [Bool.eq_iff_iff]
  simp only [decide_eq_true_eq, any_iff, Bool.not_eq_true', List.all_eq_false]
  constructor
  · rintro ⟨x, hx, hc⟩
    refine ⟨x, hx, ?_⟩
    rcases List.mem_cons.1 hc with rfl | hc
    · decide
    · rcases List.mem_cons.1 hc with rfl | hc
      · decide
      · simp at hc
  · rintro ⟨x, hx, hc⟩
    refine ⟨x, hx, ?_⟩
    have hk := (okc_iff x).1 (good_mem h hx)
    have hc' : 98 < x.toNat := by simpa using hc
    have : x.toNat = 99 ∨ x.toNat = 100 := by omega
    rcases this with h1 | h1
    · rw [show x = 99 from UInt8.toNat_inj.1 h1]; simp
    · rw [show x = 100 from UInt8.toNat_inj.1 h1]; simp
theorem goodOf {s : ByteArray} (h : chk s = 0) : goodL s.data.toList = true := by
  unfold chk at h
  split at h
  · omega
  · split at h
    · omega
    · split at h
      · assumption
      · omega
theorem chk_ascii {s : ByteArray} (h : chk s = 0) (j : Nat) (b : UInt8) (hj : s.data.toList[j]? = some b) : b.toNat < 128 := by
  have := (okc_iff b).1 (good_mem (goodOf h) (List.mem_of_getElem? hj))
  omega
theorem any_cd (s : ByteArray) (w : World) (hc : chk s = 0) :
    Calls Try.prog 69 #[.string s, .string ⟨#[99, 100]⟩] w fun e w' => e = .returned (.bool (!abB s.data.toList)) ∧ Below w.heap.size w w' := by
  obtain ⟨h1, h2, _⟩ := chk_size hc
  have := Try.strings_ContainsAny_laid s ⟨#[99, 100]⟩ w (by omega) (by decide) (chk_ascii hc) (by
    intro j b hj
    match j, hj with
    | 0, h => simp at h; subst h; decide
    | 1, h => simp at h; subst h; decide
    | j + 2, h => simp at h)
  exact this.mono fun e w' ⟨h3, h4⟩ => ⟨by rw [h3]; exact congrArg (fun b => Ending.returned (.bool b)) (cd_ab (goodOf hc)), h4⟩

set_option maxHeartbeats 1000000 in
set_option maxRecDepth 100000 in
theorem balanced42_bad (s : ByteArray) (w : World) (hs : s.size ≤ maxLen) (hc : chk s ≠ 0) :
    Calls Try.prog 42 #[.string s] w fun e w' => e = .returned (.tuple #[.bool false, .int .i64 (chk s)]) ∧ w = w' := by
  have hd : (chk s != 0) = true := by simpa using hc
  go_enter Try.func42, Try.ntmps42
  go_wp2_with (first | (go_at_call 55; refine (check55 _ _ hs).mono ?_; rintro e w1 ⟨rfl, rfl⟩))
  go_ret2
  exact ⟨rfl, rfl⟩

set_option maxHeartbeats 1000000 in
set_option maxRecDepth 100000 in
theorem balanced42 (s : ByteArray) (w : World) (hc : chk s = 0) :
    Calls Try.prog 42 #[.string s] w fun e w' => e = .returned (.tuple #[.bool (balB s.data.toList), .int .i64 0]) ∧ Below w.heap.size w w' := by
  obtain ⟨h1, h2, _⟩ := chk_size hc
  have hm : s.size ≤ maxLen := by unfold maxLen; omega
  have hc' := Lib.hid hc
  have hany := fun w => any_cd s w hc
  clear hc
  cases hab : abB s.data.toList
  · have hno := Lib.hid (show balB s.data.toList = false by unfold balB; rw [hab]; rfl)
    rw [hab] at hany
    go_enter Try.func42, Try.ntmps42
    go_wp2_with (first | (go_at_call 55; refine (check55 _ _ hm).mono ?_; rw [hc'.out]; rintro e w1 ⟨rfl, rfl⟩) | (go_at_call 69; refine (hany _).mono ?_; rintro e w2 ⟨rfl, hb2⟩))
    go_ret2
    exact ⟨by rw [hno.out]; rfl, hb2⟩
  · have hall := Lib.hid hab
    rw [hab] at hany
    clear hab
    go_enter Try.func42, Try.ntmps42
    go_wp2_with (first | (go_at_call 55; refine (check55 _ _ hm).mono ?_; rw [hc'.out]; rintro e w1 ⟨rfl, rfl⟩) | (go_at_call 69; refine (hany _).mono ?_; rintro e w2 ⟨rfl, hb2⟩))
    go_loopw [5] (fun i wr => ∃ k : Nat, k ≤ s.size ∧ i = .int .i64 ((k : Int) + 1) ∧ Hid (evensB s.data.toList k = true) ∧ Below w.heap.size w wr) (fun i _ => s.size + 1 - (intOf i).toNat)
    case atStart => exact ⟨0, by omega, rfl, Lib.hid rfl, hb2⟩
    case round =>
      obtain ⟨k, hk, rfl, hev, hb⟩ := hrel
      by_cases hlt : k < s.size
      · cases he : evenB s.data.toList (k + 1)
        · have hno := Lib.hid (show balB s.data.toList = false by
            unfold balB
            rw [evens_no (k := k + 1) (by omega) (by rw [size_len]; omega) he, Bool.and_false])
          have hcall := Lib.hid (show ∀ w, Calls Try.prog 70 #[.string s, .int .i64 ((k : Int) + 1)] w fun e w' => e = .returned (.bool false) ∧ Below w.heap.size w w' from fun w => by
            have := even70 s (k + 1) w (by omega) (by omega) (by omega)
            rw [he] at this; exact this)
          clear he
          go_wp2_with (go_at_call 70; refine (hcall.out _).mono ?_; rintro e w3 ⟨rfl, hb3⟩)
          go_ret2
          exact ⟨by rw [hno.out]; rfl, below_call hb hb3⟩
        · have hev2 := Lib.hid (show evensB s.data.toList (k + 1) = true by unfold evensB; rw [hev.out, he]; rfl)
          have hcall := Lib.hid (show ∀ w, Calls Try.prog 70 #[.string s, .int .i64 ((k : Int) + 1)] w fun e w' => e = .returned (.bool true) ∧ Below w.heap.size w w' from fun w => by
            have := even70 s (k + 1) w (by omega) (by omega) (by omega)
            rw [he] at this; exact this)
          clear he
          go_wp2_with (go_at_call 70; refine (hcall.out _).mono ?_; rintro e w3 ⟨rfl, hb3⟩)
          go_roundw
          case rel => exact ⟨k + 1, by omega, by go_num, hev2, below_call hb hb3⟩
          case measure => simp [intOf]; omega
      · have hke : k = s.size := by omega
        have hyes := Lib.hid (show balB s.data.toList = true by unfold balB; rw [hall.out, size_len, ← hke, hev.out]; rfl)
        clear hke
        go_wp2
        go_ret2
        exact ⟨by rw [hyes.out]; rfl, hb⟩
end Go.Proofs.Ytbcoaiaocfommaa
