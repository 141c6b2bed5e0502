import Derived.Test.YtbcoaiaocfommaaR
import Derived.Test.YtbcoaiaocfommaaN
import Derived.Test.YtbcoaiaocfommaaLaw4
namespace Go.Proofs.Ytbcoaiaocfommaa
open Go.RowKit

theorem str_toList' (l : List UInt8) : (⟨l.toArray⟩ : ByteArray).toList = l := by rw [toList_data]
theorem good_rot {l : List UInt8} (i : Nat) (h : goodL l = true) : goodL (rotL l i) = true := by
  unfold goodL at *
  rw [List.all_eq_true] at *
  intro c hc
  unfold rotL at hc
  rcases List.mem_append.1 hc with hc | hc
  · exact h c (List.mem_of_mem_drop hc)
  · exact h c (List.mem_of_mem_take hc)

/-- The rotation as a string, its facts by name. -/
theorem rot_facts (l : List UInt8) (i : Nat) (h1 : 1 ≤ l.length) (h2 : l.length ≤ 100) (hg : goodL l = true) :
    ∃ t : ByteArray, t.data.toList = rotL l i ∧ t = ⟨(rotL l i).toArray⟩ ∧ t.size = l.length ∧ chk t = 0 := by
  have hs : (⟨(rotL l i).toArray⟩ : ByteArray).size = l.length := by rw [← size_len]; exact rotL_len l i
  exact ⟨⟨(rotL l i).toArray⟩, rfl, rfl, hs, chk_of (by omega) (by omega) (good_rot i hg)⟩

set_option maxHeartbeats 2000000 in
set_option maxRecDepth 100000 in
theorem walk19 (a : Option Addr) (len cap : Nat) (zs : List Int) (at' : Int) (w : World) (h : IsRow .u8 w a len cap zs) (hat : (Lit.int .u8 at').wf = true) :
    Calls Try.prog 19 #[.slice a len cap, .int .u8 at'] w fun e w' => e = .returned (.bool true) ∧ Below w.heap.size w w' := by
  obtain ⟨x, rfl, hx⟩ : ∃ x : Nat, at' = x ∧ x ≤ 255 := by have := bounds_u8 hat; exact ⟨at'.toNat, by omega, by omega⟩
  clear hat
  go_enter Try.func19, Try.ntmps19
  go_wp2_with fail
  refine (made49 a len cap zs 100 w h (by omega) (by omega)).mono ?_
  rintro e w1 ⟨s, rfl, h1, h2, hg, hb1⟩
  have hc := Lib.hid (chk_of h1 (by omega) hg)
  have hpos : (0 : Int) < s.size := by omega
  have hmod : (x : Int) % (s.size : Int) = ((x % s.size : Nat) : Int) := by simp
  have hklt : x % s.size < s.size := Nat.mod_lt _ (by omega)
  obtain ⟨k, hk⟩ : ∃ k, k = x % s.size := ⟨_, rfl⟩
  rw [← hk] at hmod hklt
  have hmod' := Lib.hid hmod
  clear hk
  obtain ⟨t, ht, ht2, hts, htc⟩ := rot_facts s.data.toList k (by rw [size_len]; exact h1) (by rw [size_len]; exact h2) hg
  rw [size_len] at hts
  obtain ⟨A, hA⟩ : ∃ A, A = turnTo s.data.toList s.size := ⟨_, rfl⟩
  obtain ⟨B, hB⟩ : ∃ B, B = turnTo t.data.toList t.size := ⟨_, rfl⟩
  have hAlt : A < s.size := by rw [hA]; exact turnTo_lt h1
  have hBlt : B < s.size := by rw [hB, hts]; exact turnTo_lt h1
  obtain ⟨m, hm, hm2, hms, hmc⟩ := rot_facts s.data.toList A (by rw [size_len]; exact h1) (by rw [size_len]; exact h2) hg
  rw [size_len] at hms
  have hm3 : m = ⟨(rotL t.data.toList B).toArray⟩ := by
    rw [hm2, hA, hB, ht, hts]
    have := least_same (l := s.data.toList) (k := k) (by rw [size_len]; exact h1) (by rw [size_len]; omega)
    rw [size_len] at this
    rw [this]
  have hleast : LeastRot m.data.toList := by
    rw [hm, hA]
    have := leastRot_turn (l := s.data.toList) (by rw [size_len]; exact h1)
    rw [size_len] at this
    exact this
  have hturn0 := turn_of_least hleast m.size (by rw [size_len]; exact Nat.le_refl _)
  have hwords := least_words hleast
  have hA' := Lib.hid hA
  have hB' := Lib.hid hB
  have ht2' := Lib.hid ht2
  have hm2' := Lib.hid hm2
  have hm3' := Lib.hid hm3
  have hmc' := Lib.hid hmc
  have htc' := Lib.hid htc
  have hts' := Lib.hid hts
  have hms' := Lib.hid hms
  have hturn0' := Lib.hid hturn0
  have hwords' := Lib.hid hwords
  clear hA hB ht2 hm2 hm3 hmc htc hts hms hturn0 hwords hleast ht hm
  go_wp2_with fail
  refine (rot54 s k w1 (by omega) (by omega)).mono ?_
  rw [← ht2'.out]
  rintro e w2 ⟨rfl, hb2⟩
  go_wp2_with fail
  refine (turn29 s w2 hc.out).mono ?_
  rw [← hA'.out]
  rintro e w3 ⟨rfl, hb3⟩
  go_wp2_with fail
  refine (turn29 t w3 htc'.out).mono ?_
  rw [← hB'.out]
  rintro e w4 ⟨rfl, hb4⟩
  have d1 : decide (A < s.size) = true := by simpa using hAlt
  have d2 : decide (B < s.size) = true := by simpa using hBlt
  have d3 : (A : Int) < s.size := by omega
  have d4 : (B : Int) < s.size := by omega
  have hself : (!m.toList == m.toList) = false := by simp
  go_wp2_with fail
  refine (rot54 s A w4 (by omega) (by omega)).mono ?_
  rw [← hm2'.out]
  rintro e w5 ⟨rfl, hb5⟩
  go_wp2_with fail
  refine (rot54 t B w5 (by rw [hts'.out]; omega) (by rw [hts'.out]; omega)).mono ?_
  rw [← hm3'.out]
  rintro e w6 ⟨rfl, hb6⟩
  go_wp2_with fail
  refine (lives24 w6).mono ?_
  rintro e w7 ⟨rfl, hb7⟩
  have hbb := below_call (below_call (below_call (below_call (below_call (below_call hb1 hb2) hb3) hb4) hb5) hb6) hb7
  clear hb1 hb2 hb3 hb4 hb5 hb6 hb7
  go_wp2_with fail
  refine (rot54 s A w7 (by omega) (by omega)).mono ?_
  rw [← hm2'.out]
  rintro e w8 ⟨rfl, hb8⟩
  go_wp2_with fail
  refine (lyndon27 m w8 hmc'.out).mono ?_
  rintro e w9 ⟨v, rfl, hv, hb9⟩
  go_wp2_with fail
  refine (rot54 s A w9 (by omega) (by omega)).mono ?_
  rw [← hm2'.out]
  rintro e w10 ⟨rfl, hb10⟩
  go_wp2_with fail
  refine (turn29 m w10 hmc'.out).mono ?_
  rw [hturn0'.out]
  rintro e w11 ⟨rfl, hb11⟩
  have hbc := below_call (below_call (below_call (below_call hbb hb8) hb9) hb10) hb11
  have hwl := words_len m.data.toList
  rw [size_len] at hwl
  have hfl := (wordsF_all m.data.toList.length m.data.toList (Nat.le_refl _)).2.1
  rw [show wordsF m.data.toList.length m.data.toList = words m.data.toList from rfl] at hfl
  obtain ⟨W, hW⟩ : ∃ W, W = words m.data.toList := ⟨_, rfl⟩
  rw [← hW] at hv hwl hfl hwords'
  have hn1 : 1 ≤ W.length := by
    rcases Nat.eq_zero_or_pos W.length with e | e
    · exfalso
      rw [List.length_eq_zero_iff.1 e] at hfl
      have : m.size = 0 := by rw [← size_len, ← hfl]; rfl
      have := hms'.out
      omega
    · exact e
  obtain ⟨ao, c, rfl, hr⟩ := ((hv.shape.below hb10).below hb11)
  obtain ⟨n, hn⟩ : ∃ n, n = W.length := ⟨_, rfl⟩
  have hms := hms'.out
  have hn200 : n ≤ 200 := by omega
  rw [← hn] at hr hn1 ⊢
  have hne : W ≠ [] := fun e => by rw [e] at hn; simp at hn; omega
  obtain ⟨g, rfl, hg11, hcells⟩ := hr hne
  have hn' := Lib.hid hn
  have hcells' := Lib.hid hcells
  have hn0 : ((n : Int) == 0) = false := by simp; omega
  clear hn hr hcells hv hW hbb hb8 hb9 hb10 hb11 hwl hfl hms hne
  go_wp2_with fail
  go_loopw [16] (fun i wr => ∃ j : Nat, j ≤ n ∧ i = .int .i64 j ∧ Below w11.heap.size w11 wr) (fun i _ => n - (intOf i).toNat)
  case atStart => exact ⟨0, Nat.zero_le _, rfl, Below.refl _ _⟩
  case round =>
    obtain ⟨j, hj, rfl, hb⟩ := hrel
    by_cases hlt : j < n
    · obtain ⟨U, hU⟩ : ∃ U : ByteArray, Value.string U = strV (W.getD 0 []) := ⟨_, rfl⟩
      have c1 : wr.cell? ⟨g, j, none⟩ = some (.string U) := by
        rw [hU, ← hwords'.out j (by have := hn'.out; omega)]
        exact (hb.cell (p := ⟨g, j, none⟩) hg11).trans (hcells'.out j hlt)
      have c2 : wr.cell? ⟨g, 0, none⟩ = some (.string U) := by rw [hU]; exact (hb.cell (p := ⟨g, 0, none⟩) hg11).trans (hcells'.out 0 (by omega))
      have hself2 : (!U.toList == U.toList) = false := by simp
      have hp0 : (0 : Int) < n := by omega
      clear hU
      go_wp2
      go_quiet (fail)
      go_wp2
      go_roundw
      case rel => exact ⟨j + 1, by omega, by go_num, below_drewN hb _⟩
      case measure => simp [intOf]; omega
    · go_wp2
      go_ret
      exact ⟨rfl, below_call hbc hb⟩
end Go.Proofs.Ytbcoaiaocfommaa
