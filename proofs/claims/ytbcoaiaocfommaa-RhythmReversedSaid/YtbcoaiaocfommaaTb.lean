import Derived.Test.YtbcoaiaocfommaaTa
import Derived.Test.YtbcoaiaocfommaaRg
import Derived.Test.YtbcoaiaocfommaaSg
import Derived.Test.YtbcoaiaocfommaaN
namespace Go.Proofs.Ytbcoaiaocfommaa
open Go.RowKit

theorem str_toList' (l : List UInt8) : (⟨l.toArray⟩ : ByteArray).toList = l := by rw [toList_data]
theorem str_append' (l m : List UInt8) : (⟨l.toArray⟩ : ByteArray) ++ ⟨m.toArray⟩ = ⟨(l ++ m).toArray⟩ := by
  apply Go.WideShapes.bytes_inj
  simp [ByteArray.data_append]
def revS (s : ByteArray) : ByteArray := ⟨s.data.toList.reverse.toArray⟩
theorem revS_list (s : ByteArray) : (revS s).data.toList = s.data.toList.reverse := by unfold revS; simp
theorem revS_size (s : ByteArray) : (revS s).size = s.size := by rw [← size_len, revS_list, List.length_reverse, size_len]
theorem good_rev {l : List UInt8} (h : goodL l = true) : goodL l.reverse = true := by unfold goodL at *; rw [List.all_reverse]; exact h
theorem squares38' (s : ByteArray) (w : World) (hc : chk s = 0) :
    Calls Try.prog 38 #[.string s] w fun e w' => e = .returned (.tuple #[.int .i64 ((sqAll s.data.toList s.size).length : Nat), .int .i64 0]) ∧ Below w.heap.size w w' := by
  have := squares38 s w hc
  rw [squares_same] at this
  exact this
/-- What stands in t when i letters are left. -/
theorem rev_step (l : List UInt8) (i : Nat) (hi : i < l.length) : (l.drop i).reverse = (l.drop (i + 1)).reverse ++ subL l i (i + 1) := by
  rw [List.drop_eq_getElem_cons hi, List.reverse_cons]
  congr 1
  unfold subL
  rw [List.drop_eq_getElem_cons hi, show i + 1 - i = 1 by omega]; rfl

set_option maxHeartbeats 2000000 in
set_option maxRecDepth 100000 in
theorem walk20 (a : Option Addr) (len cap : Nat) (zs : List Int) (w : World) (h : IsRow .u8 w a len cap zs) :
    Calls Try.prog 20 #[.slice a len cap] w fun e w' => e = .returned (.bool true) ∧ Below w.heap.size w w' := by
  go_enter Try.func20, Try.ntmps20
  go_wp2_with fail
  refine (made49 a len cap zs 120 w h (by omega) (by omega)).mono ?_
  rintro e w1 ⟨s, rfl, h1, h2, hg, hb1⟩
  have hc := Lib.hid (chk_of h1 (show s.size ≤ 200 by omega) hg)
  have hc2 := Lib.hid (chk_of (s := revS s) (by rw [revS_size]; exact h1) (by rw [revS_size]; omega) (by rw [revS_list]; exact good_rev hg))
  clear hg
  go_wp2_with fail
  go_loop [4, 5] (fun t i => ∃ k : Nat, k ≤ s.size ∧ i = .int .i64 ((k : Int) - 1) ∧ t = .string ⟨(s.data.toList.drop k).reverse.toArray⟩) (fun _ i => (intOf i + 1).toNat)
  case atStart => exact ⟨s.size, Nat.le_refl _, rfl, by rw [List.drop_of_length_le (by rw [size_len]; exact Nat.le_refl _)]; rfl⟩
  case round =>
    obtain ⟨k, hk, rfl, rfl⟩ := hrel
    by_cases hpos : 0 < k
    · obtain ⟨i, rfl⟩ : ∃ i, k = i + 1 := ⟨k - 1, by omega⟩
      have hst := Lib.hid (rev_step s.data.toList i (by rw [size_len]; omega))
      have hln : (s.data.toList.drop (i + 1)).reverse.length ≤ 200 := by rw [List.length_reverse, List.length_drop, size_len]; omega
      have hse := Lib.hid (subL_extract s i (i + 1))
      have e0 : ((i + 1 : Nat) : Int) - 1 = (i : Int) := by omega
      rw [e0]
      go_wp2
      refine ⟨⟨i, by omega, rfl, ?_⟩, by simp [intOf]⟩
      rw [hst.out, ← hse.out, ← str_append']
    · have hk0 : k = 0 := by omega
      subst hk0
      have ht : (⟨(s.data.toList.drop 0).reverse.toArray⟩ : ByteArray) = revS s := rfl
      rw [ht]
      obtain ⟨t, hts⟩ : ∃ t, t = revS s := ⟨_, rfl⟩
      have hsz : t.size = s.size := by rw [hts, revS_size]
      have htl : t.data.toList = s.data.toList.reverse := by rw [hts, revS_list]
      have hct : Hid (chk t = 0) := by rw [hts]; exact hc2
      rw [← hts]
      have p1 := Lib.hid (fun w => periods22 s w hc.out)
      have p2 := Lib.hid (fun w => periods22 t w hct.out)
      have q1 := Lib.hid (fun w => squares38' s w hc.out)
      have q2 := Lib.hid (fun w => squares38' t w hct.out)
      have a1 := Lib.hid (fun w => parts39 s w hc.out)
      have a2 := Lib.hid (fun w => parts39 t w hct.out)
      have r1 := Lib.hid (fun w => runs35 s w hc.out)
      have r2 := Lib.hid (fun w => runs35 t w hct.out)
      have b1 := Lib.hid (fun w => balanced42 s w hc.out)
      have b2 := Lib.hid (fun w => balanced42 t w hct.out)
      have ep : pers t.data.toList t.size = pers s.data.toList s.size := by rw [htl, hsz, pers_rev]
      have eq : (sqAll t.data.toList t.size).length = (sqAll s.data.toList s.size).length := by
        have := sqAll_rev s.data.toList
        rw [List.length_reverse, size_len] at this
        rw [htl, hsz]; exact this
      have ea : paAll t.data.toList t.size = paAll s.data.toList s.size := by
        have := paAll_rev s.data.toList
        rw [List.length_reverse, size_len] at this
        rw [htl, hsz]; exact this
      have er : (rrAll t.data.toList t.size).length = (rrAll s.data.toList s.size).length := by
        have := rr_rev s.data.toList
        rw [List.length_reverse, size_len] at this
        rw [htl, hsz]; exact this
      have eb : balB t.data.toList = balB s.data.toList := by rw [htl, bal_rev]
      rw [ep] at p2
      rw [eq] at q2
      rw [ea] at a2
      rw [eb] at b2
      have hlp := pers_le s.data.toList s.size
      have hla := paAll_len s.data.toList s.size
      obtain ⟨P, hP⟩ : ∃ P, P = pers s.data.toList s.size := ⟨_, rfl⟩
      obtain ⟨N, hN⟩ : ∃ N, N = (sqAll s.data.toList s.size).length := ⟨_, rfl⟩
      obtain ⟨A, hA⟩ : ∃ A, A = paAll s.data.toList s.size := ⟨_, rfl⟩
      obtain ⟨R1, hR1⟩ : ∃ R, R = rrAll s.data.toList s.size := ⟨_, rfl⟩
      obtain ⟨R2, hR2⟩ : ∃ R, R = rrAll t.data.toList t.size := ⟨_, rfl⟩
      obtain ⟨b, hb⟩ : ∃ b, b = balB s.data.toList := ⟨_, rfl⟩
      rw [← hP] at p1 p2 hlp
      rw [← hN] at q1 q2
      rw [← hA] at a1 a2 hla
      rw [← hR1] at r1 er
      rw [← hR2] at r2 er
      rw [← hb] at b1 b2
      have er' := Lib.hid er
      clear ep eq ea er eb hP hN hA hR1 hR2 hb hc hc2 hct htl ht hts
      go_wp2_with fail
      refine (p1.out _).mono ?_
      rintro e w2 ⟨v1, rfl, hv1, g1⟩
      go_wp2_with fail
      refine (p2.out _).mono ?_
      rintro e w3 ⟨v2, rfl, hv2, g2⟩
      go_wp2_with fail
      refine (q1.out _).mono ?_
      rintro e w4 ⟨rfl, g3⟩
      go_wp2_with fail
      refine (q2.out _).mono ?_
      rintro e w5 ⟨rfl, g4⟩
      go_wp2_with fail
      refine (a1.out _).mono ?_
      rintro e w6 ⟨v3, rfl, hv3, g5⟩
      go_wp2_with fail
      refine (a2.out _).mono ?_
      rintro e w7 ⟨v4, rfl, hv4, g6⟩
      go_wp2_with fail
      refine (r1.out _).mono ?_
      rintro e w8 ⟨v5, rfl, hv5, g7⟩
      go_wp2_with fail
      refine (r2.out _).mono ?_
      rintro e w9 ⟨v6, rfl, hv6, g8⟩
      obtain ⟨ao, c, rfl⟩ := hv5.slice
      obtain ⟨bo, d, rfl⟩ := hv6.slice
      rw [er'.out]
      go_wp2_with fail
      refine (b1.out _).mono ?_
      rintro e w10 ⟨rfl, g9⟩
      go_wp2_with fail
      refine (b2.out _).mono ?_
      rintro e w11 ⟨rfl, g10⟩
      have hNN : ((N : Int) == (N : Int)) = true := by simp
      have hRR : ((R1.length : Int) == (R1.length : Int)) = true := by simp
      have hbb : (b == b) = true := by simp
      go_wp2_with fail
      refine (same25_yes (((((((((hv1.shape.below g2).below g3).below g4).below g5).below g6).below g7).below g8).below g9).below g10) ((((((((hv2.shape.below g3).below g4).below g5).below g6).below g7).below g8).below g9).below g10) (by omega)).mono ?_
      rintro e w12 ⟨rfl, g11⟩
      go_wp2_with fail
      refine (same25_yes ((((((hv3.shape.below g6).below g7).below g8).below g9).below g10).below g11) (((((hv4.shape.below g7).below g8).below g9).below g10).below g11) (by omega)).mono ?_
      rintro e w13 ⟨rfl, g12⟩
      go_wp2_with fail
      refine (lives24 w13).mono ?_
      rintro e w14 ⟨rfl, g13⟩
      go_wp2_with fail
      go_ret
      exact ⟨rfl, below_call (below_call (below_call (below_call (below_call (below_call (below_call (below_call (below_call (below_call (below_call (below_call (below_call hb1 g1) g2) g3) g4) g5) g6) g7) g8) g9) g10) g11) g12) g13⟩
end Go.Proofs.Ytbcoaiaocfommaa
