import Derived.Test.YtbcoaiaocfommaaQ
import Derived.Test.YtbcoaiaocfommaaN
import Derived.Test.YtbcoaiaocfommaaLaw4
namespace Go.Proofs.Ytbcoaiaocfommaa
open Go.RowKit

theorem isLyn51q (s : ByteArray) (w : World) (hs : s.size ≤ 1000000) (h : lynB s.data.toList = true) :
    Calls Try.prog 51 #[.string s] w fun e w' => e = .returned (.bool true) ∧ w' = w :=
  (isLyn51 s w hs).mono fun _ _ ⟨h1, h2⟩ => ⟨by rw [h1, h], h2.symm⟩

theorem str_toList (l : List UInt8) : (⟨l.toArray⟩ : ByteArray).toList = l := by rw [toList_data]
theorem str_append (l m : List UInt8) : (⟨l.toArray⟩ : ByteArray) ++ ⟨m.toArray⟩ = ⟨(l ++ m).toArray⟩ := by
  apply Go.WideShapes.bytes_inj
  simp [ByteArray.data_append]

/-- What Lyndon returns of one Lyndon word. -/
def Alone (w : World) (u : ByteArray) (e : Ending) (w' : World) : Prop := ∃ g c, e = .returned (.tuple #[.slice (some ⟨g, 0, none⟩) 1 c, .int .i64 0]) ∧ w'.cell? ⟨g, 0, none⟩ = some (.string u) ∧ Below w.heap.size w w'
theorem sub_flatten {W : List (List UInt8)} {l : List UInt8} (hf : W.flatten = l) : (∀ u ∈ W, u.length ≤ l.length ∧ ∀ c ∈ u, c ∈ l) ∧ ∀ k, (W.take k).flatten.length ≤ l.length := by
  constructor
  · intro u hu
    subst hf
    obtain ⟨a, b, rfl⟩ := List.append_of_mem hu
    constructor
    · simp; omega
    · intro c hc; simp [hc]
  · intro k
    subst hf
    conv => rhs; rw [← List.take_append_drop k W, List.flatten_append, List.length_append]
    omega
theorem good_sub {u l : List UInt8} (h : goodL l = true) (hs : ∀ c ∈ u, c ∈ l) : goodL u = true := by
  unfold goodL at *
  rw [List.all_eq_true] at *
  exact fun c hc => h c (hs c hc)
theorem getD_mem (W : List (List UInt8)) (k : Nat) (h : k < W.length) : W.getD k [] ∈ W := by
  rw [List.getD_eq_getElem?_getD, List.getElem?_eq_getElem h]; exact List.getElem_mem _
theorem flat_snoc (W : List (List UInt8)) (k : Nat) (h : k < W.length) : (W.take (k + 1)).flatten = (W.take k).flatten ++ W.getD k [] := by
  rw [List.take_succ_eq_append_getElem h, List.flatten_append, List.getD_eq_getElem?_getD, List.getElem?_eq_getElem h]; simp

theorem alone27 (u : ByteArray) (w : World) (hc : chk u = 0) (hl : lynB u.data.toList = true) : Calls Try.prog 27 #[.string u] w (Alone w u) :=
  (lyndon27 u w hc).mono fun e w' ⟨v, he, hv, hb⟩ => by
    rw [words_alone hl] at hv
    obtain ⟨ao, c, rfl, hr⟩ := hv.shape
    obtain ⟨g, rfl, hg, hcell⟩ := hr (by simp)
    exact ⟨g, c, he, hcell 0 (by simp), hb⟩

set_option maxHeartbeats 2000000 in
set_option maxRecDepth 100000 in
theorem walk13 (a : Option Addr) (len cap : Nat) (zs : List Int) (w : World) (h : IsRow .u8 w a len cap zs) :
    Calls Try.prog 13 #[.slice a len cap] w fun e w' => e = .returned (.bool true) ∧ Below w.heap.size w w' := by
  go_enter Try.func13, Try.ntmps13
  go_wp2_with fail
  refine (made49 a len cap zs 200 w h (by omega) (by omega)).mono ?_
  rintro e w1 ⟨s, rfl, h1, h2, hg, hb1⟩
  have hc := chk_of h1 h2 hg
  go_wp2_with fail
  refine (lyndon27 s w1 hc).mono ?_
  rintro e w2 ⟨v, rfl, hv, hb2⟩
  go_wp2_with fail
  refine (lives24 w2).mono ?_
  rintro e w3 ⟨rfl, hb3⟩
  have hwl := words_len s.data.toList
  rw [size_len] at hwl
  obtain ⟨W, hW⟩ : ∃ W, W = words s.data.toList := ⟨_, rfl⟩
  have hall := wordsF_all s.data.toList.length s.data.toList (Nat.le_refl _)
  rw [show wordsF s.data.toList.length s.data.toList = words s.data.toList from rfl, ← hW] at hall
  rw [← hW] at hv hwl
  obtain ⟨ao, c, rfl, hr⟩ := hv.shape.below hb3
  obtain ⟨n, hn⟩ : ∃ n, n = W.length := ⟨_, rfl⟩
  rw [← hn] at hr hwl ⊢
  have hn' := Lib.hid hn
  have hr' := Lib.hid hr
  have hall' := Lib.hid hall
  have hbb := below_call (below_call hb1 hb2) hb3
  clear hn hr hall hv hW hb1 hb2 hb3 hc
  go_wp2_with fail
  go_loopw [6, 7, 8, 9] (fun sv i _ _ wr => ∃ k : Nat, k ≤ n ∧ i = .int .i64 k ∧ sv = .string ⟨(W.take k).flatten.toArray⟩ ∧ Below w3.heap.size w3 wr) (fun _ i _ _ _ => n - (intOf i).toNat)
  case atStart => exact ⟨0, Nat.zero_le _, rfl, rfl, Below.refl _ _⟩
  case round =>
    obtain ⟨k, hk, rfl, rfl, hb⟩ := hrel
    by_cases hlt : k < n
    · have hne : W ≠ [] := fun e => by have := hn'.out; rw [e] at this; simp at this; omega
      obtain ⟨g, rfl, hg3, hcells⟩ := hr'.out hne
      obtain ⟨hl1, hl2, hl3⟩ := hall'.out
      have hkW : k < W.length := by have := hn'.out; omega
      have hmem := getD_mem W k hkW
      obtain ⟨hs1, hs2⟩ := sub_flatten hl2
      obtain ⟨U, hU⟩ : ∃ U : ByteArray, U = ⟨(W.getD k []).toArray⟩ := ⟨_, rfl⟩
      have hUl : U.data.toList = W.getD k [] := by rw [hU]
      have hUly : lynB U.data.toList = true := by rw [hUl]; exact hl1 _ hmem
      have hUs : U.size ≤ 200 := by rw [← size_len, hUl]; have := (hs1 _ hmem).1; rw [size_len] at this; omega
      have hU1 : 1 ≤ U.size := by
        rw [← size_len]
        rcases Nat.eq_zero_or_pos U.data.toList.length with e | e
        · exact absurd (List.length_eq_zero_iff.1 e) ((lynB_iff _).1 hUly).1
        · exact e
      have hUc := Lib.hid (chk_of hU1 hUs (by rw [hUl]; exact good_sub hg (hs1 _ hmem).2))
      have hUly' := Lib.hid hUly
      obtain ⟨A, hA⟩ : ∃ A : ByteArray, A = ⟨(W.take k).flatten.toArray⟩ := ⟨_, rfl⟩
      have hAs : A.size ≤ 200 := by rw [← size_len, hA]; have := hs2 k; rw [size_len] at this; simpa using (by omega : (W.take k).flatten.length ≤ 200)
      have hAU := Lib.hid (show A ++ U = ⟨(W.take (k + 1)).flatten.toArray⟩ by rw [hA, hU, str_append, flat_snoc W k hkW])
      have hc3 : w3.cell? ⟨g, k, none⟩ = some (.string U) := by rw [hcells k hlt, hU]; rfl
      have hcr : wr.cell? ⟨g, k, none⟩ = some (.string U) := (hb.cell (p := ⟨g, k, none⟩) hg3).trans hc3
      have hself : (!U.toList == U.toList) = false := by simp
      have hgr : g < wr.heap.size := Nat.lt_of_lt_of_le hg3 hb.size
      rw [← hA]
      have hA' := Lib.hid hA
      have hU' := Lib.hid hU
      have hcells' := Lib.hid hcells
      have hl3' := Lib.hid hl3
      clear hl1 hl2 hl3 hmem hs1 hs2 hUl hUly hA hU hcells hne hc3
      by_cases hk0 : k = 0
      · have hd : decide ((0 : Nat) < k) = false := by simp [hk0]
        have hk0' := Lib.hid hk0
        clear hk0
        go_wp2_with fail
        refine (alone27 U wr hUc.out hUly'.out).mono ?_
        rintro e w4 ⟨f, d, rfl, hf, hb4⟩
        have hcw : w4.cell? ⟨g, k, none⟩ = some (.string U) := (hb4.cell (p := ⟨g, k, none⟩) hgr).trans hcr
        go_wp2_with fail
        go_quiet ((go_at_call 51; exact Calls.quiet_of_same (isLyn51q U _ (by omega) hUly'.out)))
        go_wp2
        exact ⟨⟨k + 1, by omega, by go_num, by rw [hAU.out], (hb.trans (hb4.mono hb.size)).trans (below_drewN (Below.refl _ _) _)⟩, by simp [intOf]; omega⟩
      · have hd : decide ((0 : Nat) < k) = true := by simp; omega
        have hd' : (0 : Int) < k := by omega
        obtain ⟨V, hV⟩ : ∃ V : ByteArray, V = ⟨(W.getD (k - 1) []).toArray⟩ := ⟨_, rfl⟩
        have hc3 : w3.cell? ⟨g, k - 1, none⟩ = some (.string V) := by rw [hcells'.out (k - 1) (by omega), hV]; rfl
        have hcr1 : wr.cell? ⟨g, k - 1, none⟩ = some (.string V) := (hb.cell (p := ⟨g, k - 1, none⟩) hg3).trans hc3
        have hless : Op.bytesLess V.toList U.toList = false := by
          rw [hV, hU'.out, str_toList, str_toList]
          have := hl3'.out (k - 1) (by omega)
          rw [show k - 1 + 1 = k from by omega] at this
          exact this
        have e1 : IntKind.i64.wrap ((k : Int) - 1) = (k : Int) - 1 := IntWalk.i64_in _ (by omega)
        have e2 : ((k : Int) - 1).toNat = k - 1 := by omega
        have e3 : 0 ≤ (k : Int) - 1 := by omega
        have e4 : (k : Int) - 1 < n := by omega
        have e5 : (1 : Int) ≤ k := by omega
        have hk0' := Lib.hid hk0
        clear hk0 hV hc3
        go_wp2_with fail
        refine (alone27 U wr hUc.out hUly'.out).mono ?_
        rintro e w4 ⟨f, d, rfl, hf, hb4⟩
        have hcw : w4.cell? ⟨g, k, none⟩ = some (.string U) := (hb4.cell (p := ⟨g, k, none⟩) hgr).trans hcr
        have hcw1 : w4.cell? ⟨g, k - 1, none⟩ = some (.string V) := (hb4.cell (p := ⟨g, k - 1, none⟩) hgr).trans hcr1
        go_wp2_with fail
        go_quiet ((go_at_call 51; exact Calls.quiet_of_same (isLyn51q U _ (by omega) hUly'.out)))
        go_wp2
        exact ⟨⟨k + 1, by omega, by go_num, by rw [hAU.out], (hb.trans (hb4.mono hb.size)).trans (below_drewN (Below.refl _ _) _)⟩, by simp [intOf]; omega⟩
    · have hkn : k = n := by omega
      have hfl : (⟨(W.take k).flatten.toArray⟩ : ByteArray) = s := by
        apply Go.WideShapes.bytes_inj
        rw [hkn, hn'.out, List.take_length]
        simpa using hall'.out.2.1
      rw [hfl]
      have hself : (s.toList == s.toList) = true := by simp
      have hfl' := Lib.hid hfl
      clear hfl hkn
      go_wp2
      go_ret
      exact ⟨rfl, below_call hbb hb⟩
end Go.Proofs.Ytbcoaiaocfommaa
