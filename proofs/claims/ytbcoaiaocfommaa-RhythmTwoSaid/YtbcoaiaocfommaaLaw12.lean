import Derived.Test.YtbcoaiaocfommaaU
import Derived.Test.YtbcoaiaocfommaaLaw3
import Derived.Deep.CutRange
import Derived.Deep.CutBlock
namespace Go.Proofs.Ytbcoaiaocfommaa
open Go.RowKit

/-- The letters are those of `o`, again and again. -/
def Again (o l : List UInt8) : Prop := ∀ t, t < l.length → l[t]? = o[t % o.length]?
theorem again_nil (o : List UInt8) : Again o [] := fun t h => by simp at h
theorem again_push {o l : List UInt8} {k r : Nat} (h : Again o l) (hk : l.length = k * o.length) (hr : r ≤ o.length) : Again o (l ++ o.take r) := by
  intro t ht
  rw [List.length_append, List.length_take] at ht
  by_cases h1 : t < l.length
  · rw [List.getElem?_append_left h1]; exact h t h1
  · rw [List.getElem?_append_right (by omega), List.getElem?_take, if_pos (by omega)]
    congr 1
    have hlt : t - l.length < o.length := by omega
    conv => rhs; rw [show t = (t - l.length) + k * o.length from by omega]
    rw [Nat.add_mul_mod_self_right, Nat.mod_eq_of_lt hlt]
theorem again_take {o l : List UInt8} (h : Again o l) (n : Nat) : Again o (l.take n) := by
  intro t ht
  rw [List.length_take] at ht
  rw [List.getElem?_take, if_pos (by omega)]; exact h t (by omega)
theorem again_per {o l : List UInt8} (h : Again o l) : perB l o.length = true := by
  rw [perB_iff]; intro t ht
  rw [h t (by omega), h (t + o.length) ht, Nat.add_mod_right]
theorem again_good {o l : List UInt8} (h : Again o l) (hg : goodL o = true) : goodL l = true := by
  unfold goodL at *
  rw [List.all_eq_true] at *
  intro c hc
  obtain ⟨t, ht, rfl⟩ := List.getElem_of_mem hc
  have := h t ht
  rw [List.getElem?_eq_getElem ht] at this
  exact hg _ (List.mem_of_getElem? this.symm)

theorem data_append (a b : ByteArray) : (a ++ b).data.toList = a.data.toList ++ b.data.toList := by simp [ByteArray.data_append]

set_option maxHeartbeats 4000000 in
set_option maxRecDepth 100000 in
theorem walk12 (a : Option Addr) (len cap : Nat) (zs : List Int) (at' : Int) (w : World) (h : IsRow .u8 w a len cap zs) (hat : (Lit.int .u8 at').wf = true) :
    Calls Try.prog 12 #[.slice a len cap, .int .u8 at'] w fun e w' => e = .returned (.bool true) ∧ Below w.heap.size w w' := by
  obtain ⟨x, rfl, hx⟩ : ∃ x : Nat, at' = x ∧ x ≤ 255 := by have := bounds_u8 hat; exact ⟨at'.toNat, by omega, by omega⟩
  clear hat
  go_enter Try.func12, Try.ntmps12
  go_wp2_with fail
  refine (made49 a len cap zs 20 w h (by omega) (by omega)).mono ?_
  rintro e w1 ⟨o, rfl, h1, h2, hg, hb1⟩
  obtain ⟨m, hm⟩ : ∃ m, m = o.size := ⟨_, rfl⟩
  have hm' := Lib.hid hm
  rw [← hm] at h1 h2
  have hx6 : x % 6 ≤ 5 := by omega
  have hom := Lib.hid (show o.data.toList.length = m by rw [size_len, hm])
  clear hm
  go_upto_block 0 with fail
  go_cut [6, 7] from 16 to 33 (fun sv _ wx => ∃ (S : ByteArray) (k : Nat), sv = .string S ∧ 1 ≤ k ∧ S.size ≤ 200 ∧ m ≤ S.size ∧ Hid (S.size = k * m) ∧ Hid (Again o.data.toList S.data.toList) ∧ w1 = wx)
  case first =>
    go_wp2_with fail
    go_loop [6, 7] (fun sv i => ∃ (S : ByteArray) (k : Nat), sv = .string S ∧ i = .int .i64 (k : Int) ∧ k ≤ 6 ∧ S.size ≤ 200 ∧ Hid (S.size = k * m) ∧ Hid (Again o.data.toList S.data.toList)) (fun _ i => 7 - (intOf i).toNat)
    case atStart => exact ⟨⟨#[]⟩, 0, rfl, rfl, by omega, by decide, Lib.hid (by simp [ByteArray.size]), Lib.hid (again_nil _)⟩
    case round =>
      obtain ⟨S, k, rfl, rfl, hk, hS, hSk, hag⟩ := hrel
      have hos : o.size = m := hm'.out.symm
      have hos' : o.size ≤ m ∧ m ≤ o.size := by omega
      have hos2 := Lib.hid hos
      clear hos
      obtain ⟨q1, q2⟩ := hos'
      by_cases hgo : k ≤ x % 6 ∧ S.size + m ≤ 200
      · obtain ⟨g1, g2⟩ := hgo
        have d1 : decide ((k : Int) ≤ (x : Int) % 6) = true := by simp; omega
        have d2 : decide (S.size + o.size ≤ 200) = true := by simp; omega
        have hsz := Lib.hid (show (S ++ o).size = (k + 1) * m by rw [ByteArray.size_append, hSk.out, hos2.out, Nat.succ_mul])
        have hsz2 := Lib.hid (show (S ++ o).size ≤ 200 by rw [ByteArray.size_append]; omega)
        have hag2 := Lib.hid (show Again o.data.toList (S ++ o).data.toList by
          rw [data_append]
          have := again_push (k := k) (r := o.data.toList.length) hag.out (by rw [size_len, hSk.out, hom.out]) (Nat.le_refl _)
          rwa [List.take_length] at this)
        go_wp2
        exact ⟨⟨_, k + 1, rfl, by go_num, by omega, hsz2.out, hsz, hag2⟩, by simp [intOf]; omega⟩
      · have hk1 : 1 ≤ k := by
          rcases Nat.eq_zero_or_pos k with e | e
          · exfalso
            have := hSk.out
            rw [e, Nat.zero_mul] at this
            exact hgo ⟨by omega, by omega⟩
          · exact e
        have hSm : m ≤ S.size := by rw [hSk.out]; exact Nat.le_mul_of_pos_left m hk1
        by_cases g1 : k ≤ x % 6
        · have d1 : decide ((k : Int) ≤ (x : Int) % 6) = true := by simp; omega
          have d2 : decide (S.size + o.size ≤ 200) = false := by simp; omega
          have d2' : (200 : Int) < S.size + o.size := by omega
          clear hgo
          go_wp2
          go_meet
          exact ⟨S, k, rfl, hk1, hS, hSm, hSk, hag, rfl⟩
        · have d1 : decide ((k : Int) ≤ (x : Int) % 6) = false := by simp; omega
          have d1' : decide (k ≤ x % 6) = false := by simp; omega
          have d1'' : (x : Int) % 6 < k := by omega
          clear hgo
          go_wp2
          go_meet
          exact ⟨S, k, rfl, hk1, hS, hSm, hSk, hag, rfl⟩
  case rest =>
    obtain ⟨S, k, rfl, hk1, hS, hSm, hSk, hag, rfl⟩ := hcut
    have hos : o.size = m := hm'.out.symm
    have hos' : o.size ≤ m ∧ m ≤ o.size := by omega
    obtain ⟨q1, q2⟩ := hos'
    have hmod : (x : Int) % (o.size : Int) = ((x % o.size : Nat) : Int) := by simp
    have hklt : x % o.size < o.size := Nat.mod_lt _ (by omega)
    obtain ⟨r, hr⟩ : ∃ r, r = x % o.size := ⟨_, rfl⟩
    rw [← hr] at hmod hklt
    have hpos : (0 : Int) < o.size := by omega
    have hos2 := Lib.hid hos
    clear hr hos
    have hcut : (o.extract 0 r).data.toList = o.data.toList.take r := by rw [Lib.extract_data]; simp
    obtain ⟨T, hT⟩ : ∃ T, T = S ++ o.extract 0 r := ⟨_, rfl⟩
    have hTs1 : S.size ≤ T.size := by rw [hT, ByteArray.size_append]; omega
    have hTs2 : T.size ≤ 300 := by rw [hT, ByteArray.size_append, ByteArray.size_extract]; omega
    have hTa := Lib.hid (show Again o.data.toList T.data.toList by
      rw [hT, data_append, hcut]
      exact again_push (k := k) hag.out (by rw [size_len, hSk.out, hom.out]) (by rw [hom.out]; omega))
    have hT' := Lib.hid hT.symm
    have hex : (o.extract 0 r).size ≤ 20 := by rw [ByteArray.size_extract]; omega
    clear hT hcut
    go_upto_region 7 with fail
    rw [hT'.out]
    go_upto_if 45 with fail
    go_cut [6] from 46 to 47 (fun sv wx => ∃ F : ByteArray, sv = .string F ∧ m ≤ F.size ∧ F.size ≤ 200 ∧ Hid (Again o.data.toList F.data.toList) ∧ w1 = wx)
    case first =>
      by_cases hbig : 200 < T.size
      · have d : decide (200 < T.size) = true := by simpa using hbig
        have d' : (200 : Int) < T.size := by omega
        go_wp2
        go_meet
        exact ⟨T.extract 0 200, rfl, by rw [ByteArray.size_extract]; omega, by rw [ByteArray.size_extract]; omega, Lib.hid (by rw [Lib.extract_data]; exact again_take hTa.out _), rfl⟩
      · have d : decide (200 < T.size) = false := by simpa using hbig
        have d' : (T.size : Int) ≤ 200 := by omega
        go_wp2
        go_meet
        exact ⟨T, rfl, by omega, by omega, hTa, rfl⟩
    case rest =>
      obtain ⟨F, rfl, hF1, hF2, hFa, rfl⟩ := hcut
      have hFg := again_good hFa.out hg
      have hFc := Lib.hid (chk_of (s := F) (by omega) hF2 hFg)
      have hFper := again_per hFa.out
      rw [hom.out] at hFper
      have hFper' := Lib.hid hFper
      clear hFper hFg hag hSk hTa hT' hTs1 hTs2 hex hSm hS hk1 hmod hklt
      go_wp2_with fail
      refine (periods22 F _ hFc.out).mono ?_
      rintro e w2 ⟨v, rfl, hv, hb2⟩
      have hFl : 1 ≤ F.data.toList.length := by rw [size_len]; omega
      have hlast := pers_last hFl
      rw [size_len] at hlast
      obtain ⟨xs, hxs⟩ : ∃ xs, xs = pers F.data.toList F.size := ⟨_, rfl⟩
      rw [← hxs] at hv hlast
      have hxl : xs.length ≤ 200 := by rw [hxs]; have := pers_le F.data.toList F.size; omega
      obtain ⟨ao, c, rfl, hr⟩ := hv.shape
      obtain ⟨n, hn⟩ : ∃ n, n = xs.length := ⟨_, rfl⟩
      rw [← hn] at hr hxl hlast ⊢
      obtain ⟨hl1, hl2⟩ := hlast
      have hne : xs ≠ [] := fun e => by rw [e] at hn; simp at hn; omega
      obtain ⟨g, rfl, hgl, _, hcells⟩ := hr hne
      have hxs' := Lib.hid hxs
      have hn' := Lib.hid hn
      have hcells' := Lib.hid hcells
      have hl2' := Lib.hid hl2
      have hmf : ∀ (fn : Fn) (first cap : Array Value) (w : World), (Instr.makeFunc fn first cap).run Try.prog w = .ok (.func fn first cap) w := fun _ _ _ _ => rfl
      clear hr hv hxs hn hcells hl2 hne hFl
      obtain ⟨bp, hbp⟩ : ∃ bp, bp = w2.heap.size := ⟨_, rfl⟩
      obtain ⟨wp, hwp⟩ : ∃ wp, wp = w2.alloc (.cells #[.slice (some ⟨g, 0, none⟩) n c] 23) := ⟨_, rfl⟩
      have hbelp : Below w2.heap.size w2 wp := by rw [hwp]; exact (Below.refl _ _).alloc (Nat.le_refl _) _
      have hcp : wp.cell? ⟨bp, 0, none⟩ = some (.slice (some ⟨g, 0, none⟩) n c) := by rw [hwp, hbp, World.cell?_alloc_at _ _ _ _ rfl]; rfl
      have hbpl : bp < wp.heap.size := by rw [hwp, hbp]; simp
      go_wp2_with fail
      rw [← hwp, ← hbp]
      have hwp' := Lib.hid hwp
      have hbp' := Lib.hid hbp
      clear hwp hbp
      refine (lives24 wp).mono ?_
      rintro e w3 ⟨rfl, hb3⟩
      have hcp3 : w3.cell? ⟨bp, 0, none⟩ = some (.slice (some ⟨g, 0, none⟩) n c) := (hb3.cell (p := ⟨bp, 0, none⟩) hbpl).trans hcp
      have hb23 := below_call hbelp hb3
      have hc3 : ∀ j, j < n → w3.cell? ⟨g, j, none⟩ = some (.int .i64 (xs.getD j 0)) := fun j hj => (hb23.cell (p := ⟨g, j, none⟩) hgl).trans (hcells'.out j hj)
      have hbb := below_call (below_call hb1 hb2) hb23
      have hc3' := Lib.hid hc3
      have clast : w3.cell? ⟨g, n - 1, none⟩ = some (.int .i64 (F.size : Int)) := by rw [hc3 (n - 1) (by omega), hl2'.out]
      have hgl3 : g < w3.heap.size := Nat.lt_of_lt_of_le hgl hb23.size
      have hbpl3 : bp < w3.heap.size := Nat.lt_of_lt_of_le hbpl hb3.size
      have hhas := Lib.hid (show ∀ (v : Int) (W : World), Below w3.heap.size w3 W → Calls Try.prog 50 #[.int .i64 v, .pointer (some ⟨bp, 0, none⟩)] W fun e w' => e = .returned (.bool (hasB xs v)) ∧ w' = W from fun v W hW =>
        has50 v bp n c (some ⟨g, 0, none⟩) xs W hn'.out (by omega) ((hW.cell (p := ⟨bp, 0, none⟩) hbpl3).trans hcp3) (fun _ => ⟨g, rfl, fun j hj => (hW.cell (p := ⟨g, j, none⟩) hgl3).trans (hc3 j hj)⟩))
      have hmem := Lib.hid (show ∀ v : Nat, 1 ≤ v → v ≤ F.size → perB F.data.toList v = true → hasB xs (v : Int) = true from fun v h1 h2 h3 => hasB_mem (by rw [hxs'.out, pers_mem]; exact ⟨v, h1, h2, rfl, h3⟩))
      have hel := Lib.hid (show ∀ j, j < n → ∃ v : Nat, xs.getD j 0 = (v : Int) ∧ 1 ≤ v ∧ v ≤ F.size ∧ perB F.data.toList v = true from fun j hj => by
        have hjx : j < xs.length := by have := hn'.out; omega
        have : xs.getD j 0 ∈ xs := by rw [List.getD_eq_getElem?_getD, List.getElem?_eq_getElem hjx]; exact List.getElem_mem _
        rw [hxs'.out, pers_mem, ← hxs'.out] at this
        obtain ⟨p, h1, h2, h3, h4⟩ := this
        exact ⟨p, h3, h1, h2, h4⟩)
      clear hc3 hcp hbelp hbpl hb1 hb2 hb23 hb3 hcells'
      have hmm := hmem.out m (by omega) (by omega) hFper'.out
      have e1 : IntKind.i64.wrap ((n : Int) - 1) = (n : Int) - 1 := IntWalk.i64_in _ (by omega)
      have e2 : ((n : Int) - 1).toNat = n - 1 := by omega
      have e3 : 0 ≤ (n : Int) - 1 := by omega
      have e4 : (n : Int) - 1 < n := by omega
      have e5 : (1 : Int) ≤ n := by omega
      have d1 : ((n : Int) == 0) = false := by simp; omega
      have d2 : decide (o.size ≤ F.size) = true := by simp; omega
      have d3 : ((F.size : Int) != (F.size : Int)) = false := by simp
      have d4 : hasB xs (o.size : Int) = true := by rw [hos2.out]; exact hmm
      go_wp2_with (first | (go_at_call 50; refine (hhas.out _ _ (Below.refl _ _)).mono ?_; rintro e w4 ⟨rfl, hw4⟩; have hw4 := hw4.symm; subst hw4))
      go_loopw [11, 12, 13] (fun i _ _ wr => ∃ j : Nat, j ≤ n ∧ i = .int .i64 (j : Int) ∧ Below w3.heap.size w3 wr) (fun i _ _ _ => n - (intOf i).toNat)
      case atStart => exact ⟨0, Nat.zero_le _, rfl, Below.refl _ _⟩
      case round =>
        obtain ⟨i, hi, rfl, hb⟩ := hrel
        obtain ⟨wo, rfl⟩ : ∃ wo : World, wo = wr := ⟨_, rfl⟩
        have ccp : wo.cell? ⟨bp, 0, none⟩ = some (.slice (some ⟨g, 0, none⟩) n c) := (hb.cell (p := ⟨bp, 0, none⟩) hbpl3).trans hcp3
        by_cases hin : i < n
        · have hdi : decide (i < n) = true := by simpa using hin
          go_wp2_with fail
          go_loopw [12, 13] (fun κ _ wr => ∃ k : Nat, k ≤ i ∧ κ = .int .i64 (k : Int) ∧ Below w3.heap.size w3 wr) (fun κ _ _ => i - (intOf κ).toNat)
          case atStart => exact ⟨0, Nat.zero_le _, rfl, hb⟩
          case round =>
            obtain ⟨k, hk, rfl, hbk⟩ := hrel
            by_cases hki : k < i
            · obtain ⟨b, hb1, hb2, hb3, hb4⟩ := hel.out i hin
              obtain ⟨a', ha1, ha2, ha3, ha4⟩ := hel.out k (by omega)
              have cc0 : wr.cell? ⟨bp, 0, none⟩ = some (.slice (some ⟨g, 0, none⟩) n c) := (hbk.cell (p := ⟨bp, 0, none⟩) hbpl3).trans hcp3
              have cc1 : wr.cell? ⟨g, k, none⟩ = some (.int .i64 a') := by rw [hbk.cell (p := ⟨g, k, none⟩) hgl3, hc3'.out k (by omega), ha1]
              have cc2 : wr.cell? ⟨g, i, none⟩ = some (.int .i64 b) := by rw [hbk.cell (p := ⟨g, i, none⟩) hgl3, hc3'.out i hin, hb1]
              have hfw := Lib.hid (fun (hh : a' + b ≤ F.data.toList.length + Nat.gcd a' b) => fine_wilf ha2 hb2 ha4 hb4 hh)
              have hGle : Nat.gcd a' b ≤ a' := Nat.gcd_le_left _ (by omega)
              have hG1 : 1 ≤ Nat.gcd a' b := Nat.gcd_pos_of_pos_left _ (by omega)
              obtain ⟨G, hG⟩ : ∃ G, G = Nat.gcd a' b := ⟨_, rfl⟩
              have hgcd := Lib.hid (show ∀ nq, Calls Try.prog 45 #[.int .i64 a', .int .i64 b] (wr.drewN nq) fun e w' => e = .returned (.int .i64 (G : Int)) ∧ ∃ m, w' = (wr.drewN nq).drewN m from fun nq => by rw [hG]; exact gcd45q a' b _ (by omega) (by omega))
              rw [← hG] at hfw hGle hG1
              clear hG ha1 hb1 ha4 hb4
              have d5 : decide ((a' : Int) < 1) = false := by simp; omega
              go_wp2
              go_quiet ((go_at_call 45; exact Calls.quiet_of (hgcd.out _)))
              generalize hwn : wr.drewN nq = wn
              have hbn : Below w3.heap.size w3 wn := by rw [← hwn]; exact below_drewN hbk _
              have cn0 : wn.cell? ⟨bp, 0, none⟩ = some (.slice (some ⟨g, 0, none⟩) n c) := (hbn.cell (p := ⟨bp, 0, none⟩) hbpl3).trans hcp3
              have cn1 : wn.cell? ⟨g, k, none⟩ = some (.int .i64 a') := by rw [← hwn]; simpa using cc1
              have cn2 : wn.cell? ⟨g, i, none⟩ = some (.int .i64 b) := by rw [← hwn]; simpa using cc2
              clear hwn cc0 cc1 cc2 hbk ccp hgcd
              have f1 : IntKind.i64.wrap ((a' : Int) + (b : Int)) = (a' : Int) + b := IntWalk.i64_in _ (by omega)
              have f2 : IntKind.i64.wrap ((a' : Int) + (b : Int) - (G : Int)) = (a' : Int) + b - G := IntWalk.i64_in _ (by omega)
              by_cases hle : (a' : Int) + b - G ≤ F.size
              · have d6 : decide ((a' : Int) + b - G ≤ F.size) = true := by simpa using hle
                have d7 : hasB xs (G : Int) = true := hmem.out G hG1 (by omega) (hfw.out (by rw [size_len]; omega))
                go_wp2
                go_quiet ((go_at_call 50; exact Calls.quiet_of_same (hhas.out _ _ (below_drewN hbn _))))
                go_wp2
                exact ⟨⟨k + 1, by omega, by go_num, below_drewN hbn _⟩, by simp [intOf]; omega⟩
              · have d6 : decide ((a' : Int) + b - G ≤ F.size) = false := by simpa using hle
                go_wp2
                go_quiet (fail)
                go_wp2
                exact ⟨⟨k + 1, by omega, by go_num, below_drewN hbn _⟩, by simp [intOf]; omega⟩
            · go_wp2
              exact ⟨⟨i + 1, by omega, by go_num, hbk⟩, by simp [intOf]; omega⟩
        · go_wp2
          go_ret
          exact ⟨rfl, below_call hbb hb⟩
end Go.Proofs.Ytbcoaiaocfommaa
