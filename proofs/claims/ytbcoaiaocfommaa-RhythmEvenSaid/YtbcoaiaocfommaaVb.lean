import Derived.Test.YtbcoaiaocfommaaVa
import Derived.Test.YtbcoaiaocfommaaUb
import Derived.Test.YtbcoaiaocfommaaLaw10
import Derived.Test.YtbcoaiaocfommaaLaw13
namespace Go.Proofs.Ytbcoaiaocfommaa
open Go.RowKit

theorem ab_cut (r : Nat) (hr : r < 2) : ∃ c : UInt8, (⟨#[97, 98]⟩ : ByteArray).extract r (r + 1) = ⟨#[c]⟩ ∧ okc c = true := by
  rcases (show r = 0 ∨ r = 1 by omega) with rfl | rfl
  · exact ⟨97, by decide, by decide⟩
  · exact ⟨98, by decide, by decide⟩
structure WordOk (U : ByteArray) : Prop where
  chk : chk U = 0
  good : goodL U.data.toList = true
  lyn : lynB U.data.toList = true
  le : U.size ≤ 200
  pos : 1 ≤ U.size
/-- The words of Lyndon: each one is a Lyndon word of letters of the rhythm. -/
theorem words_each {S : ByteArray} (hg : goodL S.data.toList = true) (hs : S.size ≤ 200) (k : Nat) (hk : k < (words S.data.toList).length) :
    ∃ U : ByteArray, strV ((words S.data.toList).getD k []) = .string U ∧ WordOk U := by
  obtain ⟨hl1, hl2, _⟩ := wordsF_all S.data.toList.length S.data.toList (Nat.le_refl _)
  have hmem := getD_mem (words S.data.toList) k hk
  obtain ⟨hs1, _⟩ := sub_flatten hl2
  have hUl : (⟨((words S.data.toList).getD k []).toArray⟩ : ByteArray).data.toList = (words S.data.toList).getD k [] := by simp
  have hUs : (⟨((words S.data.toList).getD k []).toArray⟩ : ByteArray).size ≤ 200 := by rw [← size_len, hUl]; have := (hs1 _ hmem).1; rw [size_len] at this; omega
  have hUly : lynB (⟨((words S.data.toList).getD k []).toArray⟩ : ByteArray).data.toList = true := by rw [hUl]; exact hl1 _ hmem
  have hU1 : 1 ≤ (⟨((words S.data.toList).getD k []).toArray⟩ : ByteArray).size := by
    rw [← size_len]
    rcases Nat.eq_zero_or_pos (⟨((words S.data.toList).getD k []).toArray⟩ : ByteArray).data.toList.length with e | e
    · exact absurd (List.length_eq_zero_iff.1 e) ((lynB_iff _).1 hUly).1
    · exact e
  have hgu : goodL (⟨((words S.data.toList).getD k []).toArray⟩ : ByteArray).data.toList = true := by rw [hUl]; exact good_sub hg (hs1 _ hmem).2
  exact ⟨_, rfl, chk_of hU1 hUs hgu, hgu, hUly, hUs, hU1⟩

/-- What Even returns for the numbers of letters of a word, and whether it is that word. -/
theorem even_word {U : ByteArray} (h : WordOk U) (h1 : 1 ≤ bN U.data.toList) (h2 : bN U.data.toList < U.size) :
    ∃ (X : ByteArray) (err : Int), (∀ w, Calls Try.prog 44 #[.int .i64 ((U.size : Int) - (bN U.data.toList : Nat)), .int .i64 (bN U.data.toList : Nat)] w fun e w' => e = .returned (.tuple #[.string X, .int .i64 err]) ∧ Below w.heap.size w w') ∧
      ((err = 0 ∧ (X.toList == U.toList) = balB U.data.toList) ∨ (err = 5 ∧ balB U.data.toList = false)) := by
  have hle := h.le
  have e0 : ((U.size : Int) - (bN U.data.toList : Nat)) = ((U.size - bN U.data.toList : Nat) : Int) := by omega
  rw [e0]
  have hsz := size_len U
  cases hb : balB U.data.toList with
  | true =>
    have hbl : BL U.data.toList := ⟨hb, h.good, (lynB_iff _).1 h.lyn⟩
    have hg := gcd_of_bl hbl rfl h1 (by rw [hsz]; exact h2)
    have he := even_of_bl hbl rfl (by rw [hsz]; exact h2)
    rw [hsz] at hg he
    refine ⟨_, 0, fun w => even44' (U.size - bN U.data.toList) (bN U.data.toList) w (by omega) h1 (by omega) hg, .inl ⟨rfl, ?_⟩⟩
    rw [toList_data, toList_data, evS_list, show U.size - bN U.data.toList + bN U.data.toList = U.size by omega, ← he]
    simp
  | false =>
    by_cases hg : Nat.gcd (U.size - bN U.data.toList) (bN U.data.toList) = 1
    · refine ⟨_, 0, fun w => even44' (U.size - bN U.data.toList) (bN U.data.toList) w (by omega) h1 (by omega) hg, .inl ⟨rfl, ?_⟩⟩
      rw [toList_data, toList_data, evS_list]
      rw [beq_eq_false_iff_ne]
      intro e
      rw [← e, even_bal _ _ (by omega)] at hb
      cases hb
    · have hgp : 1 ≤ Nat.gcd (U.size - bN U.data.toList) (bN U.data.toList) := Nat.gcd_pos_of_pos_right _ (by omega)
      exact ⟨_, 5, fun w => even44_none (U.size - bN U.data.toList) (bN U.data.toList) w (by omega) h1 (by omega) (by omega), .inr ⟨rfl, rfl⟩⟩

set_option maxHeartbeats 2000000 in
set_option maxRecDepth 100000 in
theorem walk17 (a : Option Addr) (len cap : Nat) (zs : List Int) (w : World) (h : IsRow .u8 w a len cap zs) :
    Calls Try.prog 17 #[.slice a len cap] w fun e w' => e = .returned (.bool true) ∧ Below w.heap.size w w' := by
  have hrow := Lib.hid (fun h0 => h.at h0)
  have hlen : len ≤ 9223372036854775807 := by
    rcases h with ⟨_, h1, _⟩ | ⟨x, rfl, hl, hm, _⟩
    · omega
    · unfold maxLen at hm; omega
  clear h
  go_enter Try.func17, Try.ntmps17
  go_wp2_with fail
  go_loopw [3, 4] (fun sv i wr => ∃ (s : ByteArray) (k : Nat), k ≤ len ∧ k ≤ 60 ∧ i = .int .i64 k ∧ sv = .string s ∧ Hid (s.size = k) ∧ s.size ≤ k ∧ Hid (goodL s.data.toList = true) ∧ Below w.heap.size w wr) (fun _ i _ => 60 - (intOf i).toNat)
  case atStart => exact ⟨⟨#[]⟩, 0, by omega, by omega, rfl, rfl, rfl, Nat.le_refl _, rfl, Below.refl _ _⟩
  case round =>
    obtain ⟨s, k, hk1, hk2, rfl, rfl, hsz, hsz2, hg, hb⟩ := hrel
    by_cases hgo : k < len ∧ k < 60
    · obtain ⟨hkl, hkm⟩ := hgo
      have hd1 : decide (k < len) = true := by simpa using hkl
      have hd2 : decide (k < 60) = true := by simpa using hkm
      have hd3 : decide ((k : Int) < 60) = true := by simp; omega
      obtain ⟨b, off, rfl, hbl, _, hcells⟩ := hrow.out (by omega)
      obtain ⟨hc, hx0, hx1⟩ := hcells k hkl
      clear hcells
      have hc2 : wr.cell? ⟨b, off + k, none⟩ = some (.int .u8 (zs.getD k 0)) := (hb.cell (p := ⟨b, off + k, none⟩) hbl).trans hc
      clear hc
      obtain ⟨x, hx⟩ : ∃ x, x = zs.getD k 0 := ⟨_, rfl⟩
      rw [← hx] at hc2 hx0 hx1
      clear hx
      obtain ⟨y, rfl⟩ : ∃ y : Nat, x = y := ⟨x.toNat, by omega⟩
      have hr4 : y % 2 < 2 := by omega
      obtain ⟨c, hcut, hok⟩ := ab_cut (y % 2) hr4
      have e1 : IntKind.u8.wrap ((y : Int) % 2 + 1) = (y : Int) % 2 + 1 := IntWalk.u8_in _ (by omega)
      have e2 : ((y : Int) % 2 + 1).toNat = y % 2 + 1 := by omega
      have e3 : ((y : Int) % 2).toNat = y % 2 := by omega
      have e4 : 0 ≤ (y : Int) % 2 := by omega
      have e5 : (y : Int) % 2 ≤ 1 := by omega
      have e6 : (y : Int) % 2 + 1 ≤ 2 := by omega
      have hcut' := Lib.hid hcut
      have hok' := Lib.hid hok
      clear hcut hok
      go_wp2
      go_quiet (fail)
      have hs1 := Lib.hid (show (s ++ ⟨#[c]⟩).size = k + 1 by rw [ByteArray.size_append, hsz.out]; rfl)
      go_wp2
      go_roundw
      case rel =>
        rw [hcut'.out]
        exact ⟨s ++ ⟨#[c]⟩, k + 1, by omega, by omega, by go_num, rfl, hs1, by rw [hs1.out]; exact Nat.le_refl _, Lib.hid (good_push s c hg.out hok'.out), below_drewN hb _⟩
      case measure => simp [intOf]; omega
    · have hstop : Hid (decide (k < len) = false) ∨ Hid (decide (k < len) = true ∧ decide ((k : Int) < 60) = false ∧ decide (k < 60) = false) := by
        by_cases h1 : k < len
        · right; exact Lib.hid ⟨by simpa using h1, by simp; omega, by simp; omega⟩
        · left; exact Lib.hid (by simpa using h1)
      clear hgo
      obtain ⟨S, hS⟩ : ∃ S, S = s ++ ⟨#[98]⟩ := ⟨_, rfl⟩
      have hSg : goodL S.data.toList = true := by rw [hS]; exact good_push s 98 hg.out (by decide)
      have hSs : S.size = s.size + 1 := by rw [hS, ByteArray.size_append]; rfl
      have hSc := chk_of (s := S) (by omega) (by omega) hSg
      have k27 := Lib.hid (fun w => lyndon27 S w hSc)
      have hS' := Lib.hid hS
      have hSg' := Lib.hid hSg
      obtain ⟨w1, rfl⟩ : ∃ w1 : World, w1 = wr := ⟨_, rfl⟩
      clear hS hSg hSc
      have hwl := words_len S.data.toList
      rw [size_len] at hwl
      have hev := Lib.hid (fun i hi => words_each (S := S) hSg'.out (by omega) i hi)
      obtain ⟨W, hW⟩ : ∃ W, W = words S.data.toList := ⟨_, rfl⟩
      rw [← hW] at hwl hev k27
      clear hW
      obtain ⟨n, hn⟩ : ∃ n, n = W.length := ⟨_, rfl⟩
      have hn' := Lib.hid hn
      rw [← hn] at hwl hev
      clear hn
      have hn61 : n ≤ 61 := by omega
      rcases hstop with hd | hd
      · have hd1 := hd.out
        go_wp2_with fail
        rw [← hS'.out]
        refine (k27.out w1).mono ?_
        rintro e w2 ⟨v, rfl, hv, g2⟩
        obtain ⟨ao, c, rfl, hr⟩ := hv.shape
        rw [← hn'.out] at hr ⊢
        have hr' := Lib.hid hr
        have gA := below_call hb g2
        clear hv hr hd1 g2
        go_wp2_with fail
        refine (lives24 w2).mono ?_
        rintro e w3 ⟨rfl, g3⟩
        have gB := below_call gA g3
        have hs3 := g3.size
        go_wp2_with fail
        go_loopw [7] (fun i wr => ∃ k : Nat, k ≤ n ∧ i = .int .i64 k ∧ Below w3.heap.size w3 wr) (fun i _ => n - (intOf i).toNat)
        case atStart => exact ⟨0, Nat.zero_le _, rfl, Below.refl _ _⟩
        case round =>
          obtain ⟨i, hi, rfl, hbr⟩ := hrel
          obtain ⟨w4, rfl⟩ : ∃ w4 : World, w4 = wr := ⟨_, rfl⟩
          by_cases hlt : i < n
          · have hne : W ≠ [] := fun e => by have := hn'.out; rw [e] at this; simp at this; omega
            obtain ⟨g, rfl, hg2, hcells⟩ := hr'.out hne
            obtain ⟨U, hU, hok⟩ := hev.out i hlt
            have hc2 : w2.cell? ⟨g, i, none⟩ = some (.string U) := by rw [hcells i hlt, hU]
            have hgr3 : g < w3.heap.size := Nat.lt_of_lt_of_le hg2 hs3
            have hcr : w4.cell? ⟨g, i, none⟩ = some (.string U) := ((hbr.cell (p := ⟨g, i, none⟩) hgr3).trans (g3.cell (p := ⟨g, i, none⟩) hg2)).trans hc2
            have hgr4 : g < w4.heap.size := Nat.lt_of_lt_of_le hgr3 hbr.size
            have hle := hok.le
            have hpos := hok.pos
            have hbn := bN_le U.data.toList
            rw [size_len] at hbn
            have k53 := Lib.hid (fun w => bs53 U w (by omega))
            have k42 := Lib.hid (fun w => balanced42 U w hok.chk)
            have hew := Lib.hid (fun h1 h2 => even_word hok h1 h2)
            obtain ⟨b, hbb⟩ : ∃ b, b = bN U.data.toList := ⟨_, rfl⟩
            obtain ⟨t, htt⟩ : ∃ t, t = balB U.data.toList := ⟨_, rfl⟩
            rw [← hbb] at hbn k53 hew
            rw [← htt] at k42 hew
            have hhr := hr'
            clear hbb htt hU hok hcells hc2
            by_cases hb0 : b = 0
            · have q1 : ((b : Int) == 0) = true := by simp; omega
              subst hb0
              go_wp2_with fail
              refine (k53.out _).mono ?_
              rintro e w5 ⟨rfl, rfl⟩
              go_wp2_with fail
              refine (k42.out _).mono ?_
              rintro e w6 ⟨rfl, g6⟩
              go_wp2_with fail
              exact ⟨⟨i + 1, by omega, by go_num, below_seq hbr g6 (Nat.le_refl _)⟩, by simp [intOf]; omega⟩
            · have q1 : ((b : Int) == 0) = false := by simp; omega
              have q1' : ¬ b = 0 := hb0
              by_cases hbu : b = U.size
              · have q2 : ((b : Int) == (U.size : Int)) = true := by simp; omega
                have q3 := Lib.hid hbu
                clear hbu hew
                go_wp2_with fail
                refine (k53.out _).mono ?_
                rintro e w5 ⟨rfl, rfl⟩
                go_wp2_with fail
                refine (k42.out _).mono ?_
                rintro e w6 ⟨rfl, g6⟩
                go_wp2_with fail
                exact ⟨⟨i + 1, by omega, by go_num, below_seq hbr g6 (Nat.le_refl _)⟩, by simp [intOf]; omega⟩
              · have q2 : ((b : Int) == (U.size : Int)) = false := by simp; omega
                have q2' : ¬ b = U.size := hbu
                obtain ⟨X, err, hE, hcase⟩ := hew.out (by omega) (by omega)
                have hE' := Lib.hid hE
                have e1 : IntKind.i64.wrap ((U.size : Int) - (b : Int)) = (U.size : Int) - b := IntWalk.i64_in _ (by omega)
                clear hew hE hbu hb0
                rcases hcase with ⟨rfl, hq⟩ | ⟨rfl, hq⟩
                · cases t
                  · go_wp2_with fail
                    refine (k53.out _).mono ?_
                    rintro e w5 ⟨rfl, rfl⟩
                    go_wp2_with fail
                    refine (k42.out _).mono ?_
                    rintro e w6 ⟨rfl, g6⟩
                    go_wp2_with fail
                    refine (hE'.out _).mono ?_
                    rintro e w7 ⟨rfl, g7⟩
                    have hcr7 : w7.cell? ⟨g, i, none⟩ = some (.string U) := ((g7.cell (p := ⟨g, i, none⟩) (Nat.lt_of_lt_of_le hgr4 g6.size)).trans (g6.cell (p := ⟨g, i, none⟩) hgr4)).trans hcr
                    go_wp2_with fail
                    exact ⟨⟨i + 1, by omega, by go_num, below_seq (below_seq hbr g6 (Nat.le_refl _)) g7 (Nat.le_refl _)⟩, by simp [intOf]; omega⟩
                  · go_wp2_with fail
                    refine (k53.out _).mono ?_
                    rintro e w5 ⟨rfl, rfl⟩
                    go_wp2_with fail
                    refine (k42.out _).mono ?_
                    rintro e w6 ⟨rfl, g6⟩
                    go_wp2_with fail
                    refine (hE'.out _).mono ?_
                    rintro e w7 ⟨rfl, g7⟩
                    have hcr7 : w7.cell? ⟨g, i, none⟩ = some (.string U) := ((g7.cell (p := ⟨g, i, none⟩) (Nat.lt_of_lt_of_le hgr4 g6.size)).trans (g6.cell (p := ⟨g, i, none⟩) hgr4)).trans hcr
                    go_wp2_with fail
                    exact ⟨⟨i + 1, by omega, by go_num, below_seq (below_seq hbr g6 (Nat.le_refl _)) g7 (Nat.le_refl _)⟩, by simp [intOf]; omega⟩
                · subst hq
                  go_wp2_with fail
                  refine (k53.out _).mono ?_
                  rintro e w5 ⟨rfl, rfl⟩
                  go_wp2_with fail
                  refine (k42.out _).mono ?_
                  rintro e w6 ⟨rfl, g6⟩
                  go_wp2_with fail
                  refine (hE'.out _).mono ?_
                  rintro e w7 ⟨rfl, g7⟩
                  have hcr7 : w7.cell? ⟨g, i, none⟩ = some (.string U) := ((g7.cell (p := ⟨g, i, none⟩) (Nat.lt_of_lt_of_le hgr4 g6.size)).trans (g6.cell (p := ⟨g, i, none⟩) hgr4)).trans hcr
                  go_wp2_with fail
                  exact ⟨⟨i + 1, by omega, by go_num, below_seq (below_seq hbr g6 (Nat.le_refl _)) g7 (Nat.le_refl _)⟩, by simp [intOf]; omega⟩
          · go_wp2
            go_ret
            exact ⟨rfl, below_call gB hbr⟩
      · obtain ⟨hd1, hd2, hd3⟩ := hd.out
        go_wp2_with fail
        rw [← hS'.out]
        refine (k27.out w1).mono ?_
        rintro e w2 ⟨v, rfl, hv, g2⟩
        obtain ⟨ao, c, rfl, hr⟩ := hv.shape
        rw [← hn'.out] at hr ⊢
        have hr' := Lib.hid hr
        have gA := below_call hb g2
        clear hv hr hd1 hd2 hd3 g2
        go_wp2_with fail
        refine (lives24 w2).mono ?_
        rintro e w3 ⟨rfl, g3⟩
        have gB := below_call gA g3
        have hs3 := g3.size
        go_wp2_with fail
        go_loopw [7] (fun i wr => ∃ k : Nat, k ≤ n ∧ i = .int .i64 k ∧ Below w3.heap.size w3 wr) (fun i _ => n - (intOf i).toNat)
        case atStart => exact ⟨0, Nat.zero_le _, rfl, Below.refl _ _⟩
        case round =>
          obtain ⟨i, hi, rfl, hbr⟩ := hrel
          obtain ⟨w4, rfl⟩ : ∃ w4 : World, w4 = wr := ⟨_, rfl⟩
          by_cases hlt : i < n
          · have hne : W ≠ [] := fun e => by have := hn'.out; rw [e] at this; simp at this; omega
            obtain ⟨g, rfl, hg2, hcells⟩ := hr'.out hne
            obtain ⟨U, hU, hok⟩ := hev.out i hlt
            have hc2 : w2.cell? ⟨g, i, none⟩ = some (.string U) := by rw [hcells i hlt, hU]
            have hgr3 : g < w3.heap.size := Nat.lt_of_lt_of_le hg2 hs3
            have hcr : w4.cell? ⟨g, i, none⟩ = some (.string U) := ((hbr.cell (p := ⟨g, i, none⟩) hgr3).trans (g3.cell (p := ⟨g, i, none⟩) hg2)).trans hc2
            have hgr4 : g < w4.heap.size := Nat.lt_of_lt_of_le hgr3 hbr.size
            have hle := hok.le
            have hpos := hok.pos
            have hbn := bN_le U.data.toList
            rw [size_len] at hbn
            have k53 := Lib.hid (fun w => bs53 U w (by omega))
            have k42 := Lib.hid (fun w => balanced42 U w hok.chk)
            have hew := Lib.hid (fun h1 h2 => even_word hok h1 h2)
            obtain ⟨b, hbb⟩ : ∃ b, b = bN U.data.toList := ⟨_, rfl⟩
            obtain ⟨t, htt⟩ : ∃ t, t = balB U.data.toList := ⟨_, rfl⟩
            rw [← hbb] at hbn k53 hew
            rw [← htt] at k42 hew
            have hhr := hr'
            clear hbb htt hU hok hcells hc2
            by_cases hb0 : b = 0
            · have q1 : ((b : Int) == 0) = true := by simp; omega
              subst hb0
              go_wp2_with fail
              refine (k53.out _).mono ?_
              rintro e w5 ⟨rfl, rfl⟩
              go_wp2_with fail
              refine (k42.out _).mono ?_
              rintro e w6 ⟨rfl, g6⟩
              go_wp2_with fail
              exact ⟨⟨i + 1, by omega, by go_num, below_seq hbr g6 (Nat.le_refl _)⟩, by simp [intOf]; omega⟩
            · have q1 : ((b : Int) == 0) = false := by simp; omega
              have q1' : ¬ b = 0 := hb0
              by_cases hbu : b = U.size
              · have q2 : ((b : Int) == (U.size : Int)) = true := by simp; omega
                have q3 := Lib.hid hbu
                clear hbu hew
                go_wp2_with fail
                refine (k53.out _).mono ?_
                rintro e w5 ⟨rfl, rfl⟩
                go_wp2_with fail
                refine (k42.out _).mono ?_
                rintro e w6 ⟨rfl, g6⟩
                go_wp2_with fail
                exact ⟨⟨i + 1, by omega, by go_num, below_seq hbr g6 (Nat.le_refl _)⟩, by simp [intOf]; omega⟩
              · have q2 : ((b : Int) == (U.size : Int)) = false := by simp; omega
                have q2' : ¬ b = U.size := hbu
                obtain ⟨X, err, hE, hcase⟩ := hew.out (by omega) (by omega)
                have hE' := Lib.hid hE
                have e1 : IntKind.i64.wrap ((U.size : Int) - (b : Int)) = (U.size : Int) - b := IntWalk.i64_in _ (by omega)
                clear hew hE hbu hb0
                rcases hcase with ⟨rfl, hq⟩ | ⟨rfl, hq⟩
                · cases t
                  · go_wp2_with fail
                    refine (k53.out _).mono ?_
                    rintro e w5 ⟨rfl, rfl⟩
                    go_wp2_with fail
                    refine (k42.out _).mono ?_
                    rintro e w6 ⟨rfl, g6⟩
                    go_wp2_with fail
                    refine (hE'.out _).mono ?_
                    rintro e w7 ⟨rfl, g7⟩
                    have hcr7 : w7.cell? ⟨g, i, none⟩ = some (.string U) := ((g7.cell (p := ⟨g, i, none⟩) (Nat.lt_of_lt_of_le hgr4 g6.size)).trans (g6.cell (p := ⟨g, i, none⟩) hgr4)).trans hcr
                    go_wp2_with fail
                    exact ⟨⟨i + 1, by omega, by go_num, below_seq (below_seq hbr g6 (Nat.le_refl _)) g7 (Nat.le_refl _)⟩, by simp [intOf]; omega⟩
                  · go_wp2_with fail
                    refine (k53.out _).mono ?_
                    rintro e w5 ⟨rfl, rfl⟩
                    go_wp2_with fail
                    refine (k42.out _).mono ?_
                    rintro e w6 ⟨rfl, g6⟩
                    go_wp2_with fail
                    refine (hE'.out _).mono ?_
                    rintro e w7 ⟨rfl, g7⟩
                    have hcr7 : w7.cell? ⟨g, i, none⟩ = some (.string U) := ((g7.cell (p := ⟨g, i, none⟩) (Nat.lt_of_lt_of_le hgr4 g6.size)).trans (g6.cell (p := ⟨g, i, none⟩) hgr4)).trans hcr
                    go_wp2_with fail
                    exact ⟨⟨i + 1, by omega, by go_num, below_seq (below_seq hbr g6 (Nat.le_refl _)) g7 (Nat.le_refl _)⟩, by simp [intOf]; omega⟩
                · subst hq
                  go_wp2_with fail
                  refine (k53.out _).mono ?_
                  rintro e w5 ⟨rfl, rfl⟩
                  go_wp2_with fail
                  refine (k42.out _).mono ?_
                  rintro e w6 ⟨rfl, g6⟩
                  go_wp2_with fail
                  refine (hE'.out _).mono ?_
                  rintro e w7 ⟨rfl, g7⟩
                  have hcr7 : w7.cell? ⟨g, i, none⟩ = some (.string U) := ((g7.cell (p := ⟨g, i, none⟩) (Nat.lt_of_lt_of_le hgr4 g6.size)).trans (g6.cell (p := ⟨g, i, none⟩) hgr4)).trans hcr
                  go_wp2_with fail
                  exact ⟨⟨i + 1, by omega, by go_num, below_seq (below_seq hbr g6 (Nat.le_refl _)) g7 (Nat.le_refl _)⟩, by simp [intOf]; omega⟩
          · go_wp2
            go_ret
            exact ⟨rfl, below_call gB hbr⟩
end Go.Proofs.Ytbcoaiaocfommaa
