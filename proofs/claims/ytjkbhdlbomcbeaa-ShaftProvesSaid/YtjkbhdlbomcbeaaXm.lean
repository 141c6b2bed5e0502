import Derived.Test.YtjkbhdlbomcbeaaXb
namespace Go.Proofs.Ytjkbhdlbomcbeaa
open Go.RowKit Go.Shelf Shf

theorem tab_succ (n : Nat) (F : Nat → Int) : tab (n + 1) F = tab n F ++ [F n] := by
  unfold tab; rw [List.range_succ, List.map_append]; rfl
theorem sm_act_in {s : Sh} (hs : Loose s) {S : Nat → Int} {t : Int} {i : Nat} (hi : i ≤ s.n) : 0 ≤ sm i (fun k => act (s.job k) (S k) t) ∧ sm i (fun k => act (s.job k) (S k) t) ≤ 120 := by
  have h := sm_bound (b := 20) (f := fun k => act (s.job k) (S k) t) (by omega) i (fun k hk => act_in (by have := hs.jobs k (by omega); omega) _ _)
  have hn := hs.num
  omega
set_option maxHeartbeats 4000000 in
set_option maxRecDepth 100000 in
theorem refLoad34 {w : World} {v u : Value} {s : Sh} {os : List (Int × Int)} {xs : List Int} (hs : Loose s) (h : ShV w v s.P s.js os) (hx : Reads w u xs) (hl : xs.length = s.n) (hr : ∀ i, i < s.n → 0 ≤ xs.getD i 0 ∧ xs.getD i 0 ≤ 24) :
    Calls Try.prog 34 #[v, u] w (Made w (loadL s fun i => xs.getD i 0)) := by
  obtain ⟨jv, ov, rfl, rj, ro⟩ := h
  obtain ⟨ja, jc, rfl, hjc, hjat⟩ := rj.at
  obtain ⟨oa, m, oc, rfl⟩ : ∃ a n c, ov = .slice a n c := by obtain ⟨a, c, e, _⟩ := ro; exact ⟨_, _, _, e⟩
  obtain ⟨xa, xc, rfl, hxc⟩ := hx.len
  have h6 := hs.num
  rw [show s.js.length = s.n from rfl] at hjat hjc rj ⊢
  rw [hl] at hx hxc ⊢
  obtain ⟨n, hn⟩ : ∃ n, n = s.n := ⟨_, rfl⟩
  rw [← hn] at hjat hjc h6 rj hx hxc hr hl ⊢
  obtain ⟨S, hS⟩ : ∃ S : Nat → Int, S = fun i => xs.getD i 0 := ⟨_, rfl⟩
  rw [← hS]
  have hxat := Lib.hid (fun (k : Nat) (hk : k < n) => (show ∃ g o, xa = some ⟨g, o, none⟩ ∧ g < w.heap.size ∧ w.cell? ⟨g, o + k, none⟩ = some (.int .i64 (S k)) ∧ 0 ≤ S k ∧ S k ≤ 24 from by
    obtain ⟨g, o, e, hg, h⟩ := hx.at hl hk
    rw [hS]
    exact ⟨g, o, e, hg, h k hk, hr k hk⟩))
  have hn' := Lib.hid hn
  have hjat' := Lib.hid hjat
  have hs' := Lib.hid hs
  have hb0 := Lib.hid (below_alloc1 w (.cells #[.int .i64 s.P, .slice ja n jc, .slice oa m oc] 25))
  have ht0 := Lib.hid (Three.new w (.int .i64 s.P) (.slice ja n jc) (.slice oa m oc) 25)
  have hz0 := Lib.hid (show (w.alloc (.cells #[.int .i64 s.P, .slice ja n jc, .slice oa m oc] 25)).heap.size = w.heap.size + 1 by simp)
  clear hn hjat hs hx hr hl rj ro hS
  go_enter Try.func34, Try.ntmps34
  go_wp2_with fail
  obtain ⟨W0, hW0⟩ : ∃ W0, W0 = w.alloc (.cells #[.int .i64 s.P, .slice ja n jc, .slice oa m oc] 25) := ⟨_, rfl⟩
  rw [← hW0] at hb0 ht0 hz0 ⊢
  clear hW0
  have hlit := Lib.hid (show Ints (W0.alloc (.cells #[] 3)) (w.heap.size + 1) (.slice (some ⟨w.heap.size + 1, 0, none⟩) 0 0) [] from by
    have h := Ints.lit W0 (w.heap.size + 1) (by have := hz0.out; omega)
    rw [hz0.out] at h
    exact h)
  have hb1 := Lib.hid (below_alloc1 W0 (.cells #[] 3))
  have hbA := Lib.hid (show Below (w.heap.size + 1) W0 (W0.alloc (.cells #[] 3)) from hb1.out.mono (by have := hz0.out; omega))
  go_loopw [5, 6] (fun ov tv wr => ∃ t : Nat, t ≤ 24 ∧ tv = .int .i64 t ∧ Hid (Ints wr (w.heap.size + 1) ov (tab t fun t => loadAt s S (t : Int))) ∧ Hid (Below (w.heap.size + 1) W0 wr)) (fun _ tv _ => 24 - (intOf tv).toNat)
  case atStart => exact ⟨0, Nat.zero_le _, rfl, Lib.hid hlit.out, hbA⟩
  case round =>
    clear hlit hb1 hbA
    obtain ⟨t, ht, rfl, hI, hB⟩ := hrel
    obtain ⟨oa', oc', rfl, -⟩ := hI.out.shape
    obtain ⟨wo, rfl⟩ : ∃ wo : World, wo = wr := ⟨_, rfl⟩
    rw [tab_len] at hI ⊢
    by_cases htn : t < 24
    · have htB : decide ((t : Int) < 24) = true := by simp; omega
      go_wp2_with fail
      clear htB
      go_loopw [7, 8] (fun sv iv wi => ∃ i : Nat, i ≤ n ∧ iv = .int .i64 i ∧ sv = .int .i64 (sm i fun k => act (s.job k) (S k) (t : Int)) ∧ Hid (Below wo.heap.size wo wi)) (fun _ iv _ => n - (intOf iv).toNat)
      case atStart => exact ⟨0, Nat.zero_le _, rfl, rfl, Lib.hid (Below.refl _ _)⟩
      case round =>
        obtain ⟨i, hi, rfl, rfl, hBi⟩ := hrel
        obtain ⟨wi, rfl⟩ : ∃ wi : World, wi = wr := ⟨_, rfl⟩
        have hsz := hB.out.size
        rw [hz0.out] at hsz
        have hBw := Lib.hid (show Below w.heap.size w wi from hb0.out.trans ((hB.out.mono (Nat.le_succ _)).trans (hBi.out.mono (by omega))))
        obtain ⟨⟨z0, z1, z2⟩, -⟩ := (ht0.out.keep hB.out (Nat.lt_succ_self _)).keep hBi.out (by omega)
        have hin2 := sm_act_in hs'.out (S := S) (t := (t : Int)) (i := i) (by rw [← hn'.out]; exact hi)
        have hnx := Lib.hid (show sm (i + 1) (fun k => act (s.job k) (S k) (t : Int)) = sm i (fun k => act (s.job k) (S k) (t : Int)) + act (s.job i) (S i) (t : Int) from rfl)
        obtain ⟨z, hz⟩ : ∃ z, z = sm i (fun k => act (s.job k) (S k) (t : Int)) := ⟨_, rfl⟩
        rw [← hz] at hin2 hnx ⊢
        by_cases hin : i < n
        · obtain ⟨g, rfl, hg, k0, k1, k2, k3⟩ := hjat'.out i hin
          have d2 := (hBw.out.cell (p := ⟨g, i * 4 + 2, none⟩) hg).trans k2
          have d3 := (hBw.out.cell (p := ⟨g, i * 4 + 3, none⟩) hg).trans k3
          have hjb := hs'.out.jobs i (by rw [← hn'.out]; exact hin)
          obtain ⟨⟨f, tt, l, p⟩, hjq⟩ : ∃ j, j = s.js.getD i J0 := ⟨_, rfl⟩
          rw [show s.job i = s.js.getD i J0 from rfl] at hjb hnx
          rw [← hjq] at d2 d3 hjb hnx
          simp only at d2 d3 hjb
          have hin' : (i : Int) < (n : Int) := by omega
          obtain ⟨gx, ox, rfl, hgx, e0, hS0⟩ := hxat.out i hin
          have c0 := (hBw.out.cell (p := ⟨gx, ox + i, none⟩) hgx).trans e0
          obtain ⟨x, hx⟩ : ∃ x : Nat, S i = (x : Int) := ⟨(S i).toNat, by omega⟩
          rw [hx] at c0 hS0 hnx
          clear k0 k1 k2 k3 hjq hx e0 hz
          have hact := Lib.hid (show act ⟨f, tt, l, p⟩ (x : Int) (t : Int) = if (x : Int) ≤ (t : Int) ∧ (t : Int) < (x : Int) + l then p else 0 from rfl)
          by_cases c1 : x ≤ t
          · by_cases c2 : (t : Int) - (x : Int) < l
            · have hv := Lib.hid (show sm (i + 1) (fun k => act (s.job k) (S k) (t : Int)) = z + p by rw [hnx.out, hact.out, if_pos (by omega)])
              go_wp2_with fail
              go_quiet (fail)
              go_wp2_with fail
              exact ⟨⟨i + 1, by omega, by go_num, int_eq hv.out.symm, Lib.hid (below_drewN hBi.out _)⟩, by simp [intOf]; omega⟩
            · have hv := Lib.hid (show sm (i + 1) (fun k => act (s.job k) (S k) (t : Int)) = z by rw [hnx.out, hact.out, if_neg (by omega)]; omega)
              have hc2' : decide ((t : Int) - (x : Int) < l) = false := by simpa using c2
              go_wp2_with fail
              go_quiet (fail)
              go_wp2_with fail
              exact ⟨⟨i + 1, by omega, by go_num, int_eq hv.out.symm, Lib.hid (below_drewN hBi.out _)⟩, by simp [intOf]; omega⟩
          · have hv := Lib.hid (show sm (i + 1) (fun k => act (s.job k) (S k) (t : Int)) = z by rw [hnx.out, hact.out, if_neg (by omega)]; omega)
            have c1' : decide (x ≤ t) = false := by simpa using c1
            go_wp2_with fail
            go_quiet (fail)
            go_wp2_with fail
            exact ⟨⟨i + 1, by omega, by go_num, int_eq hv.out.symm, Lib.hid (below_drewN hBi.out _)⟩, by simp [intOf]; omega⟩
        · obtain rfl : i = n := by omega
          have hIi := Lib.hid (hI.out.below (hBi.out))
          have hBB := Lib.hid (show Below (w.heap.size + 1) W0 wi from hB.out.trans (hBi.out.mono hsz))
          have hsi := Lib.hid (show w.heap.size + 1 ≤ wi.heap.size from Nat.le_trans hsz hBi.out.size)
          have hz' := Lib.hid (show loadAt s S (t : Int) = z by rw [hz, hn'.out]; rfl)
          clear hz hnx
          go_wp2_with (
            at_builtin; refine app_int hIi.out (by rw [tab_len]; omega) hsi.out rfl _ _ rfl rfl rfl ?_; intro v5 w5 hI5 hb5
            have hI5' := Lib.hid hI5
            have hb5' := Lib.hid (hBB.out.trans hb5)
            clear hI5 hb5)
          have hI6 := Lib.hid (show Ints w5 (w.heap.size + 1) v5 (tab (t + 1) fun t => loadAt s S (t : Int)) from by
            rw [tab_succ, hz'.out]; exact hI5'.out)
          exact ⟨⟨t + 1, by omega, by go_num, hI6, hb5'⟩, by simp [intOf]; omega⟩
    · obtain rfl : t = 24 := by omega
      go_wp2_with fail
      go_ret
      exact ⟨_, rfl, hI.out.base (Nat.le_succ _), hb0.out.trans (hB.out.mono (Nat.le_succ _))⟩
end Go.Proofs.Ytjkbhdlbomcbeaa
