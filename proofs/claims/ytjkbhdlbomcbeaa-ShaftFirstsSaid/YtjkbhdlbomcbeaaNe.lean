import Derived.Test.YtjkbhdlbomcbeaaNb
namespace Go.Proofs.Ytjkbhdlbomcbeaa
open Go.RowKit Go.Shelf Shf

/-- The greatest end of the first `n` jobs. -/
def endM (js : List J) (xs : List Int) : Nat → Int
  | 0 => 0
  | n + 1 => max (endM js xs n) (xs.getD n 0 + (js.getD n J0).l)
theorem endM_in {js : List J} {xs : List Int} {b : Int} (hb : 0 ≤ b) : ∀ n, (∀ i, i < n → xs.getD i 0 + (js.getD i J0).l ≤ b) → 0 ≤ endM js xs n ∧ endM js xs n ≤ b
  | 0, _ => ⟨Int.le_refl _, hb⟩
  | n + 1, h => by
    have h1 := endM_in hb n (fun i hi => h i (by omega))
    have h2 := h n (by omega)
    unfold endM
    omega
theorem endM_ge {js : List J} {xs : List Int} : ∀ n i, i < n → xs.getD i 0 + (js.getD i J0).l ≤ endM js xs n
  | n + 1, i, hi => by
    unfold endM
    by_cases e : i = n
    · subst e; omega
    · have := endM_ge (js := js) (xs := xs) n i (by omega); omega
/-- No schedule ends before the least end. -/
theorem end_least {s : Sh} (hs : Loose s) {m : Nat} (h : LeastEnd s m) {xs : List Int} (hS : Sched s fun i => xs.getD i 0) : (m : Int) ≤ endM s.js xs s.n := by
  have h0 : 0 ≤ endM s.js xs s.n := (endM_in (b := 24) (by omega) s.n (fun i hi => by
    have h1 := hS.range i hi
    have h2 := hs.jobs i hi
    unfold lat at h1
    show xs.getD i 0 + (s.job i).l ≤ 24
    omega)).1
  refine Int.not_lt.1 fun hlt => h.2.2 (endM s.js xs s.n).toNat (by omega) ⟨_, (sched_ending hs.orders _).2 ⟨hS, fun i hi => ?_⟩⟩
  have := endM_ge (js := s.js) (xs := xs) s.n i hi
  show xs.getD i 0 + (s.js.getD i J0).l ≤ _
  omega
theorem end_short {s : Sh} (hs : Loose s) {m : Nat} (h : LeastEnd s m) {xs : List Int} (hS : First (ending s m) fun i => xs.getD i 0) : endM s.js xs s.n = (m : Int) := by
  obtain ⟨h1, h2⟩ := ends_in hs hS.is
  have h3 := end_least hs h h1
  have h4 := (endM_in (js := s.js) (xs := xs) (b := m) (by omega) s.n (fun i hi => h2 i hi)).2
  omega
set_option maxHeartbeats 8000000 in
set_option maxRecDepth 100000 in
theorem refEnd36 {w : World} {v u : Value} {P : Int} {js : List J} {os : List (Int × Int)} {xs : List Int} (h : ShV w v P js os) (hx : Reads w u xs) (hl : xs.length = js.length) (h7 : js.length ≤ 7) (hr : ∀ i, i < js.length → (0 ≤ xs.getD i 0 ∧ xs.getD i 0 ≤ 24) ∧ 0 ≤ (js.getD i J0).l ∧ (js.getD i J0).l ≤ 24) {E : Int} (hE : E = endM js xs js.length) :
    Calls Try.prog 36 #[v, u] w fun e w' => e = .returned (.int .i64 E) ∧ Below w.heap.size w w' := by
  obtain ⟨jv, ov, rfl, rj, ro⟩ := h
  obtain ⟨ja, n, jc, rfl⟩ : ∃ a n c, jv = .slice a n c := by obtain ⟨a, c, e, _⟩ := rj; exact ⟨_, _, _, e⟩
  obtain ⟨oa, m, oc, rfl⟩ : ∃ a n c, ov = .slice a n c := by obtain ⟨a, c, e, _⟩ := ro; exact ⟨_, _, _, e⟩
  obtain rfl : n = js.length := by obtain ⟨a, c, e, _⟩ := rj; cases e; rfl
  obtain ⟨xa, xc, rfl, hxc⟩ := hx.len
  rw [hl] at hx hxc ⊢
  obtain ⟨n, hn⟩ : ∃ n, n = js.length := ⟨_, rfl⟩
  rw [← hn] at rj hx hl hxc h7 hr hE ⊢
  have hb0 := Lib.hid (below_alloc1 w (.cells #[.int .i64 P, .slice ja n jc, .slice oa m oc] 25))
  have ht0 := Lib.hid (Three.new w (.int .i64 P) (.slice ja n jc) (.slice oa m oc) 25)
  obtain ⟨W0, hW0⟩ : ∃ W0, W0 = w.alloc (.cells #[.int .i64 P, .slice ja n jc, .slice oa m oc] 25) := ⟨_, rfl⟩
  have hz0 := Lib.hid (show w.heap.size < W0.heap.size by rw [hW0]; simp)
  have hat := Lib.hid (fun (i : Nat) (hi : i < n) => rj.at' hi)
  have hxt := Lib.hid (fun (i : Nat) (hi : i < n) => hx.at hl hi)
  have hr' := Lib.hid hr
  have hE' := Lib.hid hE
  clear rj ro hx hr hE hn hl hxc
  go_enter Try.func36, Try.ntmps36
  go_wp2_with fail
  rw [← hW0] at hb0 ht0 ⊢
  clear hW0
  go_loopw [5, 6] (fun ev iv wr => ∃ i : Nat, i ≤ n ∧ iv = .int .i64 i ∧ ev = .int .i64 (endM js xs i) ∧ Hid (Below W0.heap.size W0 wr)) (fun _ iv _ => n - (intOf iv).toNat)
  case atStart => exact ⟨0, Nat.zero_le _, rfl, rfl, Lib.hid (Below.refl _ _)⟩
  case round =>
    obtain ⟨i, hi, rfl, rfl, hB⟩ := hrel
    obtain ⟨wi, rfl⟩ : ∃ wi : World, wi = wr := ⟨_, rfl⟩
    have hBw := Lib.hid (hb0.out.trans (hB.out.mono (Nat.le_of_lt hz0.out)))
    obtain ⟨⟨y0, y1, y2⟩, -⟩ := ht0.out.keep hB.out hz0.out
    have hin2 := endM_in (js := js) (xs := xs) (b := 48) (by omega) i (fun k hk => by have := hr'.out k (by omega); omega)
    by_cases hin : i < n
    · obtain ⟨g, rfl, hg, k0, k1, k2, k3⟩ := hat.out i hin
      obtain ⟨gx, ox, rfl, hgx, hcx⟩ := hxt.out i hin
      have d2 := (hBw.out.cell (p := ⟨g, i * 4 + 2, none⟩) hg).trans k2
      have c0 := (hBw.out.cell (p := ⟨gx, ox + i, none⟩) hgx).trans (hcx i hin)
      have hri := hr'.out i hin
      have hnx : endM js xs (i + 1) = max (endM js xs i) (xs.getD i 0 + (js.getD i J0).l) := rfl
      obtain ⟨z, hz⟩ : ∃ z, z = endM js xs i := ⟨_, rfl⟩
      obtain ⟨x, hx⟩ : ∃ x, x = xs.getD i 0 := ⟨_, rfl⟩
      obtain ⟨l, hl⟩ : ∃ l, l = (js.getD i J0).l := ⟨_, rfl⟩
      rw [← hz] at hin2 ⊢
      rw [← hx, ← hl] at hri
      rw [← hz, ← hx, ← hl] at hnx
      rw [← hl] at d2
      rw [← hx] at c0
      have hnx' := Lib.hid (show (if z < x + l then x + l else z) = endM js xs (i + 1) by rw [hnx]; show _ = max z (x + l); split <;> omega)
      have hin' : (i : Int) < (n : Int) := by omega
      clear k0 k1 k2 k3 hcx hz hx hl hnx
      go_wp2_with fail
      go_quiet (fail)
      go_wp2_with fail
      exact ⟨⟨i + 1, by omega, by go_num, int_eq hnx'.out, Lib.hid (below_drewN hB.out _)⟩, by simp [intOf]; omega⟩
    · obtain rfl : i = n := by omega
      rw [← hE'.out] at hin2 ⊢
      go_wp2_with fail
      go_ret
      exact ⟨rfl, hBw.out⟩
end Go.Proofs.Ytjkbhdlbomcbeaa
