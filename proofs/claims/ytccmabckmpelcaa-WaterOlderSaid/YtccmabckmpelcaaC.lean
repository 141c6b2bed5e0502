import Derived.Test.YtccmabckmpelcaaB
namespace Go.Proofs.Ytccmabckmpelcaa
open Go.RowKit

def allG (l : List (List Int)) : Bool := l.all gainB
theorem allG_cons (x : List Int) (l : List (List Int)) : allG (x :: l) = (gainB x && allG l) := by simp [allG]
def rivB (f : List Int) (g : List (List Int)) : Bool := flowB f && decide (g.length = f.length) && allG g
def noRiv : Value := .agg #[.slice none 0 0, .slice none 0 0]
def rivRes (b : Bool) (u v : Value) : Ending := if b then .returned (.tuple #[.agg #[u, v], .int .i64 0]) else .returned (.tuple #[.agg #[.slice none 0 0, .slice none 0 0], .int .i64 1])

set_option maxHeartbeats 1000000 in
set_option maxRecDepth 100000 in
theorem river39 {w : World} {u v : Value} {fs : List Int} {gs : List (List Int)} (hu : Reads w u fs) (hv : ReadsG w v gs) (hl : fs.length ≤ 1000000) (hg : gs.length ≤ 1000000) (hgl : ∀ j, j < gs.length → (gs.getD j []).length ≤ 1000000) :
    Calls Try.prog 39 #[u, v] w fun e w' => e = rivRes (rivB fs gs) u v ∧ Below w.heap.size w w' := by
  have hu' := hu
  obtain ⟨ao, c, rfl, _, h1⟩ := hu
  obtain ⟨bo, d, rfl, _, h2⟩ := hv
  clear h1
  by_cases ha : flowB fs = true
  · by_cases hb : gs.length = fs.length
    · obtain ⟨n, hn⟩ : ∃ n, n = fs.length := ⟨_, rfl⟩
      rw [← hn] at hb
      have hrr := Lib.hid (show rivB fs gs = allG gs by unfold rivB; rw [ha, ← hn, hb]; simp)
      rw [hb] at h2 hg ⊢
      rw [← hn]
      have hb' := Lib.hid hb
      have h2' := Lib.hid h2
      have hgl' := Lib.hid hgl
      have hn' := Lib.hid hn
      rw [← hn] at hu'
      clear h2 hb hgl hn
      go_enter Try.func39, Try.ntmps39
      go_wp2_with (first | (go_at_call 50; refine (flow50 (hu'.below ((Below.refl _ _).alloc (Nat.le_refl _) _)) hl).mono ?_; rw [ha]; rintro e w1 ⟨rfl, rfl⟩))
      have hb0 : Below w.heap.size w (w.alloc (Obj.cells #[Value.slice none 0 0, Value.slice none 0 0] 57)) := (Below.refl _ _).alloc (Nat.le_refl _) _
      go_loop [21] (fun i => ∃ k : Nat, k ≤ n ∧ i = .int .i64 k ∧ Hid (allG gs = allG (gs.drop k))) (fun i => n - (intOf i).toNat)
      case atStart => exact ⟨0, Nat.zero_le _, rfl, Lib.hid rfl⟩
      case round =>
        obtain ⟨k, hk, rfl, hj⟩ := hrel
        by_cases hlt : k < n
        · have e1 := hb'.out
          obtain ⟨g, o, rfl, hg, hc1⟩ := h2'.out (fun e => by rw [e] at e1; simp at e1; omega)
          obtain ⟨y, c1, hy⟩ := hc1 k (by omega)
          have c2 := (hb0.cell (p := ⟨g, o + k, none⟩) hg).trans c1
          have hd := Lib.hid (drop_consG gs k (by omega))
          have hgk := hgl'.out k (by omega)
          clear hc1 e1 c1
          by_cases hx : gainB (gs.getD k []) = true
          · have hf := Lib.hid (show allG gs = allG (gs.drop (k + 1)) by rw [hj.out, hd.out, allG_cons, hx]; simp)
            go_wp2_with (first | (go_at_call 54; refine (gains54 (hy.below hb0) hgk).mono ?_; rw [hx]; rintro e w2 ⟨rfl, rfl⟩))
            go_round
            case rel => exact ⟨k + 1, by omega, by go_num, hf⟩
            case measure => simp [intOf]; omega
          · have hx1 : gainB (gs.getD k []) = false := by simpa using hx
            have hf := Lib.hid (show allG gs = false by rw [hj.out, hd.out, allG_cons, hx1]; simp)
            clear hx
            go_wp2_with (first | (go_at_call 54; refine (gains54 (hy.below hb0) hgk).mono ?_; rw [hx1]; rintro e w2 ⟨rfl, rfl⟩))
            (try simp only [Exit.inBlock, Exit.then])
            refine bodyPost_ret (v := .tuple #[.agg #[.slice none 0 0, .slice none 0 0], .int .i64 1]) (by rw [results_cell_tmp rfl]; go_simp) rfl ⟨by rw [hrr.out, hf.out]; rfl, (Below.refl _ _).alloc (Nat.le_refl _) _⟩
        · have hf := Lib.hid (show allG gs = true by rw [hj.out, drop_end _ _ (by rw [hb'.out]; omega)]; rfl)
          go_wp2
          (try simp only [Exit.inBlock, Exit.then])
          refine bodyPost_ret (v := .tuple #[.agg #[.slice ao n c, .slice bo n d], .int .i64 0]) (by rw [results_cell_tmp rfl]; go_simp) rfl ⟨by rw [hrr.out, hf.out]; rfl, (Below.refl _ _).alloc (Nat.le_refl _) _⟩
    · have hr := Lib.hid (show rivB fs gs = false by simp [rivB, hb])
      have hb2 : ((gs.length : Int) != (fs.length : Int)) = true := by simp; omega
      go_enter Try.func39, Try.ntmps39
      go_wp2_with (first | (go_at_call 50; refine (flow50 (hu'.below ((Below.refl _ _).alloc (Nat.le_refl _) _)) hl).mono ?_; rw [ha]; rintro e w1 ⟨rfl, rfl⟩))
      (try simp only [Exit.inBlock, Exit.then])
      refine bodyPost_ret (v := .tuple #[.agg #[.slice none 0 0, .slice none 0 0], .int .i64 1]) (by rw [results_cell_tmp rfl]; go_simp) rfl ⟨by rw [hr.out]; rfl, (Below.refl _ _).alloc (Nat.le_refl _) _⟩
  · have ha1 : flowB fs = false := by simpa using ha
    have hr := Lib.hid (show rivB fs gs = false by simp [rivB, ha1])
    clear ha
    go_enter Try.func39, Try.ntmps39
    go_wp2_with (first | (go_at_call 50; refine (flow50 (hu'.below ((Below.refl _ _).alloc (Nat.le_refl _) _)) hl).mono ?_; rw [ha1]; rintro e w1 ⟨rfl, rfl⟩))
    (try simp only [Exit.inBlock, Exit.then])
    refine bodyPost_ret (v := .tuple #[.agg #[.slice none 0 0, .slice none 0 0], .int .i64 1]) (by rw [results_cell_tmp rfl]; go_simp) rfl ⟨by rw [hr.out]; rfl, (Below.refl _ _).alloc (Nat.le_refl _) _⟩
end Go.Proofs.Ytccmabckmpelcaa
