import Derived.Test.YtccmabckmpelcaaE
namespace Go.Proofs.Ytccmabckmpelcaa
open Go.RowKit

/-- The possible piece of the greatest gain, of the first `k` places. -/
def pick (fs : List Int) (gs : List (List Int)) (us : List Int) : Nat → Option Nat × Int
  | 0 => (none, 0)
  | k + 1 =>
    if us.getD k 0 = ((gs.getD k []).length : Int) then pick fs gs us k
    else if (gs.getD k []).getD (us.getD k 0).toNat 0 < (pick fs gs us k).2 then pick fs gs us k
    else if poss 0 fs (grow1 us k) = true then (some k, (gs.getD k []).getD (us.getD k 0).toNat 0) else pick fs gs us k
def nx (us : List Int) : Option Nat → List Int
  | none => us
  | some k => grow1 us k
theorem nx_len (us : List Int) (o : Option Nat) : (nx us o).length = us.length := by cases o <;> simp [nx, grow1]

theorem grow1_nonneg {us : List Int} (h : NonNeg us) (k : Nat) : NonNeg (grow1 us k) := by
  intro j hj
  rw [grow1_len] at hj
  unfold grow1
  by_cases e : k = j
  · subst e
    rw [List.getD_eq_getElem?_getD, List.getElem?_set_self hj]
    have := h k hj
    rw [List.getD_eq_getElem?_getD] at this ⊢
    simp; omega
  · rw [List.getD_eq_getElem?_getD, List.getElem?_set_ne e, ← List.getD_eq_getElem?_getD]
    exact h j hj

/-- A use within the gains. -/
def UseOk (gs : List (List Int)) (us : List Int) : Prop := us.length = gs.length ∧ ∀ j, j < us.length → 0 ≤ us.getD j 0 ∧ us.getD j 0 ≤ ((gs.getD j []).length : Int)
theorem UseOk.nn {gs : List (List Int)} {us : List Int} (h : UseOk gs us) : NonNeg us := fun j hj => (h.2 j hj).1

theorem pick_bd {fs : List Int} {gs : List (List Int)} {us : List Int} (hok : GOk gs) (hu : UseOk gs us) : ∀ k, k ≤ gs.length → 0 ≤ (pick fs gs us k).2 ∧ (pick fs gs us k).2 ≤ 1000 := by
  intro k
  induction k with
  | zero => intro _; simp [pick]
  | succ k ih =>
    intro hk
    have h1 := ih (by omega)
    unfold pick
    split
    · exact h1
    · split
      · exact h1
      · split
        · have h2 := hu.2 k (by rw [hu.1]; omega)
          have h3 := (gain_at (hok.2 k (by omega))).2 (us.getD k 0).toNat (by omega)
          exact ⟨h3.1, h3.2.1⟩
        · exact h1

set_option maxHeartbeats 2000000 in
set_option maxRecDepth 100000 in
theorem piece55 {w : World} {fv gv uv : Value} {fs us : List Int} {gs : List (List Int)} (hf : Reads w fv fs) (hg : ReadsG w gv gs) (hu : Reads w uv us) (hfl : fs.length = gs.length) (hfo : FlowOk fs) (hok : GOk gs) (hn : UseOk gs us) :
    Calls Try.prog 55 #[.agg #[fv, gv], uv] w fun e w' => ∃ v, e = .returned (.tuple #[v, .int .i64 (pick fs gs us gs.length).2]) ∧ Reads w' v (nx us (pick fs gs us gs.length).1) ∧ Below w.heap.size w w' := by
  have hpb := Lib.hid (pick_bd (fs := fs) hok hn)
  have hf' := Lib.hid hf
  have hu' := Lib.hid hu
  obtain ⟨fo, fc, rfl, _, _⟩ := hf
  obtain ⟨go, gc, rfl, hgc, h1⟩ := hg
  obtain ⟨uo, uc, rfl, _, h2⟩ := hu
  have hnn := Lib.hid hn.nn
  obtain ⟨hlen, hn⟩ := hn
  have hfo' := Lib.hid hfo
  have h9 := hok.1
  have hok := hok.2
  obtain ⟨n, hn0⟩ : ∃ n, n = gs.length := ⟨_, rfl⟩
  have hfl2 := Lib.hid (hlen.trans hfl.symm)
  rw [hlen, ← hn0] at hu'
  rw [hfl, ← hn0] at hf'
  rw [hlen, ← hn0, hfl, ← hn0]
  rw [← hn0] at h9 hgc hpb
  have h1' := Lib.hid h1
  have h2' := Lib.hid h2
  have hok' := Lib.hid hok
  have hn' := Lib.hid hn
  have hgn := Lib.hid hn0
  have hun := Lib.hid hlen
  clear h1 h2 hok hn hn0 hlen hfo hfl
  go_enter Try.func55, Try.ntmps55
  go_wp2_with fail
  obtain ⟨w0, hw0⟩ : ∃ w0, w0 = w.alloc (Obj.cells #[Value.slice fo n fc, Value.slice go n gc] 57) := ⟨_, rfl⟩
  have hb0 : Below w.heap.size w w0 := by rw [hw0]; exact (Below.refl _ _).alloc (Nat.le_refl _) _
  have cb0 : w0.cell? ⟨w.heap.size, 0, none⟩ = some (.slice fo n fc) := by rw [hw0, World.cell?_alloc_at (hn := rfl)]; rfl
  have cb : w0.cell? ⟨w.heap.size, 1, none⟩ = some (.slice go n gc) := by rw [hw0, World.cell?_alloc_at (hn := rfl)]; rfl
  have hlt0 : w.heap.size < w0.heap.size := by rw [hw0]; simp
  rw [← hw0]
  have hw0' := Lib.hid hw0
  clear hw0
  go_loopw [6, 7, 15] (fun b m i wr => ∃ (k : Nat), k ≤ n ∧ i = .int .i64 k ∧ m = .int .i64 (pick fs gs us k).2 ∧ Reads wr b (nx us (pick fs gs us k).1) ∧ Below w0.heap.size w0 wr) (fun _ _ i _ => n - (intOf i).toNat)
  case atStart => exact ⟨0, Nat.zero_le _, rfl, rfl, (hu'.out.below hb0), Below.refl _ _⟩
  case round =>
    obtain ⟨k, hk, rfl, rfl, hbest, hb⟩ := hrel
    obtain ⟨ba, bc, rfl, hbl, _⟩ := id hbest
    by_cases hlt : k < n
    · have e1 := hgn.out
      have e2 := hun.out
      obtain ⟨g, o, rfl, hg, hc1⟩ := h1'.out (fun e => by rw [e] at e1; simp at e1; omega)
      obtain ⟨g2, o2, rfl, hg2, hc2⟩ := h2'.out (fun e => by rw [e] at e2; simp at e2; omega)
      obtain ⟨y, c1, hy⟩ := hc1 k (by omega)
      have c2 := hc2 k (by omega)
      have cc1 := (hb.cell (p := ⟨g, o + k, none⟩) (show g < w0.heap.size by omega)).trans ((hb0.cell (p := ⟨g, o + k, none⟩) hg).trans c1)
      have cc2 := (hb.cell (p := ⟨g2, o2 + k, none⟩) (show g2 < w0.heap.size by omega)).trans ((hb0.cell (p := ⟨g2, o2 + k, none⟩) hg2).trans c2)
      have cbb := (hb.cell (p := ⟨w.heap.size, 1, none⟩) hlt0).trans cb
      have cbb0 := (hb.cell (p := ⟨w.heap.size, 0, none⟩) hlt0).trans cb0
      have b1 := Lib.hid (hok'.out k (by omega))
      have b2 := hn'.out k (by omega)
      have b3 := hpb.out k hk
      clear hc1 hc2 e1 e2 c1 c2
      obtain ⟨pk, hpk0⟩ : ∃ pk, pk = pick fs gs us (k + 1) := ⟨_, rfl⟩
      have hpk1 := Lib.hid hpk0
      have hpk := Lib.hid hpk0
      clear hpk0
      obtain ⟨p, hp⟩ : ∃ p : Nat, (p : Int) = us.getD k 0 := ⟨(us.getD k 0).toNat, by omega⟩
      rw [← hp] at cc2 b2
      have hp' := Lib.hid hp
      have hy2 := Lib.hid ((hy.below hb0).below hb)
      obtain ⟨ro, rc, rfl, hrc, hro⟩ := hy
      have hro' := Lib.hid hro
      clear hro
      obtain ⟨l, hl⟩ : ∃ l, l = gs.getD k [] := ⟨_, rfl⟩
      rw [← hl] at cc1 hrc hy2 b1 hro' b2
      rw [pick, ← hl, ← hp, Int.toNat_natCast] at hpk
      have hl' := Lib.hid hl
      clear hl hp
      obtain ⟨m, hm⟩ : ∃ m, m = l.length := ⟨_, rfl⟩
      rw [← hm] at cc1 hrc hy2 b2 hpk
      have hm' := Lib.hid hm
      have hm20 : m ≤ 20 := by have := (gain_at b1.out).1; omega
      clear hm
      obtain ⟨r, hr⟩ : ∃ r, r = pick fs gs us k := ⟨_, rfl⟩
      rw [← hr] at hbest hpk b3 hbl ⊢
      have hr' := Lib.hid hr
      clear hr
      obtain ⟨ri, rm⟩ := r
      obtain ⟨b3, b4⟩ := b3
      obtain ⟨_, b2⟩ := b2
      have hbest' := Lib.hid hbest
      clear hbest
      by_cases hpm : p = m
      · have hst := Lib.hid (show pick fs gs us (k + 1) = (ri, rm) by rw [← hpk1.out, hpk.out, if_pos (by omega)])
        have ht : ((p : Int) == (m : Int)) = true := by simp [hpm]
        have hpm' := Lib.hid hpm
        clear hpm hpk
        go_wp2
        go_roundw
        case rel => exact ⟨k + 1, by omega, by go_num, by rw [hst.out], by rw [hst.out]; exact hbest'.out, hb⟩
        case measure => simp [intOf]; omega
      · have ht : ((p : Int) == (m : Int)) = false := by simp; omega
        have hplt : p < m := by omega
        have e3 := hm'.out
        obtain ⟨g3, o3, rfl, hg3, hc3⟩ := hro'.out (fun e => by rw [e] at e3; simp at e3; omega)
        have c3 := (hb.cell (p := ⟨g3, o3 + p, none⟩) (show g3 < w0.heap.size by omega)).trans ((hb0.cell (p := ⟨g3, o3 + p, none⟩) hg3).trans (hc3 p (by omega)))
        have bb2 := (gain_at b1.out).2 p (by omega)
        obtain ⟨x, hx⟩ : ∃ x, x = l.getD p 0 := ⟨_, rfl⟩
        rw [← hx] at c3 bb2 hpk
        have hx' := Lib.hid hx
        obtain ⟨q1, q2, _⟩ := bb2
        have hpk2 := Lib.hid (hpk.out.trans (if_neg (by omega)))
        clear hc3 e3 hx hpm hpk
        by_cases hxr : x < rm
        · have hst := Lib.hid (show pick fs gs us (k + 1) = (ri, rm) by rw [← hpk1.out, hpk2.out, if_pos hxr])
          go_wp2
          go_roundw
          case rel => exact ⟨k + 1, by omega, by go_num, by rw [hst.out], by rw [hst.out]; exact hbest'.out, hb⟩
          case measure => simp [intOf]; omega
        · have hpk3 := Lib.hid (hpk2.out.trans (if_neg hxr))
          clear hpk2
          have hur := Lib.hid ((hu'.out.below hb0).below hb)
          go_wp2_with fail
          refine (grown48 hur.out k (by rw [hun.out, ← hgn.out]; exact hlt) (by rw [hun.out, ← hgn.out]; omega) (by rw [← hp'.out]; omega) (by rw [← hp'.out]; omega)).mono ?_
          rintro e w1 ⟨v, rfl, hv, hb1⟩
          obtain ⟨va, vc, rfl, hvl, _⟩ := id hv
          have hvl2 := Lib.hid (show (grow1 us k).length = n by rw [grow1_len, hun.out, ← hgn.out])
          rw [hvl2.out] at hv hvl ⊢
          have cc3 : w1.cell? ⟨w.heap.size, 0, none⟩ = some (.slice fo n fc) := (hb1.cell (p := ⟨w.heap.size, 0, none⟩) (by have := hb.size; show w.heap.size < wr.heap.size; omega)).trans cbb0
          have hv' := Lib.hid hv
          clear hv
          go_wp2_with fail
          refine (possible40 (((hf'.out.below hb0).below hb).below hb1) hv'.out (by rw [hvl2.out]; have := hun.out; have := hfl2.out; have := hgn.out; omega) hfo'.out (grow1_nonneg hnn.out k)).mono ?_
          rintro e w2 ⟨rfl, rfl⟩
          by_cases hpo : poss 0 fs (grow1 us k) = true
          · have hst := Lib.hid (show pick fs gs us (k + 1) = (some k, x) by rw [← hpk1.out, hpk3.out, if_pos hpo])
            rw [hpo]
            have hsz := hb.size
            have cc1' := (hb1.cell (p := ⟨g, o + k, none⟩) (show g < wr.heap.size by omega)).trans cc1
            have cc2' := (hb1.cell (p := ⟨g2, o2 + k, none⟩) (show g2 < wr.heap.size by omega)).trans cc2
            have c3' := (hb1.cell (p := ⟨g3, o3 + p, none⟩) (show g3 < wr.heap.size by omega)).trans c3
            clear cc1 cc2 c3
            go_wp2
            go_quiet (fail)
            go_wp2
            go_roundw
            case rel => exact ⟨k + 1, by omega, by go_num, by rw [hst.out], by rw [hst.out]; exact hv'.out.below (below_drewN (Below.refl _ _) _), below_drewN (below_call hb hb1) _⟩
            case measure => simp [intOf]; omega
          · have hpo1 : poss 0 fs (grow1 us k) = false := by simpa using hpo
            have hst := Lib.hid (show pick fs gs us (k + 1) = (ri, rm) by rw [← hpk1.out, hpk3.out, if_neg hpo])
            rw [hpo1]
            go_wp2
            go_roundw
            case rel => exact ⟨k + 1, by omega, by go_num, by rw [hst.out], by rw [hst.out]; exact hbest'.out.below hb1, below_call hb hb1⟩
            case measure => simp [intOf]; omega
    · have hkn : n = k := by omega
      subst hkn
      go_wp2
      go_ret2
      exact ⟨_, rfl, hbest, below_call hb0 hb⟩
end Go.Proofs.Ytccmabckmpelcaa
