import Derived.Test.YtccmabckmpelcaaF
namespace Go.Proofs.Ytccmabckmpelcaa
open Go.RowKit

theorem pick_some {fs : List Int} {gs : List (List Int)} {us : List Int} {j : Nat} : ∀ k, (pick fs gs us k).1 = some j → j < k ∧ us.getD j 0 ≠ ((gs.getD j []).length : Int) ∧ poss 0 fs (grow1 us j) = true ∧ (pick fs gs us k).2 = (gs.getD j []).getD (us.getD j 0).toNat 0 := by
  intro k
  induction k with
  | zero => intro h; simp [pick] at h
  | succ k ih =>
    intro h
    unfold pick at h ⊢
    split at h
    · rename_i e
      rw [if_pos e]
      obtain ⟨a, b⟩ := ih h
      exact ⟨by omega, b⟩
    · rename_i e
      rw [if_neg e]
      split at h
      · rename_i e2
        rw [if_pos e2]
        obtain ⟨a, b⟩ := ih h
        exact ⟨by omega, b⟩
      · rename_i e2
        rw [if_neg e2]
        split at h
        · rename_i e3
          rw [if_pos e3]
          simp only [Option.some.injEq] at h
          subst h
          exact ⟨by omega, e, e3, rfl⟩
        · rename_i e3
          rw [if_neg e3]
          obtain ⟨a, b⟩ := ih h
          exact ⟨by omega, b⟩

theorem grow1_at (us : List Int) (k j : Nat) (hk : k < us.length) : (grow1 us k).getD j 0 = if j = k then us.getD k 0 + 1 else us.getD j 0 := by
  unfold grow1
  by_cases e : k = j
  · subst e
    rw [List.getD_eq_getElem?_getD, List.getElem?_set_self hk, if_pos rfl]; rfl
  · rw [List.getD_eq_getElem?_getD, List.getElem?_set_ne e, if_neg (fun h => e h.symm), List.getD_eq_getElem?_getD]

theorem UseOk.nx {fs : List Int} {gs : List (List Int)} {us : List Int} (h : UseOk gs us) : UseOk gs (nx us (pick fs gs us gs.length).1) := by
  cases hp : (pick fs gs us gs.length).1 with
  | none => exact h
  | some k =>
    obtain ⟨a, b, _⟩ := pick_some _ hp
    have hk : k < us.length := by rw [h.1]; exact a
    refine ⟨by rw [nx_len]; exact h.1, fun j hj => ?_⟩
    rw [nx_len] at hj
    show 0 ≤ (grow1 us k).getD j 0 ∧ _
    show 0 ≤ (grow1 us k).getD j 0 ∧ (grow1 us k).getD j 0 ≤ _
    rw [grow1_at us k j hk]
    have h1 := h.2 j hj
    split
    · rename_i e; subst e; omega
    · exact h1

/-- The use grows, piece by piece. -/
def greedy (fs : List Int) (gs : List (List Int)) : Nat → List Int → List Int
  | 0, us => us
  | f + 1, us => if (pick fs gs us gs.length).2 = 0 then us else greedy fs gs f (nx us (pick fs gs us gs.length).1)
def bestU (fs : List Int) (gs : List (List Int)) : List Int := greedy fs gs fs.sum.toNat (List.replicate fs.length 0)
def bestW (fs : List Int) (gs : List (List Int)) : Int := worthL gs (bestU fs gs)

theorem greedy_ok {fs : List Int} {gs : List (List Int)} : ∀ f us, UseOk gs us → UseOk gs (greedy fs gs f us) := by
  intro f
  induction f with
  | zero => intro us h; exact h
  | succ f ih =>
    intro us h
    unfold greedy
    split
    · exact h
    · exact ih _ h.nx
theorem zeros_at (n j : Nat) : (List.replicate n (0 : Int)).getD j 0 = 0 := by
  by_cases h : j < n <;> simp [List.getD_eq_getElem?_getD, h]
theorem zeros_ok (gs : List (List Int)) (n : Nat) (h : n = gs.length) : UseOk gs (List.replicate n 0) := by
  refine ⟨by simpa using h, fun j hj => ?_⟩
  rw [zeros_at]; omega
theorem bestU_ok {fs : List Int} {gs : List (List Int)} (h : fs.length = gs.length) : UseOk gs (bestU fs gs) := greedy_ok _ _ (zeros_ok _ _ h)

theorem sum_drop (xs : List Int) (k : Nat) (h : k < xs.length) : (xs.drop k).sum = xs.getD k 0 + (xs.drop (k + 1)).sum := by
  rw [drop_cons xs k h]; simp

set_option maxHeartbeats 2000000 in
set_option maxRecDepth 100000 in
theorem best44 {w : World} {fv gv : Value} {fs : List Int} {gs : List (List Int)} (hf : Reads w fv fs) (hg : ReadsG w gv gs) (hfl : fs.length = gs.length) (hfo : FlowOk fs) (hok : GOk gs) :
    Calls Try.prog 44 #[.agg #[fv, gv]] w fun e w' => ∃ v, e = .returned (.tuple #[v, .int .i64 (bestW fs gs)]) ∧ Reads w' v (bestU fs gs) ∧ Below w.heap.size w w' := by
  have hf' := Lib.hid hf
  have hg' := Lib.hid hg
  obtain ⟨fo, fc, rfl, _, h1⟩ := hf
  obtain ⟨go, gc, rfl, hgc, _⟩ := hg
  obtain ⟨n, hn0⟩ : ∃ n, n = fs.length := ⟨_, rfl⟩
  have hgl : gs.length = n := by omega
  rw [← hn0] at hf' ⊢
  rw [hgl] at hg' hgc ⊢
  have h9 := hok.1
  rw [hgl] at h9
  have hfo' := Lib.hid hfo
  have hok' := Lib.hid hok
  have h1' := Lib.hid h1
  have hn' := Lib.hid hn0
  have hgl' := Lib.hid hgl
  have hfl' := Lib.hid hfl
  clear h1 hfo hok hn0 hgl hfl
  go_enter Try.func44, Try.ntmps44
  go_wp2_with fail
  obtain ⟨w0, hw0⟩ : ∃ w0, w0 = w.alloc (Obj.cells #[Value.slice fo n fc, Value.slice go n gc] 57) := ⟨_, rfl⟩
  have hb0 : Below w.heap.size w w0 := by rw [hw0]; exact (Below.refl _ _).alloc (Nat.le_refl _) _
  have hbx : w0.heap[w.heap.size]? = some (Obj.cells #[Value.slice fo n fc, Value.slice go n gc] 57) := by rw [hw0]; exact heap_alloc_new w _
  have cb0 : w0.cell? ⟨w.heap.size, 0, none⟩ = some (.slice fo n fc) := by rw [hw0, World.cell?_alloc_at (hn := rfl)]; rfl
  have cb : w0.cell? ⟨w.heap.size, 1, none⟩ = some (.slice go n gc) := by rw [hw0, World.cell?_alloc_at (hn := rfl)]; rfl
  have hlt0 : w.heap.size < w0.heap.size := by rw [hw0]; simp
  rw [← hw0]
  have hw0' := Lib.hid hw0
  clear hw0
  go_loop [4, 13] (fun s i => ∃ (k : Nat) (sum : Int), k ≤ n ∧ i = .int .i64 k ∧ s = .int .i64 sum ∧ 0 ≤ sum ∧ sum ≤ 31 * (k : Int) ∧ Hid (fs.sum = sum + (fs.drop k).sum)) (fun _ i => n - (intOf i).toNat)
  case atStart => exact ⟨0, 0, Nat.zero_le _, rfl, rfl, by omega, by omega, Lib.hid (by simp)⟩
  case round =>
    obtain ⟨k, sum, hk, rfl, rfl, hs0, hs1, hj⟩ := hrel
    by_cases hlt : k < n
    · have e1 := hn'.out
      obtain ⟨g, o, rfl, hg, hc1⟩ := h1'.out (fun e => by rw [e] at e1; simp at e1; omega)
      have c1 := (hb0.cell (p := ⟨g, o + k, none⟩) hg).trans (hc1 k (by omega))
      have hd := Lib.hid (sum_drop fs k (by omega))
      obtain ⟨b1, b2⟩ := hfo'.out.2 k (by omega)
      obtain ⟨x, hx⟩ : ∃ x, x = fs.getD k 0 := ⟨_, rfl⟩
      rw [← hx] at c1 b1 b2
      have hx' := Lib.hid hx
      clear hc1 e1 hx
      go_wp2
      go_round
      case rel => exact ⟨k + 1, sum + x, by omega, by go_num, rfl, by omega, by omega, Lib.hid (by rw [hj.out, hd.out, ← hx'.out]; omega)⟩
      case measure => simp [intOf]; omega
    · have hsum := Lib.hid (show fs.sum = sum by rw [hj.out, drop_end fs _ (by rw [← hn'.out]; omega)]; simp)
      clear hj
      go_wp2_with (first | (at_make; refine make_row n (by omega) (Nat.le_refl w0.heap.size) rfl _ _ rfl rfl rfl ?_; intro w1 hr1 hb1))
      have hr1' := Lib.hid hr1.reads
      clear hr1
      obtain ⟨T, hT⟩ : ∃ T : Nat, sum = (T : Int) := ⟨sum.toNat, by omega⟩
      subst hT
      have hb01 := hb0.trans (hb1.mono (by omega))
      go_loopw [7, 26] (fun u i wr => ∃ (k : Nat) (us : List Int), k ≤ T ∧ i = .int .i64 k ∧ Reads wr u us ∧ Hid (UseOk gs us) ∧ Hid (bestU fs gs = greedy fs gs (T - k) us) ∧ Below w0.heap.size w0 wr) (fun _ i _ => T - (intOf i).toNat)
      case atStart => exact ⟨0, List.replicate n 0, Nat.zero_le _, rfl, hr1'.out, Lib.hid (zeros_ok _ _ hgl'.out.symm), Lib.hid (by unfold bestU; rw [hsum.out, ← hn'.out]; simp), hb1⟩
      case round =>
        obtain ⟨k2, us, hk2, rfl, hus, huo, hgr, hb⟩ := hrel
        have hlu := Lib.hid (huo.out.1.trans hgl'.out)
        obtain ⟨ua, uc, rfl, hul, _⟩ := id hus
        rw [hlu.out] at hus hul ⊢
        have hus' := Lib.hid hus
        clear hus
        have hbxx : wr.heap[w.heap.size]? = some (Obj.cells #[Value.slice fo n fc, Value.slice go n gc] 57) := (hb.block _ hlt0).trans hbx
        have cbb := (hb.cell (p := ⟨w.heap.size, 1, none⟩) hlt0).trans cb
        have cbb0 := (hb.cell (p := ⟨w.heap.size, 0, none⟩) hlt0).trans cb0
        by_cases hlt2 : k2 < T
        · obtain ⟨r, hr⟩ : ∃ r, r = pick fs gs us gs.length := ⟨_, rfl⟩
          have hr' := Lib.hid hr
          clear hr
          obtain ⟨ri, rm⟩ := r
          go_wp2_with fail
          refine (piece55 ((hf'.out.below hb0).below hb) ((hg'.out.below hb0).below hb) hus'.out hfl'.out hfo'.out hok'.out huo.out).mono ?_
          rw [← hr'.out]
          rintro e w2 ⟨v, rfl, hv, hb2⟩
          obtain ⟨va, vc, rfl, hvl, _⟩ := id hv
          have hv' := Lib.hid hv
          clear hv
          have hgs := Lib.hid (show greedy fs gs (T - k2) us = if rm = 0 then us else greedy fs gs (T - (k2 + 1)) (nx us ri) by
            rw [show T - k2 = T - (k2 + 1) + 1 from by omega, greedy, ← hr'.out])
          have hbb := below_call hb hb2
          by_cases hz : rm = 0
          · have hz' := Lib.hid hz
            have ht : (rm == 0) = true := by simp [hz]
            have hbe := Lib.hid (show bestU fs gs = us by rw [hgr.out, hgs.out, if_pos hz])
            have hbw := Lib.hid (show bestW fs gs = worthL gs us by unfold bestW; rw [hbe.out])
            have hbxx2 : w2.heap[w.heap.size]? = some (Obj.cells #[Value.slice fo n fc, Value.slice go n gc] 57) := (hbb.block _ hlt0).trans hbx
            have cbb' := (hbb.cell (p := ⟨w.heap.size, 1, none⟩) hlt0).trans cb
            have cbb0' := (hbb.cell (p := ⟨w.heap.size, 0, none⟩) hlt0).trans cb0
            clear hz cbb cbb0
            go_wp2_with fail
            refine (worth41 ((hf'.out.below hb0).below hbb) ((hg'.out.below hb0).below hbb) (hus'.out.below hb2) (huo.out.1) hok'.out huo.out.nn).mono ?_
            rintro e w3 ⟨rfl, hb3⟩
            go_wp2_with fail
            go_ret2
            exact ⟨.slice ua n uc, by rw [hbw.out]; rfl, by rw [hbe.out]; exact (hus'.out.below hb2).below hb3, below_call (below_call hb0 hbb) hb3⟩
          · have hz' := Lib.hid hz
            have ht : (rm == 0) = false := by simp [hz]
            have hbe := Lib.hid (show bestU fs gs = greedy fs gs (T - (k2 + 1)) (nx us ri) by rw [hgr.out, hgs.out, if_neg hz])
            have hok2 := Lib.hid (show UseOk gs (nx us ri) from by have := huo.out.nx (fs := fs); rw [← hr'.out] at this; exact this)
            clear hz
            go_wp2
            go_roundw
            case rel => exact ⟨k2 + 1, nx us ri, by omega, by go_num, hv'.out, hok2, hbe, hbb⟩
            case measure => simp [intOf]; omega
        · have hbe := Lib.hid (show bestU fs gs = us by rw [hgr.out, show T - k2 = 0 from by omega]; rfl)
          have hbw := Lib.hid (show bestW fs gs = worthL gs us by unfold bestW; rw [hbe.out])
          go_wp2_with fail
          refine (worth41 ((hf'.out.below hb0).below hb) ((hg'.out.below hb0).below hb) hus'.out (huo.out.1) hok'.out huo.out.nn).mono ?_
          rintro e w3 ⟨rfl, hb3⟩
          go_wp2_with fail
          go_ret2
          exact ⟨.slice ua n uc, by rw [hbw.out]; rfl, by rw [hbe.out]; exact hus'.out.below hb3, below_call (below_call hb0 hb) hb3⟩
end Go.Proofs.Ytccmabckmpelcaa
