import Derived.Test.YtccmabckmpelcaaGc
import Derived.Test.YtccmabckmpelcaaGb
import Derived.OpenShut
namespace Go.Proofs.Ytccmabckmpelcaa
open Go.RowKit

/-- Rows in different blocks. -/
def Dis (u v : Value) : Prop := ∀ k, u.ownBlock = some k → v.ownBlock ≠ some k
theorem Dis.symm {u v : Value} (h : Dis u v) : Dis v u := fun k hv hu => h k hu hv
/-- What an append to `v` leaves of another row. -/
theorem keepD {w w' : World} {B : Nat} {v v' u : Value} {zs : List Int} {y : Int} (hu : Ints w B u zs) (hd : Dis u v) (hgr : (w.alloc (.cells #[.int .i64 y] 3)).grownBy w' v.ownBlock) (hob : v'.ownBlock = v.ownBlock ∨ v'.ownBlock = some (w.heap.size + 1)) :
    Ints w' B u zs ∧ Dis u v' := by
  refine ⟨World.ownsRow.kept (hu.alloc _) hgr ?_, fun k hk e => ?_⟩
  · cases h : u.ownBlock with
    | none => exact .inl rfl
    | some k => exact .inr (fun e => hd k h e.symm)
  · rcases hob with h | h
    · exact hd k hk (by rw [← h]; exact e)
    · rw [h] at e
      have := hu.ownBlock_lt k hk
      simp at e; omega

theorem grp_snoc {n : Int} {k : Nat} (hk : (k : Int) < n) : ∀ (l : List Int) (m : Int), m ≤ k → grpFrom n m l = true → (∀ x, x ∈ l → x < k) → grpFrom n m (l ++ [(k : Int)]) = true := by
  intro l
  induction l with
  | nil => intro m hm _ _; simp [grpFrom, hm, hk]
  | cons p r ih =>
    intro m hm h hx
    rw [List.cons_append]
    unfold grpFrom at h ⊢
    simp only [Bool.and_eq_true, decide_eq_true_eq] at h ⊢
    have := hx p (by simp)
    exact ⟨h.1, ih (p + 1) (by omega) h.2 (fun x hxr => hx x (by simp [hxr]))⟩
theorem inG_snoc (l : List Int) (k j : Nat) : inG (l ++ [(k : Int)]) j = (inG l j || decide (j = k)) := by
  unfold inG
  have e : ((j : Nat) : Int) = (k : Int) ↔ j = k := by omega
  rw [Bool.eq_iff_iff]
  simp [e]
/-- A list of places of a river, below `k`. -/
def Places (n k : Nat) (l : List Int) : Prop := grpFrom n 0 l = true ∧ (∀ x, x ∈ l → x < (k : Int)) ∧ l.length ≤ k
theorem Places.up {n k : Nat} {l : List Int} (h : Places n k l) : Places n (k + 1) l := ⟨h.1, fun x hx => by have := h.2.1 x hx; omega, by have := h.2.2; omega⟩
theorem Places.snoc {n k : Nat} {l : List Int} (h : Places n k l) (hk : k < n) : Places n (k + 1) (l ++ [(k : Int)]) := by
  refine ⟨grp_snoc (by omega) l 0 (by omega) h.1 h.2.1, fun x hx => ?_, by rw [List.length_append, List.length_singleton]; have := h.2.2; omega⟩
  rw [List.mem_append, List.mem_singleton] at hx
  rcases hx with hx | hx
  · have := h.2.1 x hx; omega
  · omega
theorem Places.nil (n : Nat) : Places n 0 [] := ⟨rfl, fun x hx => by simp at hx, Nat.le_refl _⟩
theorem Places.not {n k : Nat} {l : List Int} (h : Places n k l) : inG l k = false := by
  unfold inG
  rw [decide_eq_false_iff_not]
  intro hm
  have := h.2.1 _ hm
  omega

theorem Al_nn {fs : List Int} {gs : List (List Int)} (hok : GOk gs) {M : Nat → Bool} : ∀ k, k ≤ gs.length → 0 ≤ Al fs gs M k := by
  have hrow : ∀ a b, b ≤ gs.length → 0 ≤ row fs gs a b := fun a b hb => (bestW_bd (hok.part a b hb) _).1
  have hC : ∀ k, k ≤ gs.length → 0 ≤ aC fs gs M k := by
    intro k
    induction k with
    | zero => intro _; exact Int.le_refl _
    | succ k ih =>
      intro hk
      rw [aC]
      have h1 := ih (by omega)
      have h2 := hrow (aSt M k) k (by omega)
      split <;> omega
  intro k hk
  have h1 := hC k hk
  have h2 := hrow (aSt M k) k hk
  show 0 ≤ aC fs gs M k + row fs gs (aSt M k) k
  omega

set_option maxHeartbeats 4000000 in
set_option maxRecDepth 100000 in
theorem walk13 {w : World} {a b : Value} {xs : List Int} {xss : List (List Int)} {one two : Int} (hf : InRow w a xs) (hg : InRows w b xss) (h1 : (Lit.int .u8 one).wf = true) (h2 : (Lit.int .u8 two).wf = true) :
    Calls Try.prog 13 #[.agg #[a, b], .int .u8 one, .int .u8 two] w fun e w' => e = .returned (.bool true) ∧ Below w.heap.size w w' := by
  obtain ⟨a0, a1⟩ := bounds_u8 h1
  obtain ⟨b0, b1⟩ := bounds_u8 h2
  obtain ⟨A, rfl⟩ : ∃ A : Nat, one = (A : Int) := ⟨one.toNat, by omega⟩
  obtain ⟨C, rfl⟩ : ∃ A : Nat, two = (A : Int) := ⟨two.toNat, by omega⟩
  obtain ⟨ao, ac, rfl, _⟩ := hf.2.2
  have hg' := Lib.hid hg
  obtain ⟨bo, bc, rfl, _⟩ := hg
  have hf' := Lib.hid hf
  clear hf h1 h2
  go_enter Try.func13, Try.ntmps13
  go_wp2_with fail
  have hb0 := below_alloc1 w (.cells #[.slice ao xs.length ac, .slice bo xss.length bc] 25)
  refine (made37' (hf'.out.below hb0) (hg'.out.below hb0) 8 (by omega) (by omega)).mono ?_
  rintro e w1 ⟨uo, uc, vo, vc, fs, gs, n, rfl, hn, hfn, hn1, h8, hr, hriv, hb1⟩
  have hb1 := below_call hb0 hb1
  obtain ⟨_, _, hfl, hfo, hok, _⟩ := rivB_facts hr
  have hriv' := Lib.hid hriv
  have hn' := Lib.hid hn
  have hfl' := Lib.hid hfl
  have hfn' := Lib.hid hfn
  have hok' := Lib.hid hok
  have hfo' := Lib.hid hfo
  clear hriv hn hfl hok hfo hfn hb0
  obtain ⟨B, hB⟩ : ∃ B, B = w1.heap.size := ⟨_, rfl⟩
  have i0 := ((Ints.lit w1 B (by omega)).alloc (.cells #[] 3)).alloc (.cells #[] 3)
  have i1 := (Ints.lit (w1.alloc (.cells #[] 3)) B (by simp; omega)).alloc (.cells #[] 3)
  have i2 := Ints.lit ((w1.alloc (.cells #[] 3)).alloc (.cells #[] 3)) B (by simp; omega)
  have hb3 : Below B w1 (((w1.alloc (.cells #[] 3)).alloc (.cells #[] 3)).alloc (.cells #[] 3)) := (((Below.refl _ _).alloc (by omega) _).alloc (by simp; omega) _).alloc (by simp; omega) _
  simp only [World.size_alloc] at i1 i2
  rw [← hB] at i0 i1 i2
  go_wp2_with fail
  rw [← hB]
  have hB' := Lib.hid hB
  clear hB
  go_loopw [9, 10, 11, 12] (fun av bv cv i wr => ∃ (k : Nat) (p q r : List Int), k ≤ n ∧ i = .int .i64 k ∧ Ints wr B av p ∧ Ints wr B bv q ∧ Ints wr B cv r ∧ Dis av bv ∧ Dis av cv ∧ Dis bv cv ∧ Hid (Places n k p) ∧ Hid (Places n k q) ∧ Hid (Places n k r) ∧ Hid (∀ j, inG r j = (inG p j || inG q j)) ∧ Hid (∀ j, inG p j = true → inG q j = false) ∧ Below B w1 wr) (fun _ _ _ i _ => n - (intOf i).toNat)
  case atStart => exact ⟨0, [], [], [], Nat.zero_le _, rfl, i0, i1, i2, fun k h e => by simp [Value.ownBlock] at h e; omega, fun k h e => by simp [Value.ownBlock] at h e; omega, fun k h e => by simp [Value.ownBlock] at h e; omega, Lib.hid (Places.nil n), Lib.hid (Places.nil n), Lib.hid (Places.nil n), Lib.hid (fun j => rfl), Lib.hid (fun j h => by simp [inG] at h), hb3⟩
  case round =>
    obtain ⟨k, p, q, r, hk, rfl, hp, hq, hr3, d1, d2, d3, P1, P2, P3, hor, hdis, hb⟩ := hrel
    by_cases hlt : k < n
    · obtain ⟨z1, hz1⟩ : ∃ z, bits BinOp.and IntKind.u8 ((A : Int) / 2 ^ k) 1 = z := ⟨_, rfl⟩
      obtain ⟨z2, hz2⟩ : ∃ z, bits BinOp.and IntKind.u8 ((C : Int) / 2 ^ k) 1 = z := ⟨_, rfl⟩
      have hp' := Lib.hid hp
      have hq' := Lib.hid hq
      have hr' := Lib.hid hr3
      have d1' := Lib.hid d1
      have d2' := Lib.hid d2
      have d3' := Lib.hid d3
      have hsz := hb.size
      have hBw : B ≤ wr.heap.size := by have := hB'.out; omega
      have lp := P1.out.2.2
      have lq := P2.out.2.2
      have lr := P3.out.2.2
      clear hp hq hr3 d1 d2 d3
      by_cases hb1' : z1 = 1
      · have ht : (z1 == 1) = true := by simp [hb1']
        clear hb1'
        go_wp2_with (first | (at_builtin; refine app_int2 (y := (k : Int)) hp'.out (by omega) hBw rfl _ _ rfl rfl rfl rfl ?_; intro v5 w5 hown5 hb5 hgr5 hob5; obtain ⟨kq, dq⟩ := keepD hq'.out d1'.out.symm hgr5 hob5; obtain ⟨kr, dr⟩ := keepD hr'.out d2'.out.symm hgr5 hob5; have hs5 := hb5.size; have own5 := Lib.hid hown5; have kr' := Lib.hid kr; have kq' := Lib.hid kq; have dr' := Lib.hid dr; have dq' := Lib.hid dq; clear hown5 kr kq dr dq hgr5 hob5) | (at_builtin; refine app_int2 (y := (k : Int)) kr'.out (by omega) (by omega) rfl _ _ rfl rfl rfl rfl ?_; intro v6 w6 hown6 hb6 hgr6 hob6; obtain ⟨kp, dp⟩ := keepD own5.out dr'.out.symm hgr6 hob6; obtain ⟨kq2, dq2⟩ := keepD kq'.out d3'.out hgr6 hob6; have own6 := Lib.hid hown6; have kp' := Lib.hid kp; have kq2' := Lib.hid kq2; have dp' := Lib.hid dp; have dq2' := Lib.hid dq2; clear hown6 kp kq2 dp dq2 hgr6 hob6))
        go_roundw
        case rel => exact ⟨k + 1, _, _, _, by omega, by go_num, kp'.out, kq2'.out, own6.out, dq'.out.symm, dp'.out, dq2'.out, Lib.hid (P1.out.snoc hlt), Lib.hid P2.out.up, Lib.hid (P3.out.snoc hlt), Lib.hid (fun j => by rw [inG_snoc, inG_snoc, hor.out]; cases inG p j <;> cases inG q j <;> simp), Lib.hid (fun j hj => by
            rw [inG_snoc] at hj
            by_cases e : j = k
            · rw [e]; exact P2.out.not
            · exact hdis.out j (by simpa [e] using hj)), hb.trans (hb5.trans hb6)⟩
        case measure => simp [intOf]; omega
      · have ht : (z1 == 1) = false := by simp [hb1']
        clear hb1'
        by_cases hb2' : z2 = 1
        · have ht2 : (z2 == 1) = true := by simp [hb2']
          clear hb2'
          go_wp2_with (first | (at_builtin; refine app_int2 (y := (k : Int)) hq'.out (by omega) hBw rfl _ _ rfl rfl rfl rfl ?_; intro v5 w5 hown5 hb5 hgr5 hob5; obtain ⟨kp, dp⟩ := keepD hp'.out d1'.out hgr5 hob5; obtain ⟨kr, dr⟩ := keepD hr'.out d3'.out.symm hgr5 hob5; have hs5 := hb5.size; have own5 := Lib.hid hown5; have kr' := Lib.hid kr; have kp' := Lib.hid kp; have dr' := Lib.hid dr; have dp' := Lib.hid dp; clear hown5 kr kp dr dp hgr5 hob5) | (at_builtin; refine app_int2 (y := (k : Int)) kr'.out (by omega) (by omega) rfl _ _ rfl rfl rfl rfl ?_; intro v6 w6 hown6 hb6 hgr6 hob6; obtain ⟨kq, dq⟩ := keepD own5.out dr'.out.symm hgr6 hob6; obtain ⟨kp2, dp2⟩ := keepD kp'.out d2'.out hgr6 hob6; have own6 := Lib.hid hown6; have kq' := Lib.hid kq; have kp2' := Lib.hid kp2; have dq' := Lib.hid dq; have dp2' := Lib.hid dp2; clear hown6 kq kp2 dq dp2 hgr6 hob6))
          go_roundw
          case rel => exact ⟨k + 1, _, _, _, by omega, by go_num, kp2'.out, kq'.out, own6.out, dp'.out, dp2'.out, dq'.out, Lib.hid P1.out.up, Lib.hid (P2.out.snoc hlt), Lib.hid (P3.out.snoc hlt), Lib.hid (fun j => by rw [inG_snoc, inG_snoc, hor.out]; cases inG p j <;> cases inG q j <;> simp), Lib.hid (fun j hj => by
              rw [inG_snoc]
              have h1 := hdis.out j hj
              have h2 : j ≠ k := fun e => by have := P1.out.not; rw [← e, hj] at this; simp at this
              simp [h1, h2]), hb.trans (hb5.trans hb6)⟩
          case measure => simp [intOf]; omega
        · have ht2 : (z2 == 1) = false := by simp [hb2']
          clear hb2'
          go_wp2_with fail
          go_roundw
          case rel => exact ⟨k + 1, p, q, r, by omega, by go_num, hp'.out, hq'.out, hr'.out, d1'.out, d2'.out, d3'.out, Lib.hid P1.out.up, Lib.hid P2.out.up, Lib.hid P3.out.up, hor, hdis, hb⟩
          case measure => simp [intOf]; omega
    · have hkn : k = n := by omega
      subst hkn
      have hbw := Lib.hid (below_call hb1 (by rw [← hB'.out]; exact hb))
      have hrv := Lib.hid (hriv'.out.below (by rw [← hB'.out]; exact hb))
      have gp := Lib.hid (show grpFrom fs.length 0 p = true by rw [hfn'.out]; exact P1.out.1)
      have gq := Lib.hid (show grpFrom fs.length 0 q = true by rw [hfn'.out]; exact P2.out.1)
      have gr := Lib.hid (show grpFrom fs.length 0 r = true by rw [hfn'.out]; exact P3.out.1)
      have lp := Lib.hid (show p.length ≤ fs.length by rw [hfn'.out]; exact P1.out.2.2)
      have lq := Lib.hid (show q.length ≤ fs.length by rw [hfn'.out]; exact P2.out.2.2)
      have lr := Lib.hid (show r.length ≤ fs.length by rw [hfn'.out]; exact P3.out.2.2)
      have hp' := Lib.hid hp.shape
      have hq' := Lib.hid hq.shape
      have hr' := Lib.hid hr3.shape
      have t1 := Al_together hok'.out hfl'.out hfo'.out hor.out hdis.out fs.length (by rw [hfl'.out]; exact Nat.le_refl _)
      have t2 := asp_sub hok'.out hfl'.out hfo'.out hor.out hdis.out
      have t3 := Al_asp hok'.out hfl'.out hfo'.out (inG r)
      rw [← hfl'.out] at t3
      have n1 := Al_nn (fs := fs) hok'.out (M := inG p) fs.length (by rw [hfl'.out]; exact Nat.le_refl _)
      have n2 := Al_nn (fs := fs) hok'.out (M := inG q) fs.length (by rw [hfl'.out]; exact Nat.le_refl _)
      have m1 := bestW_bd (maskG_ok hok'.out (inG p)) fs
      have m2 := bestW_bd (maskG_ok hok'.out (inG q)) fs
      have m3 := bestW_bd (maskG_ok hok'.out (inG r)) fs
      change 0 ≤ asp fs gs (inG p) ∧ asp fs gs (inG p) ≤ 180000 at m1
      change 0 ≤ asp fs gs (inG q) ∧ asp fs gs (inG q) ≤ 180000 at m2
      change 0 ≤ asp fs gs (inG r) ∧ asp fs gs (inG r) ≤ 180000 at m3
      obtain ⟨X1, hX1⟩ : ∃ X, X = Al fs gs (inG p) fs.length := ⟨_, rfl⟩
      obtain ⟨X2, hX2⟩ : ∃ X, X = Al fs gs (inG q) fs.length := ⟨_, rfl⟩
      obtain ⟨X3, hX3⟩ : ∃ X, X = Al fs gs (inG r) fs.length := ⟨_, rfl⟩
      obtain ⟨Y1, hY1⟩ : ∃ X, X = asp fs gs (inG p) := ⟨_, rfl⟩
      obtain ⟨Y2, hY2⟩ : ∃ X, X = asp fs gs (inG q) := ⟨_, rfl⟩
      obtain ⟨Y3, hY3⟩ : ∃ X, X = asp fs gs (inG r) := ⟨_, rfl⟩
      rw [← hX1, ← hX2, ← hX3] at t1
      rw [← hY1, ← hY2, ← hY3] at t2
      rw [← hX3, ← hY3] at t3
      rw [← hX1] at n1
      rw [← hX2] at n2
      rw [← hY1] at m1
      rw [← hY2] at m2
      rw [← hY3] at m3
      obtain ⟨m1, m1'⟩ := m1
      obtain ⟨m2, m2'⟩ := m2
      obtain ⟨m3, m3'⟩ := m3
      have x1 : X1 ≤ 180000 := by omega
      have x2 : X2 ≤ 180000 := by omega
      have hX1' := Lib.hid hX1
      have hX2' := Lib.hid hX2
      have hX3' := Lib.hid hX3
      have hY1' := Lib.hid hY1
      have hY2' := Lib.hid hY2
      have hY3' := Lib.hid hY3
      clear hX1 hX2 hX3 hY1 hY2 hY3 hp hq hr3 d1 d2 d3 hb
      go_wp2_with fail
      refine (alone25 hrv.out hr hp'.out gp.out).mono ?_
      rw [← hX1'.out]
      rintro e w5 ⟨rfl, c5⟩
      go_wp2_with fail
      refine (alone25 (hrv.out.below c5) hr (hq'.out.below c5) gq.out).mono ?_
      rw [← hX2'.out]
      rintro e w6 ⟨rfl, c6⟩
      have c56 := below_call c5 c6
      go_wp2_with fail
      refine (alone25 (hrv.out.below c56) hr (hr'.out.below c56) gr.out).mono ?_
      rw [← hX3'.out]
      rintro e w7 ⟨rfl, c7⟩
      have c57 := below_call c56 c7
      go_wp2_with fail
      refine (aspires26 (hrv.out.below c57) hr (hp'.out.below c57) gp.out lp.out (gErr_ok hr gp.out)).mono ?_
      rw [← hY1'.out]
      rintro e w8 ⟨rfl, c8⟩
      have c58 := below_call c57 c8
      go_wp2_with fail
      refine (aspires26 (hrv.out.below c58) hr (hq'.out.below c58) gq.out lq.out (gErr_ok hr gq.out)).mono ?_
      rw [← hY2'.out]
      rintro e w9 ⟨rfl, c9⟩
      have c59 := below_call c58 c9
      go_wp2_with fail
      refine (aspires26 (hrv.out.below c59) hr (hr'.out.below c59) gr.out lr.out (gErr_ok hr gr.out)).mono ?_
      rw [← hY3'.out]
      rintro e w10 ⟨rfl, c10⟩
      have c510 := below_call c59 c10
      go_wp2_with fail
      refine (lives20 w10).mono ?_
      rintro e w11 ⟨rfl, c11⟩
      go_wp2_with fail
      go_ret
      exact ⟨rfl, below_call (below_call hbw.out c510) c11⟩
end Go.Proofs.Ytccmabckmpelcaa
