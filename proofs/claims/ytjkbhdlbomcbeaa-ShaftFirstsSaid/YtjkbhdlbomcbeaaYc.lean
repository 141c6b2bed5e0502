import Derived.Test.YtjkbhdlbomcbeaaYb
namespace Go.Proofs.Ytjkbhdlbomcbeaa
open Go.RowKit Go.Shelf Shf

/-- What Fits answers. -/
def FitsAns (P : Int) (js : List J) (os : List (Int × Int)) (xs : List Int) (d : Bool) (err : Int) : Prop :=
  (validB P js os = false ∧ d = false ∧ err = 1) ∨ (validB P js os = true ∧ ((xs.length ≠ js.length ∧ d = false ∧ err = 2) ∨ (xs.length = js.length ∧ (d = true ↔ Sched (shOf P js os) (fun i => xs.getD i 0)) ∧ err = 0)))
def Fits16 (w : World) (P : Int) (js : List J) (os : List (Int × Int)) (xs : List Int) (e : Ending) (w' : World) : Prop := ∃ d err, e = .returned (.tuple #[.bool d, .int .i64 err]) ∧ Below w.heap.size w w' ∧ FitsAns P js os xs d err
theorem fits_load {s : Sh} {S : Nat → Int} {m : Int} (h : MaxIs (loadL s S) m) : m ≤ s.P ↔ ∀ t, 0 ≤ t → t < 24 → loadAt s S t ≤ s.P := by
  obtain ⟨h1, i, hi, h2⟩ := h
  unfold loadL at h1 hi h2
  rw [tab_len] at h1 hi
  rw [tab_get _ hi] at h2
  constructor
  · intro hm t t1 t2
    obtain ⟨k, rfl⟩ : ∃ k : Nat, t = (k : Int) := ⟨t.toNat, by omega⟩
    have := h1 k (by omega)
    rw [tab_get _ (by omega)] at this
    omega
  · intro h
    have := h i (by omega) (by omega)
    omega
set_option maxHeartbeats 4000000 in
set_option maxRecDepth 100000 in
theorem fits16 {w : World} {v u : Value} {P : Int} {js : List J} {os : List (Int × Int)} {xs : List Int} (h : ShV w v P js os) (h7 : js.length ≤ 7) (h21 : os.length ≤ 21) (hx : Reads w u xs) (hl : xs.length ≤ 1000000) : Calls Try.prog 16 #[v, u] w (Fits16 w P js os xs) := by
  obtain ⟨jv, ov, rfl, rj, ro⟩ := h
  obtain ⟨ja, jc, rfl, hjc, hjat⟩ := rj.at
  obtain ⟨oa, oc, rfl, hoc, hoat⟩ := ro.at
  obtain ⟨n, hn⟩ : ∃ n, n = js.length := ⟨_, rfl⟩
  obtain ⟨m, hm⟩ : ∃ m, m = os.length := ⟨_, rfl⟩
  rw [← hn] at rj hjc hjat ⊢
  rw [← hm] at ro hoc hoat ⊢
  have hn' := Lib.hid hn
  have hm' := Lib.hid hm
  obtain ⟨xa, xc, rfl, hxc⟩ := hx.len
  obtain ⟨k, hk⟩ : ∃ k, k = xs.length := ⟨_, rfl⟩
  rw [← hk] at hx hxc ⊢
  have hxat := Lib.hid (fun (i : Nat) (hi : i < k) => hx.at hk.symm hi)
  have hk' := Lib.hid hk
  have hjat' := Lib.hid hjat
  have hoat' := Lib.hid hoat
  have hb0 := Lib.hid (below_alloc1 w (.cells #[.int .i64 P, .slice ja n jc, .slice oa m oc] 25))
  have hsh := Lib.hid (fun (W : World) (hb : Below w.heap.size w W) => (show ShV W (.agg #[.int .i64 P, .slice ja n jc, .slice oa m oc]) P js os from ⟨_, _, rfl, rj.below hb, ro.below hb⟩))
  have hxr := Lib.hid (fun (W : World) (hb : Below w.heap.size w W) => hx.below hb)
  have hnw := fun (d : Bool) (hd : validB P js os = d) => new37' (rj.below hb0.out) (ro.below hb0.out) h7 h21 hd
  cases hv : validB P js os with
  | false =>
    have hnn := Lib.hid (hnw false hv)
    have hans := Lib.hid (show FitsAns P js os xs false 1 from .inl ⟨hv, rfl, rfl⟩)
    clear hnw hv rj ro h7 h21 hl hx hk hn hm hjat hoat
    go_enter Try.func16, Try.ntmps16
    go_wp2_with (go_at_call 37; refine (hnn.out).mono ?_; rintro e w1 ⟨rfl, hb1⟩; have hb1' := Lib.hid (below_call hb0.out hb1); clear hb1)
    go_ret2
    exact ⟨_, 1, rfl, below_call hb1'.out (below_alloc1 _ _), hans.out⟩
  | true =>
    have hnn := Lib.hid (hnw true hv)
    obtain ⟨hV, hos⟩ := valid_sh hv
    have hV' := Lib.hid hV
    have hv' := Lib.hid hv
    have hos' := Lib.hid hos
    have hl' := Lib.hid (show xs.length ≤ 1000000 from hl)
    by_cases hkn : k = n
    · have hkn2 := hkn
      rw [hkn2] at hk hk' hx hxr hxat hxc ⊢
      clear hkn2
      have hnum := hV.loose.num
      have hn6 : 1 ≤ n ∧ n ≤ 6 := by rw [hn]; exact hnum
      have hm20 : m ≤ 20 := by have := hV.loose.few; rw [hm]; simpa [shOf] using this
      clear hnw hv rj ro h7 h21 hl hx hk hn hm hjat hoat hV hos hkn hnum
      go_enter Try.func16, Try.ntmps16
      go_wp2_with (
        first
        | (go_at_call 37; refine (hnn.out).mono ?_; rintro e w1 ⟨rfl, hb1⟩
           have hT1 := Lib.hid (Three.new w1 (.int .i64 P) (.slice ja n jc) (.slice oa m oc) 81)
           have hs1 := Lib.hid (show w1.heap.size < (w1.alloc (.cells #[.int .i64 P, .slice ja n jc, .slice oa m oc] 81)).heap.size by simp)
           have hb1' := Lib.hid (below_call (below_call hb0.out hb1) (below_alloc1 _ (.cells #[.int .i64 P, .slice ja n jc, .slice oa m oc] 81)))
           clear hb1))
      obtain ⟨W1, hW1⟩ : ∃ W1, W1 = w1.alloc (.cells #[.int .i64 P, .slice ja n jc, .slice oa m oc] 81) := ⟨_, rfl⟩
      rw [← hW1] at hT1 hs1 hb1' ⊢
      clear hW1
      go_loopw [29] (fun iv wr => ∃ i : Nat, i ≤ n ∧ iv = .int .i64 i ∧ Hid (∀ j, j < i → (js.getD j J0).f ≤ xs.getD j 0 ∧ xs.getD j 0 ≤ lat (js.getD j J0)) ∧ Hid (Below W1.heap.size W1 wr)) (fun iv _ => n - (intOf iv).toNat)
      case atStart => exact ⟨0, Nat.zero_le _, rfl, Lib.hid (fun j hj => by omega), Lib.hid (Below.refl _ _)⟩
      case round =>
        obtain ⟨i, hi, rfl, hrg, hB⟩ := hrel
        obtain ⟨wo, rfl⟩ : ∃ wo : World, wo = wr := ⟨_, rfl⟩
        have hBw := Lib.hid (below_call hb1'.out hB.out)
        by_cases hin : i < n
        · obtain ⟨g, rfl, hg, k0, k1, k2, k3⟩ := hjat'.out i hin
          have d0 := (hBw.out.cell (p := ⟨g, i * 4, none⟩) hg).trans k0
          have d1 := (hBw.out.cell (p := ⟨g, i * 4 + 1, none⟩) hg).trans k1
          have d2 := (hBw.out.cell (p := ⟨g, i * 4 + 2, none⟩) hg).trans k2
          have d3 := (hBw.out.cell (p := ⟨g, i * 4 + 3, none⟩) hg).trans k3
          have hjb := hV'.out.loose.jobs i (show i < js.length by rw [← hn'.out]; exact hin)
          rw [show (shOf P js os).job i = js.getD i J0 from rfl] at hjb
          obtain ⟨⟨f, t, l, p⟩, hjq⟩ : ∃ j, j = js.getD i J0 := ⟨_, rfl⟩
          rw [← hjq] at d0 d1 d2 d3 hjb
          simp only at d0 d1 d2 d3 hjb
          have hjq' := Lib.hid hjq
          obtain ⟨gx, ox, rfl, hgx, hcx⟩ := hxat.out i hin
          have e0 := hcx i hin
          obtain ⟨x, hxq⟩ : ∃ x, x = xs.getD i 0 := ⟨_, rfl⟩
          rw [← hxq] at e0
          have hxq' := Lib.hid hxq
          have hwJ := Lib.hid (below_alloc1 wo (.cells #[.int .i64 f, .int .i64 t, .int .i64 l, .int .i64 p] 56))
          have c0 := (hwJ.out.cell (p := ⟨gx, ox + i, none⟩) (Nat.lt_of_lt_of_le hgx hBw.out.size)).trans ((hBw.out.cell (p := ⟨gx, ox + i, none⟩) hgx).trans e0)
          have hin' : (i : Int) < (n : Int) := by omega
          have hBJ := Lib.hid (below_call hB.out hwJ.out)
          have hBwJ := Lib.hid (below_call hBw.out hwJ.out)
          clear k0 k1 k2 k3 hjq hxq e0 hcx
          by_cases c1 : x < f
          · have hans := Lib.hid (show FitsAns P js os xs false 0 from .inr ⟨hv'.out, .inr ⟨by rw [← hk'.out, ← hn'.out], ⟨fun h => by (cases h), fun h => by
              have := (h.range i (show i < js.length by rw [← hn'.out]; exact hin)).1
              rw [show (shOf P js os).job i = js.getD i J0 from rfl, ← hjq'.out, ← hxq'.out] at this
              simp only at this
              omega⟩, rfl⟩⟩)
            go_wp2_with fail
            go_quiet (fail)
            go_wp2_with fail
            go_ret2
            exact ⟨_, 0, rfl, below_drewN hBwJ.out _, hans.out⟩
          · have c1' : decide (x < f) = false := by simpa using c1
            have e38 := Lib.hid (show ∀ W, Calls Try.prog 38 #[.agg #[.int .i64 f, .int .i64 t, .int .i64 l, .int .i64 p]] W fun e w' => e = .returned (.int .i64 (t - l)) ∧ Below W.heap.size W w' from fun W => latest38 ⟨f, t, l, p⟩ (by simp only; omega))
            have hlat := Lib.hid (show lat (js.getD i J0) = t - l by rw [← hjq'.out]; rfl)
            obtain ⟨d2, hd2⟩ : ∃ d, decide (t - l < x) = d := ⟨_, rfl⟩
            have hd2' := Lib.hid hd2
            go_upto_region 9 with fail
            obtain ⟨W2, hW2⟩ : ∃ W2, W2 = wo.alloc (.cells #[.int .i64 f, .int .i64 t, .int .i64 l, .int .i64 p] 56) := ⟨_, rfl⟩
            have q0 : W2.cell? ⟨wo.heap.size, 0, none⟩ = some (.int .i64 f) := by rw [hW2]; simp
            have q1 : W2.cell? ⟨wo.heap.size, 1, none⟩ = some (.int .i64 t) := by rw [hW2]; simp
            have q2 : W2.cell? ⟨wo.heap.size, 2, none⟩ = some (.int .i64 l) := by rw [hW2]; simp
            have q3 : W2.cell? ⟨wo.heap.size, 3, none⟩ = some (.int .i64 p) := by rw [hW2]; simp
            have hwo2 := Lib.hid (show wo.heap.size < W2.heap.size by rw [hW2]; simp)
            have hgx2 := Lib.hid (show gx < W2.heap.size from Nat.lt_of_lt_of_le hgx (Nat.le_trans hBw.out.size (Nat.le_of_lt hwo2.out)))
            rw [← hW2] at c0 hBJ hBwJ ⊢
            clear hW2 hd2 hgx d0 d1 d3
            go_cut [49] from 34 to 49 (fun bv wx => ∃ w4 : World, w4 = wx ∧ bv = .bool d2 ∧ Hid (Below W2.heap.size W2 w4))
            case first =>
              refine wp_region_noPanic ?_
              go_region_held3 (fun w' => w'.cell? ⟨gx, ox + i, none⟩ = some (.int .i64 x) ∧ w'.cell? ⟨wo.heap.size, 0, none⟩ = some (.int .i64 f) ∧ w'.cell? ⟨wo.heap.size, 1, none⟩ = some (.int .i64 t) ∧ w'.cell? ⟨wo.heap.size, 2, none⟩ = some (.int .i64 l) ∧ w'.cell? ⟨wo.heap.size, 3, none⟩ = some (.int .i64 p))
                (first
                  | exact ⟨c0, q0, q1, q2, q3⟩
                  | exact ⟨(hbW.cell (p := ⟨gx, ox + i, none⟩) hgx2.out).trans c0, (hbW.cell (p := ⟨wo.heap.size, 0, none⟩) hwo2.out).trans q0, (hbW.cell (p := ⟨wo.heap.size, 1, none⟩) hwo2.out).trans q1, (hbW.cell (p := ⟨wo.heap.size, 2, none⟩) hwo2.out).trans q2, (hbW.cell (p := ⟨wo.heap.size, 3, none⟩) hwo2.out).trans q3⟩)
                ((go_at_call 38; refine (e38.out _).mono ?_; rintro e wk ⟨rfl, hbk⟩; have hbW := (Below.refl W2.heap.size W2).drew.trans hbk))
              all_goals refine NoPanic.normal ?_
              all_goals go_wp2_with fail
              all_goals go_meet
              all_goals exact ⟨_, rfl, by rw [← hd2'.out], Lib.hid hbW⟩
            case rest =>
              obtain ⟨w4, rfl, rfl, hb4⟩ := hcut
              cases d2 with
              | true =>
                have hans := Lib.hid (show FitsAns P js os xs false 0 from .inr ⟨hv'.out, .inr ⟨by rw [← hk'.out, ← hn'.out], ⟨fun h => by (cases h), fun h => by
                  have := (h.range i (show i < js.length by rw [← hn'.out]; exact hin)).2
                  rw [show (shOf P js os).job i = js.getD i J0 from rfl, hlat.out, ← hxq'.out] at this
                  have h2 := of_decide_eq_true hd2'.out
                  omega⟩, rfl⟩⟩)
                go_wp2_with fail
                go_ret2
                exact ⟨_, 0, rfl, below_call hBwJ.out hb4.out, hans.out⟩
              | false =>
                have hrg2 := Lib.hid (show ∀ j, j < i + 1 → (js.getD j J0).f ≤ xs.getD j 0 ∧ xs.getD j 0 ≤ lat (js.getD j J0) from fun j hj => by
                  by_cases e : j = i
                  · rw [e, hlat.out, ← hxq'.out, ← hjq'.out]
                    have h2 := of_decide_eq_false hd2'.out
                    simp only
                    omega
                  · exact hrg.out j (by omega))
                have hBn := Lib.hid (below_call hBJ.out hb4.out)
                go_wp2_with fail
                go_roundw
                case rel => exact ⟨i + 1, by omega, by go_num, hrg2, hBn⟩
                case measure => simp [intOf]; omega
        · obtain rfl : i = n := by omega
          have hall := Lib.hid (show ∀ j, j < i → (js.getD j J0).f ≤ xs.getD j 0 ∧ xs.getD j 0 ≤ lat (js.getD j J0) from hrg.out)
          have hxin := Lib.hid (show ∀ j, j < i → 0 ≤ xs.getD j 0 ∧ xs.getD j 0 ≤ 24 from fun j hj => by
            have h1 := hall.out j hj
            have h2 := hV'.out.loose.jobs j (show j < js.length by rw [← hn'.out]; exact hj)
            rw [show (shOf P js os).job j = js.getD j J0 from rfl] at h2
            unfold lat at h1
            omega)
          obtain ⟨⟨y0, y1, y2⟩, -⟩ := hT1.out.keep hB.out hs1.out
          go_wp2_with fail
          go_loopw [54] (fun iv wr => ∃ q : Nat, q ≤ m ∧ iv = .int .i64 q ∧ Hid (∀ o ∈ (shOf P js os).os.take q, xs.getD o.1 0 + (js.getD o.1 J0).l ≤ xs.getD o.2 0) ∧ Hid (Below W1.heap.size W1 wr)) (fun iv _ => m - (intOf iv).toNat)
          case atStart => exact ⟨0, Nat.zero_le _, rfl, Lib.hid (fun o ho => by simp at ho), hB⟩
          case round =>
            clear hrg y0 y1 y2
            have hBo := Lib.hid hB.out
            clear hB hBo
            obtain ⟨q, hq, rfl, hor, hB⟩ := hrel
            obtain ⟨wq, rfl⟩ : ∃ wq : World, wq = wr := ⟨_, rfl⟩
            have hBw := Lib.hid (below_call hb1'.out hB.out)
            obtain ⟨⟨y0, y1, y2⟩, -⟩ := hT1.out.keep hB.out hs1.out
            by_cases hqm : q < m
            · obtain ⟨go, rfl, hgo, o0, o1⟩ := hoat'.out q hqm
              have e0 := (hBw.out.cell (p := ⟨go, q * 2, none⟩) hgo).trans o0
              have e1 := (hBw.out.cell (p := ⟨go, q * 2 + 1, none⟩) hgo).trans o1
              have hoq : os.getD q (0, 0) = ((((shOf P js os).os.getD q (0, 0)).1 : Int), (((shOf P js os).os.getD q (0, 0)).2 : Int)) := by rw [← osI_get, hos'.out]
              rw [hoq] at e0 e1
              have hql : q < (shOf P js os).os.length := by have := hm'.out; simp [shOf]; omega
              have hmem : (shOf P js os).os.getD q (0, 0) ∈ (shOf P js os).os := by rw [List.getD_eq_getElem?_getD, List.getElem?_eq_getElem hql]; exact List.getElem_mem hql
              have hord := hV'.out.loose.orders _ hmem
              have htk := Lib.hid (show (shOf P js os).os.take (q + 1) = (shOf P js os).os.take q ++ [(shOf P js os).os.getD q (0, 0)] by rw [List.take_succ_eq_append_getElem hql, List.getD_eq_getElem?_getD, List.getElem?_eq_getElem hql]; rfl)
              have hmem' := Lib.hid hmem
              obtain ⟨⟨a, c⟩, hac⟩ : ∃ o, o = (shOf P js os).os.getD q (0, 0) := ⟨_, rfl⟩
              rw [← hac] at e0 e1 hord htk hmem'
              simp only at e0 e1 hord
              have hai : a < i := by have := hord.1; rw [show (shOf P js os).n = js.length from rfl, ← hn'.out] at this; exact this
              have hci : c < i := by have := hord.2.1; rw [show (shOf P js os).n = js.length from rfl, ← hn'.out] at this; exact this
              obtain ⟨gj, rfl, hgj, a0, a1, a2, a3⟩ := hjat'.out a hai
              obtain ⟨gx, ox, rfl, hgx, hcx⟩ := hxat.out a hai
              have hwo := Lib.hid (below_alloc1 wq (.cells #[.int .i64 a, .int .i64 c] 78))
              have hBO := Lib.hid (below_call hB.out hwo.out)
              have hBwO := Lib.hid (below_call hBw.out hwo.out)
              have u0 := (hBwO.out.cell (p := ⟨gx, ox + a, none⟩) hgx).trans (hcx a hai)
              have u1 := (hBwO.out.cell (p := ⟨gx, ox + c, none⟩) hgx).trans (hcx c hci)
              have u2 := (hBwO.out.cell (p := ⟨gj, a * 4 + 2, none⟩) hgj).trans a2
              obtain ⟨⟨v0, v1, v2⟩, -⟩ := hT1.out.keep hBO.out hs1.out
              have hja := hV'.out.loose.jobs a (by have := hord.1; exact this)
              rw [show (shOf P js os).job a = js.getD a J0 from rfl] at hja
              have hxa := hxin.out a hai
              have hxc2 := hxin.out c hci
              obtain ⟨x, hxq⟩ : ∃ x, x = xs.getD a 0 := ⟨_, rfl⟩
              obtain ⟨z, hzq⟩ : ∃ x, x = xs.getD c 0 := ⟨_, rfl⟩
              obtain ⟨l, hlq⟩ : ∃ x, x = (js.getD a J0).l := ⟨_, rfl⟩
              rw [← hxq] at u0 hxa
              rw [← hzq] at u1 hxc2
              rw [← hlq] at u2 hja
              have hq1 := Lib.hid (show x = xs.getD a 0 ∧ z = xs.getD c 0 ∧ l = (js.getD a J0).l from ⟨hxq, hzq, hlq⟩)
              have haI : (a : Int) < (i : Int) := by omega
              have hcI : (c : Int) < (i : Int) := by omega
              have hqI : (q : Int) < (m : Int) := by omega
              have hl24 : 1 ≤ l ∧ l ≤ 24 := by omega
              have s1 : IntKind.i64.wrap (x + l) = x + l := IntWalk.i64_in _ (by omega)
              clear o0 o1 hoq hmem hac a0 a1 a2 a3 hcx hxq hzq hlq hja hgo hgj hgx hord hql
              obtain ⟨d2, hd2⟩ : ∃ d, decide (z < x + l) = d := ⟨_, rfl⟩
              have hd2' := Lib.hid hd2
              clear hd2
              cases d2 with
              | true =>
                have hc := of_decide_eq_true hd2'.out
                have hans := Lib.hid (show FitsAns P js os xs false 0 from .inr ⟨hv'.out, .inr ⟨by rw [← hk'.out, ← hn'.out], ⟨fun h => by (cases h), fun h => by
                  have := h.order _ hmem'.out
                  rw [show (shOf P js os).job a = js.getD a J0 from rfl, ← hq1.out.1, ← hq1.out.2.1, ← hq1.out.2.2] at this
                  omega⟩, rfl⟩⟩)
                go_wp2_with fail
                go_quiet (fail)
                go_wp2_with fail
                go_ret2
                exact ⟨_, 0, rfl, below_drewN hBwO.out _, hans.out⟩
              | false =>
                have hc := of_decide_eq_false hd2'.out
                have hor2 := Lib.hid (show ∀ o ∈ (shOf P js os).os.take (q + 1), xs.getD o.1 0 + (js.getD o.1 J0).l ≤ xs.getD o.2 0 from fun o ho => by
                  rw [htk.out] at ho
                  rcases List.mem_append.1 ho with h | h
                  · exact hor.out o h
                  · rw [List.mem_singleton] at h
                    rw [h]
                    show xs.getD a 0 + (js.getD a J0).l ≤ xs.getD c 0
                    rw [← hq1.out.1, ← hq1.out.2.1, ← hq1.out.2.2]
                    omega)
                go_wp2_with fail
                go_quiet (fail)
                go_wp2_with fail
                exact ⟨⟨q + 1, by omega, by go_num, hor2, Lib.hid (below_drewN hBO.out _)⟩, by simp [intOf]; omega⟩
            · obtain rfl : q = m := by omega
              have hP20 := hV'.out.loose.power
              rw [show (shOf P js os).P = P from rfl] at hP20
              have hb1w := Lib.hid (Nat.lt_of_lt_of_le hs1.out hB.out.size)
              have hordA := Lib.hid (show ∀ o ∈ (shOf P js os).os, xs.getD o.1 0 + (js.getD o.1 J0).l ≤ xs.getD o.2 0 from fun o ho => hor.out o (by
                rw [List.take_of_length_le (by have := hm'.out; simp [shOf]; omega)]; exact ho))
              have hld := Lib.hid (fun (W : World) (hb : Below w.heap.size w W) => load40 (w := W) (s := shOf P js os) (os := os) (xs := xs) hV'.out.loose (hsh.out W hb) (hxr.out W hb) (by show xs.length = js.length; rw [← hk'.out, ← hn'.out]) (fun j hj => hxin.out j (by have h3 : (shOf P js os).n = js.length := rfl; have := hn'.out; omega)))
              go_upto_region 18 with fail
              refine wp_region_noPanic ?_
              go_region_held3 (fun w' => w'.cell? ⟨w1.heap.size, 0, none⟩ = some (.int .i64 P) ∧ w'.cell? ⟨w1.heap.size, 1, none⟩ = some (.slice ja i jc) ∧ w'.cell? ⟨w1.heap.size, 2, none⟩ = some (.slice oa q oc))
                (first
                  | exact ⟨y0, y1, y2⟩
                  | exact ⟨s0, s1, s2⟩)
                (first
                  | (go_at_call 40; refine (hld.out _ hBw.out.drew).mono ?_; rintro e w5 ⟨lv, rfl, hI5, hb5⟩
                     have hBq := (Below.refl wq.heap.size wq).drew.trans hb5
                     obtain ⟨⟨s0, s1, s2⟩, -⟩ := (hT1.out.keep hB.out hs1.out).keep hBq hb1w.out
                     have hmx := Lib.hid (max39 hI5.shape (by rw [show (loadL (shOf P js os) fun i => xs.getD i 0).length = 24 from tab_len _ _]; omega) (by rw [show (loadL (shOf P js os) fun i => xs.getD i 0).length = 24 from tab_len _ _]; omega))
                     have hBq' := Lib.hid hBq)
                  | (go_at_call 39; refine (hmx.out).mono ?_; rintro e w6 ⟨mx, rfl, hM, rfl⟩
                     have hM' := Lib.hid hM))
              all_goals refine NoPanic.normal ?_
              all_goals go_wp2_with fail
              all_goals go_ret2
              all_goals refine ⟨_, 0, rfl, below_call hBw.out hBq'.out, .inr ⟨hv'.out, .inr ⟨by rw [← hk'.out, ← hn'.out], ?_, rfl⟩⟩⟩
              all_goals
                have hfl := fits_load (s := shOf P js os) hM'.out
                rw [show (shOf P js os).P = P from rfl] at hfl
                rw [decide_eq_true_iff, hfl]
                exact ⟨fun h => ⟨fun j hj => hall.out j (by have h3 : (shOf P js os).n = js.length := rfl; have := hn'.out; omega), h, fun o ho => hordA.out o ho⟩, fun h => h.load⟩
    · have hnt : ((k : Int) != (n : Int)) = true := by simp; omega
      have hans := Lib.hid (show FitsAns P js os xs false 2 from .inr ⟨hv'.out, .inl ⟨by rw [← hn, ← hk]; exact hkn, rfl, rfl⟩⟩)
      have hkn' := Lib.hid hkn
      clear hnw hv rj ro h7 h21 hV hos hl hx hk hn hm hkn hjat hoat
      go_enter Try.func16, Try.ntmps16
      go_wp2_with (
          first
          | (go_at_call 37; refine (hnn.out).mono ?_; rintro e w1 ⟨rfl, hb1⟩
             have hb1' := Lib.hid (below_call (below_call hb0.out hb1) (below_alloc1 _ (.cells #[.int .i64 P, .slice ja n jc, .slice oa m oc] 81)))
             clear hb1))
      go_ret2
      exact ⟨_, 2, rfl, hb1'.out, hans.out⟩
end Go.Proofs.Ytjkbhdlbomcbeaa
