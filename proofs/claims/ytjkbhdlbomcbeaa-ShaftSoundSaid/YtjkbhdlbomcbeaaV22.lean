import Derived.Test.YtjkbhdlbomcbeaaV14
import Derived.Test.YtjkbhdlbomcbeaaV10
import Derived.Test.YtjkbhdlbomcbeaaV9
import Derived.Deep.RegionHeld3
import Derived.Deep.Cut
import Derived.Deep.CutRange
import Derived.Test.YtjkbhdlbomcbeaaV13
namespace Go.Proofs.Ytjkbhdlbomcbeaa
open Go.RowKit Go.Shelf Shf

/-- The greatest end of the first `n` jobs. -/
def endM (js : List J) (xs : List Int) : Nat → Int
  | 0 => 0
  | n + 1 => max (endM js xs n) (xs.getD n 0 + (js.getD n J0).l)
end Go.Proofs.Ytjkbhdlbomcbeaa

namespace Go.Proofs.Ytjkbhdlbomcbeaa
open Go.RowKit Go.Shelf Shf

/-- The greatest of a list. -/
def MaxIs (xs : List Int) (m : Int) : Prop := (∀ i, i < xs.length → xs.getD i 0 ≤ m) ∧ ∃ i, i < xs.length ∧ xs.getD i 0 = m
def MaxEnd (w : World) (xs : List Int) (e : Ending) (w' : World) : Prop := ∃ m, e = .returned (.int .i64 m) ∧ MaxIs xs m ∧ w = w'
end Go.Proofs.Ytjkbhdlbomcbeaa

namespace Go.Proofs.Ytjkbhdlbomcbeaa
open Go.RowKit Go.Shelf Shf

/-- What Fits answers. -/
def FitsAns (P : Int) (js : List J) (os : List (Int × Int)) (xs : List Int) (d : Bool) (err : Int) : Prop :=
  (validB P js os = false ∧ d = false ∧ err = 1) ∨ (validB P js os = true ∧ ((xs.length ≠ js.length ∧ d = false ∧ err = 2) ∨ (xs.length = js.length ∧ (d = true ↔ Sched (shOf P js os) (fun i => xs.getD i 0)) ∧ err = 0)))
def Fits16 (w : World) (P : Int) (js : List J) (os : List (Int × Int)) (xs : List Int) (e : Ending) (w' : World) : Prop := ∃ d err, e = .returned (.tuple #[.bool d, .int .i64 err]) ∧ Below w.heap.size w w' ∧ FitsAns P js os xs d err
end Go.Proofs.Ytjkbhdlbomcbeaa

namespace Go.Proofs.Ytjkbhdlbomcbeaa
open Go.RowKit Go.Shelf Shf

def FitsB (w : World) (s : Sh) (S : Nat → Int) (e : Ending) (w' : World) : Prop := ∃ d, e = .returned (.bool d) ∧ (d = true ↔ Sched s S) ∧ Below w.heap.size w w'
set_option maxHeartbeats 4000000 in
set_option maxRecDepth 100000 in
theorem refFits19 {w : World} {v u : Value} {s : Sh} {xs : List Int} (hs : Loose s) (h : ShV w v s.P s.js (osI s)) (hx : Reads w u xs) (hl : xs.length = s.n) : Calls Try.prog 19 #[v, u] w (FitsB w s fun i => xs.getD i 0) := by
  obtain ⟨jv, ov, rfl, rj, ro⟩ := h
  obtain ⟨ja, jc, rfl, hjc, hjat⟩ := rj.at
  obtain ⟨oa, oc, rfl, hoc, hoat⟩ := ro.at
  obtain ⟨m, hm⟩ : ∃ m, m = (osI s).length := ⟨_, rfl⟩
  rw [← hm] at ro hoc hoat ⊢
  have hm' := Lib.hid (show m = s.os.length by rw [hm]; simp [osI])
  obtain ⟨xa, xc, rfl, hxc⟩ := hx.len
  rw [show s.js.length = s.n from rfl] at hjat hjc rj ⊢
  rw [hl] at hx hxc ⊢
  obtain ⟨n, hn⟩ : ∃ n, n = s.n := ⟨_, rfl⟩
  rw [← hn] at hjat hjc rj hx hxc hl ⊢
  have hxat := Lib.hid (fun (i : Nat) (hi : i < n) => hx.at hl hi)
  have hn' := Lib.hid hn
  have hl' := Lib.hid hl
  have hjat' := Lib.hid hjat
  have hoat' := Lib.hid hoat
  have hs' := Lib.hid hs
  have hb0 := Lib.hid (below_alloc1 w (.cells #[.int .i64 s.P, .slice ja n jc, .slice oa m oc] 25))
  have ht0 := Lib.hid (Three.new w (.int .i64 s.P) (.slice ja n jc) (.slice oa m oc) 25)
  have hz0 := Lib.hid (show w.heap.size < (w.alloc (.cells #[.int .i64 s.P, .slice ja n jc, .slice oa m oc] 25)).heap.size by simp)
  have hsh := Lib.hid (fun (W : World) (hb : Below w.heap.size w W) => (show ShV W (.agg #[.int .i64 s.P, .slice ja n jc, .slice oa m oc]) s.P s.js (osI s) from ⟨_, _, rfl, rj.below hb, ro.below hb⟩))
  have hxr := Lib.hid (fun (W : World) (hb : Below w.heap.size w W) => hx.below hb)
  have hn6 : 1 ≤ n ∧ n ≤ 6 := by rw [hn]; exact hs.num
  have hm20 : m ≤ 20 := by have := hs.few; rw [hm'.out]; exact this
  clear hm hn hjat hoat hs rj ro hx hl
  go_enter Try.func19, Try.ntmps19
  go_wp2_with fail
  obtain ⟨W1, hW1⟩ : ∃ W1, W1 = w.alloc (.cells #[.int .i64 s.P, .slice ja n jc, .slice oa m oc] 25) := ⟨_, rfl⟩
  rw [← hW1] at hb0 ht0 hz0 ⊢
  clear hW1
  go_loopw [5] (fun iv wr => ∃ i : Nat, i ≤ n ∧ iv = .int .i64 i ∧ Hid (∀ j, j < i → (s.job j).f ≤ xs.getD j 0 ∧ xs.getD j 0 ≤ lat (s.job j)) ∧ Hid (Below W1.heap.size W1 wr)) (fun iv _ => n - (intOf iv).toNat)
  case atStart => exact ⟨0, Nat.zero_le _, rfl, Lib.hid (fun j hj => by omega), Lib.hid (Below.refl _ _)⟩
  case round =>
    obtain ⟨i, hi, rfl, hrg, hB⟩ := hrel
    obtain ⟨wo, rfl⟩ : ∃ wo : World, wo = wr := ⟨_, rfl⟩
    have hBw := Lib.hid (below_call hb0.out hB.out)
    obtain ⟨⟨y0, y1, y2⟩, -⟩ := ht0.out.keep hB.out hz0.out
    by_cases hin : i < n
    · obtain ⟨g, rfl, hg, k0, k1, k2, k3⟩ := hjat'.out i hin
      have d0 := (hBw.out.cell (p := ⟨g, i * 4, none⟩) hg).trans k0
      have d1 := (hBw.out.cell (p := ⟨g, i * 4 + 1, none⟩) hg).trans k1
      have d2 := (hBw.out.cell (p := ⟨g, i * 4 + 2, none⟩) hg).trans k2
      have hjb := hs'.out.jobs i (by rw [← hn'.out]; exact hin)
      rw [show s.job i = s.js.getD i J0 from rfl] at hjb
      obtain ⟨⟨f, t, l, p⟩, hjq⟩ : ∃ j, j = s.js.getD i J0 := ⟨_, rfl⟩
      rw [← hjq] at d0 d1 d2 hjb
      simp only at d0 d1 d2 hjb
      have hjq' := Lib.hid (show s.job i = ⟨f, t, l, p⟩ from hjq.symm)
      obtain ⟨gx, ox, rfl, hgx, hcx⟩ := hxat.out i hin
      have c0 := (hBw.out.cell (p := ⟨gx, ox + i, none⟩) hgx).trans (hcx i hin)
      obtain ⟨x, hxq⟩ : ∃ x, x = xs.getD i 0 := ⟨_, rfl⟩
      rw [← hxq] at c0
      have hxq' := Lib.hid hxq
      have hin' : (i : Int) < (n : Int) := by omega
      have sw : IntKind.i64.wrap (t - l) = t - l := IntWalk.i64_in _ (by omega)
      obtain ⟨d, hd⟩ : ∃ d, inB x f (t - l) = d := ⟨_, rfl⟩
      have hin41 := Lib.hid (fun (W : World) => (in41' (w := W) x f (t - l) hd).mono (R' := fun e w' => e = .returned (.bool d) ∧ w' = W) (fun e w' h => ⟨h.1, h.2.symm⟩))
      have hd' := Lib.hid hd
      clear k0 k1 k2 k3 hjq hxq hcx hd hg hgx
      cases d with
      | false =>
        have hno := Lib.hid (show (false = true ↔ Sched s fun i => xs.getD i 0) from ⟨fun h => (by cases h), fun h => by
          have h1 := h.range i (by rw [← hn'.out]; exact hin)
          rw [hjq'.out, ← hxq'.out] at h1
          have h2 := hd'.out
          unfold inB at h2
          unfold lat at h1
          simp at h1 h2
          omega⟩)
        go_wp2_with fail
        go_quiet ((go_at_call 41; exact Calls.quiet_of_same (hin41.out _)))
        go_wp2_with fail
        go_ret
        exact ⟨_, rfl, hno.out, below_drewN hBw.out _⟩
      | true =>
        have hrg2 := Lib.hid (show ∀ j, j < i + 1 → (s.job j).f ≤ xs.getD j 0 ∧ xs.getD j 0 ≤ lat (s.job j) from fun j hj => by
          by_cases e : j = i
          · rw [e, hjq'.out, ← hxq'.out]
            have h2 := hd'.out
            unfold inB at h2
            simp at h2
            unfold lat
            simp only
            omega
          · exact hrg.out j (by omega))
        go_wp2_with fail
        go_quiet ((go_at_call 41; exact Calls.quiet_of_same (hin41.out _)))
        go_wp2_with fail
        exact ⟨⟨i + 1, by omega, by go_num, hrg2, Lib.hid (below_drewN hB.out _)⟩, by simp [intOf]; omega⟩
    · obtain rfl : i = n := by omega
      have hall := Lib.hid (show ∀ j, j < i → (s.job j).f ≤ xs.getD j 0 ∧ xs.getD j 0 ≤ lat (s.job j) from hrg.out)
      have hxin := Lib.hid (show ∀ j, j < i → 0 ≤ xs.getD j 0 ∧ xs.getD j 0 ≤ 24 from fun j hj => by
        have h1 := hall.out j hj
        have h2 := hs'.out.jobs j (by rw [← hn'.out]; exact hj)
        unfold lat at h1
        omega)
      have hld := Lib.hid (refLoad34 (w := wo) (s := s) (os := osI s) (xs := xs) hs'.out (hsh.out wo hBw.out) (hxr.out wo hBw.out) (by rw [hl'.out, hn'.out]) (fun j hj => hxin.out j (by rw [hn'.out]; exact hj)))
      have hP20 := hs'.out.power
      go_wp2_with (
        go_at_call 34; refine (hld.out).mono ?_; rintro e w2 ⟨lv, rfl, hI, hb2⟩
        have hB2 := Lib.hid (below_call hB.out hb2)
        obtain ⟨la, lc, hle, -⟩ := hI.shape.len
        obtain rfl : lv = .slice la 24 lc := hle.trans (by rw [show (loadL s fun i => xs.getD i 0).length = 24 from tab_len _ _])
        have hlr := Lib.hid hI.shape
        clear hI hb2 hle)
      have hlat := Lib.hid (fun (k : Nat) (hk : k < 24) => hlr.out.at (tab_len 24 _) hk)
      go_loopw [7] (fun iv wr => ∃ q : Nat, q ≤ 24 ∧ iv = .int .i64 q ∧ Hid (∀ t : Nat, t < q → loadAt s (fun i => xs.getD i 0) (t : Int) ≤ s.P) ∧ Hid (Below w2.heap.size w2 wr)) (fun iv _ => 24 - (intOf iv).toNat)
      case atStart => exact ⟨0, Nat.zero_le _, rfl, Lib.hid (fun t ht => by omega), Lib.hid (Below.refl _ _)⟩
      case round =>
        clear hrg y0 y1 y2
        obtain ⟨q, hq, rfl, hld2, hBq⟩ := hrel
        obtain ⟨wq, rfl⟩ : ∃ wq : World, wq = wr := ⟨_, rfl⟩
        have hBa := Lib.hid (below_call hB2.out hBq.out)
        have hBwa := Lib.hid (below_call hb0.out hBa.out)
        obtain ⟨⟨y0, y1, y2⟩, -⟩ := ht0.out.keep hBa.out hz0.out
        by_cases hq24 : q < 24
        · obtain ⟨gl, ol, rfl, hgl, hcl⟩ := hlat.out q hq24
          have c0 := (hBq.out.cell (p := ⟨gl, ol + q, none⟩) hgl).trans (hcl q hq24)
          rw [show (loadL s fun i => xs.getD i 0).getD q 0 = loadAt s (fun i => xs.getD i 0) (q : Int) from tab_get _ hq24] at c0
          obtain ⟨x, hxq⟩ : ∃ x, x = loadAt s (fun i => xs.getD i 0) (q : Int) := ⟨_, rfl⟩
          rw [← hxq] at c0
          have hxq' := Lib.hid hxq
          have hqI : (q : Int) < 24 := by omega
          obtain ⟨M, hM⟩ : ∃ M, M = s.P := ⟨_, rfl⟩
          rw [← hM] at y0
          have hM' := Lib.hid hM
          clear hxq hM hcl hgl hP20
          by_cases c1 : M < x
          · have hno := Lib.hid (show (false = true ↔ Sched s fun i => xs.getD i 0) from ⟨fun h => (by cases h), fun h => by
              have h1 := h.load q (by omega) (by omega)
              rw [← hxq'.out, ← hM'.out] at h1
              omega⟩)
            go_wp2_with fail
            go_quiet (fail)
            go_wp2_with fail
            go_ret
            exact ⟨_, rfl, hno.out, below_drewN hBwa.out _⟩
          · have hn2 := Lib.hid (show ∀ t : Nat, t < q + 1 → loadAt s (fun i => xs.getD i 0) (t : Int) ≤ s.P from fun t ht => by
              by_cases e : t = q
              · rw [e, ← hxq'.out, ← hM'.out]; omega
              · exact hld2.out t (by omega))
            have hqI2 : (q : Int) < 24 := by omega
            go_wp2_with fail
            go_quiet (fail)
            go_wp2_with fail
            exact ⟨⟨q + 1, by omega, by go_num, hn2, Lib.hid (below_drewN hBq.out _)⟩, by simp [intOf]; omega⟩
        · obtain rfl : q = 24 := by omega
          rw [show ((24 : Nat) : Int) = 24 from rfl]
          go_wp2_with fail
          have hBa' := Lib.hid hBa.out
          go_loopw [8] (fun iv wr => ∃ q : Nat, q ≤ m ∧ iv = .int .i64 q ∧ Hid (∀ o ∈ s.os.take q, xs.getD o.1 0 + (s.job o.1).l ≤ xs.getD o.2 0) ∧ Hid (Below W1.heap.size W1 wr)) (fun iv _ => m - (intOf iv).toNat)
          case atStart => exact ⟨0, Nat.zero_le _, rfl, Lib.hid (fun o ho => by simp at ho), hBa'⟩
          case round =>
            clear y0 y1 y2 hBa hBwa hBq hBa' hB2 hB hBw hld
            obtain ⟨r, hr, rfl, hor, hB⟩ := hrel
            obtain ⟨wt, rfl⟩ : ∃ wt : World, wt = wr := ⟨_, rfl⟩
            have hBw := Lib.hid (below_call hb0.out hB.out)
            obtain ⟨⟨y0, y1, y2⟩, -⟩ := ht0.out.keep hB.out hz0.out
            by_cases hrm : r < m
            · obtain ⟨go, rfl, hgo, o0, o1⟩ := hoat'.out r hrm
              have e0 := (hBw.out.cell (p := ⟨go, r * 2, none⟩) hgo).trans o0
              have e1 := (hBw.out.cell (p := ⟨go, r * 2 + 1, none⟩) hgo).trans o1
              rw [osI_get] at e0 e1
              have hql : r < s.os.length := by rw [← hm'.out]; exact hrm
              have hmem : s.os.getD r (0, 0) ∈ s.os := by rw [List.getD_eq_getElem?_getD, List.getElem?_eq_getElem hql]; exact List.getElem_mem hql
              have hord := hs'.out.orders _ hmem
              have htk := Lib.hid (show s.os.take (r + 1) = s.os.take r ++ [s.os.getD r (0, 0)] by rw [List.take_succ_eq_append_getElem hql, List.getD_eq_getElem?_getD, List.getElem?_eq_getElem hql]; rfl)
              have hmem' := Lib.hid hmem
              obtain ⟨⟨a, c⟩, hac⟩ : ∃ o, o = s.os.getD r (0, 0) := ⟨_, rfl⟩
              rw [← hac] at e0 e1 hord htk hmem'
              simp only at e0 e1 hord
              have hai : a < i := by rw [hn'.out]; exact hord.1
              have hci : c < i := by rw [hn'.out]; exact hord.2.1
              obtain ⟨gj, rfl, hgj, a0, a1, a2, a3⟩ := hjat'.out a hai
              obtain ⟨gx, ox, rfl, hgx, hcx⟩ := hxat.out a hai
              have hwo := Lib.hid (below_alloc1 wt (.cells #[.int .i64 a, .int .i64 c] 78))
              have hBO := Lib.hid (below_call hB.out hwo.out)
              have hBwO := Lib.hid (below_call hBw.out hwo.out)
              have u0 := (hBwO.out.cell (p := ⟨gx, ox + a, none⟩) hgx).trans (hcx a hai)
              have u1 := (hBwO.out.cell (p := ⟨gx, ox + c, none⟩) hgx).trans (hcx c hci)
              have u2 := (hBwO.out.cell (p := ⟨gj, a * 4 + 2, none⟩) hgj).trans a2
              obtain ⟨⟨v0, v1, v2⟩, -⟩ := ht0.out.keep hBO.out hz0.out
              have hja := hs'.out.jobs a (by rw [← hn'.out]; exact hai)
              rw [show s.job a = s.js.getD a J0 from rfl] at hja
              have hxa := hxin.out a hai
              have hxc2 := hxin.out c hci
              obtain ⟨x, hxq⟩ : ∃ x, x = xs.getD a 0 := ⟨_, rfl⟩
              obtain ⟨z, hzq⟩ : ∃ x, x = xs.getD c 0 := ⟨_, rfl⟩
              obtain ⟨l, hlq⟩ : ∃ x, x = (s.js.getD a J0).l := ⟨_, rfl⟩
              rw [← hxq] at u0 hxa
              rw [← hzq] at u1 hxc2
              rw [← hlq] at u2 hja
              have hq1 := Lib.hid (show x = xs.getD a 0 ∧ z = xs.getD c 0 ∧ l = (s.job a).l from ⟨hxq, hzq, hlq⟩)
              have haI : (a : Int) < (i : Int) := by omega
              have hcI : (c : Int) < (i : Int) := by omega
              have hrI : (r : Int) < (m : Int) := by omega
              have hl24 : 1 ≤ l ∧ l ≤ 24 := by omega
              have s1 : IntKind.i64.wrap (x + l) = x + l := IntWalk.i64_in _ (by omega)
              clear o0 o1 hmem hac a0 a1 a2 a3 hcx hxq hzq hlq hja hgo hgj hgx hord hql
              obtain ⟨d2, hd2⟩ : ∃ d, decide (z < x + l) = d := ⟨_, rfl⟩
              have hd2' := Lib.hid hd2
              clear hd2
              cases d2 with
              | true =>
                have hc := of_decide_eq_true hd2'.out
                have hno := Lib.hid (show (false = true ↔ Sched s fun i => xs.getD i 0) from ⟨fun h => (by cases h), fun h => by
                  have h1 := h.order _ hmem'.out
                  simp only at h1
                  rw [← hq1.out.1, ← hq1.out.2.1, ← hq1.out.2.2] at h1
                  omega⟩)
                go_wp2_with fail
                go_quiet (fail)
                go_wp2_with fail
                go_ret
                exact ⟨_, rfl, hno.out, below_drewN hBwO.out _⟩
              | false =>
                have hc := of_decide_eq_false hd2'.out
                have hor2 := Lib.hid (show ∀ o ∈ s.os.take (r + 1), xs.getD o.1 0 + (s.job o.1).l ≤ xs.getD o.2 0 from fun o ho => by
                  rw [htk.out] at ho
                  rcases List.mem_append.1 ho with h | h
                  · exact hor.out o h
                  · rw [List.mem_singleton] at h
                    rw [h]
                    show xs.getD a 0 + (s.job a).l ≤ xs.getD c 0
                    rw [← hq1.out.1, ← hq1.out.2.1, ← hq1.out.2.2]
                    omega)
                go_wp2_with fail
                go_quiet (fail)
                go_wp2_with fail
                exact ⟨⟨r + 1, by omega, by go_num, hor2, Lib.hid (below_drewN hBO.out _)⟩, by simp [intOf]; omega⟩
            · obtain rfl : r = m := by omega
              have hyes := Lib.hid (show Sched s (fun i => xs.getD i 0) from ⟨fun j hj => hall.out j (by rw [hn'.out]; exact hj), fun t h1 h2 => by
                have := hld2.out t.toNat (by omega)
                rw [show ((t.toNat : Nat) : Int) = t by omega] at this
                exact this, fun o ho => hor.out o (by rw [List.take_of_length_le (by rw [← hm'.out]; exact Nat.le_refl _)]; exact ho)⟩)
              go_wp2_with fail
              go_ret
              exact ⟨_, rfl, ⟨fun _ => hyes.out, fun _ => rfl⟩, hBw.out⟩
end Go.Proofs.Ytjkbhdlbomcbeaa

namespace Go.Proofs.Ytjkbhdlbomcbeaa
open Go.RowKit Go.Shelf Shf

theorem refFitsOk {w : World} {v u : Value} {s : Sh} {xs : List Int} (hs : Loose s) (h : ShV w v s.P s.js (osI s)) (hx : Reads w u xs) (hl : xs.length = s.n) {d0 : Bool} (hd : d0 = true ↔ Sched s fun i => xs.getD i 0) : Calls Try.prog 19 #[v, u] w fun e w' => e = .returned (.bool d0) ∧ Below w.heap.size w w' := by
  refine (refFits19 hs h hx hl).mono ?_
  rintro e w' ⟨d, rfl, h1, hb⟩
  obtain rfl : d = d0 := Bool.eq_iff_iff.2 (h1.trans hd.symm)
  exact ⟨rfl, hb⟩
end Go.Proofs.Ytjkbhdlbomcbeaa
