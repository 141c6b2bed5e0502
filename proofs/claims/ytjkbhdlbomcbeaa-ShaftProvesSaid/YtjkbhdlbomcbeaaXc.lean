import Derived.Test.YtjkbhdlbomcbeaaXb
import Derived.Deep.MidRow
namespace Go.Proofs.Ytjkbhdlbomcbeaa
open Go.RowKit Go.Shelf Shf

/-- An order that cannot be kept. -/
def lateO (s : Sh) (k : Nat) : Bool := decide (lat (s.job (s.os.getD k (0, 0)).2) < (s.job (s.os.getD k (0, 0)).1).f + (s.job (s.os.getD k (0, 0)).1).l)
theorem osI_get (s : Sh) (k : Nat) : (osI s).getD k (0, 0) = (((s.os.getD k (0, 0)).1 : Int), ((s.os.getD k (0, 0)).2 : Int)) := by
  unfold osI
  rw [List.getD_eq_getElem?_getD, List.getD_eq_getElem?_getD, List.getElem?_map]
  cases s.os[k]? <;> rfl
set_option maxHeartbeats 4000000 in
set_option maxRecDepth 100000 in
theorem late76 {w : World} {v : Value} {s : Sh} (hs : Loose s) (h : ShV w v s.P s.js (osI s)) {k : Nat} (hk : k < s.os.length) {d : Bool} (hd : lateO s k = d) :
    Calls Try.prog 76 #[.agg #[.int .i64 k], v] w fun e w' => e = .returned (.bool d) ∧ Below w.heap.size w w' := by
  obtain ⟨jv, ov, rfl, rj, ro⟩ := h
  obtain ⟨ja, jc, rfl, hjc, hjat⟩ := rj.at
  obtain ⟨oa, oc, rfl, hoc, hoat⟩ := ro.at
  have hol : (osI s).length = s.os.length := by simp [osI]
  obtain ⟨go, rfl, hgo, o0, o1⟩ := hoat k (by rw [hol]; exact hk)
  rw [osI_get] at o0 o1
  have hor := hs.orders (s.os.getD k (0, 0)) (by rw [List.getD_eq_getElem?_getD, List.getElem?_eq_getElem hk]; exact List.getElem_mem hk)
  unfold lateO at hd
  obtain ⟨⟨a, b⟩, hab⟩ : ∃ o, o = s.os.getD k (0, 0) := ⟨_, rfl⟩
  rw [← hab] at o0 o1 hor hd
  simp only at o0 o1 hor hd
  obtain ⟨gj, rfl, hgj, a0, a1, a2, a3⟩ := hjat a hor.1
  obtain ⟨gj', e', _, b0, b1, b2, b3⟩ := hjat b hor.2.1
  obtain rfl : gj = gj' := by injection e' with e'; injection e'
  have hja := hs.jobs a hor.1
  have hjb := hs.jobs b hor.2.1
  unfold Sh.job at hja hjb hd
  obtain ⟨⟨f, t, l, p⟩, hq⟩ : ∃ j, j = s.js.getD a J0 := ⟨_, rfl⟩
  obtain ⟨⟨f', t', l', p'⟩, hq'⟩ : ∃ j, j = s.js.getD b J0 := ⟨_, rfl⟩
  rw [← hq] at hja hd a0 a1 a2 a3
  rw [← hq'] at hjb hd b0 b1 b2 b3
  simp only at hja hjb a0 a1 a2 a3 b0 b1 b2 b3
  have hd' := Lib.hid (show decide (t' - l' < f + l) = d from hd)
  obtain ⟨n, hn⟩ : ∃ n, n = s.js.length := ⟨_, rfl⟩
  obtain ⟨m, hm⟩ : ∃ m, m = (osI s).length := ⟨_, rfl⟩
  have hkm : (k : Int) < (m : Int) := by omega
  have han : (a : Int) < (n : Int) := by have := hor.1; rw [show s.n = n from hn.symm] at this; omega
  have hbn : (b : Int) < (n : Int) := by have := hor.2.1; rw [show s.n = n from hn.symm] at this; omega
  rw [← hn] at hjc ⊢
  rw [← hm] at hoc ⊢
  have e38 := Lib.hid (show ∀ W, Calls Try.prog 38 #[.agg #[.int .i64 f', .int .i64 t', .int .i64 l', .int .i64 p']] W fun e w' => e = .returned (.int .i64 (t' - l')) ∧ Below W.heap.size W w' from fun W => latest38 ⟨f', t', l', p'⟩ (by simp only; omega))
  have hb3 : Below w.heap.size w (((w.alloc (.cells #[.int .i64 k] 126)).alloc (.cells #[.int .i64 s.P, .slice (some ⟨gj, 0, none⟩) n jc, .slice (some ⟨go, 0, none⟩) m oc] 81)).alloc (.cells #[.int .i64 a, .int .i64 b] 78)) := ((below_alloc1 _ _).alloc (by simp) _).alloc (by simp; omega) _
  have w0 := (hb3.cell (p := ⟨gj, a * 4, none⟩) hgj).trans a0
  have w1 := (hb3.cell (p := ⟨gj, a * 4 + 1, none⟩) hgj).trans a1
  have w2 := (hb3.cell (p := ⟨gj, a * 4 + 2, none⟩) hgj).trans a2
  have w3 := (hb3.cell (p := ⟨gj, a * 4 + 3, none⟩) hgj).trans a3
  have hb4 := Lib.hid (hb3.alloc (by simp; omega) (.cells #[.int .i64 f, .int .i64 t, .int .i64 l, .int .i64 p] 56))
  clear hb3
  clear rj ro hjat hoat hs hol hk hor hd hab hq hq' e' hn hm
  go_enter Try.func76, Try.ntmps76
  go_wp2_with fail
  obtain ⟨W, hW⟩ : ∃ W, W = (((w.alloc (.cells #[.int .i64 k] 126)).alloc (.cells #[.int .i64 s.P, .slice (some ⟨gj, 0, none⟩) n jc, .slice (some ⟨go, 0, none⟩) m oc] 81)).alloc (.cells #[.int .i64 a, .int .i64 b] 78)).alloc (.cells #[.int .i64 f, .int .i64 t, .int .i64 l, .int .i64 p] 56) := ⟨_, rfl⟩
  have hWb := Lib.hid (show Below w.heap.size w W by rw [hW]; exact hb4.out)
  have x0 := (hWb.out.cell (p := ⟨gj, b * 4, none⟩) hgj).trans b0
  have x1 := (hWb.out.cell (p := ⟨gj, b * 4 + 1, none⟩) hgj).trans b1
  have x2 := (hWb.out.cell (p := ⟨gj, b * 4 + 2, none⟩) hgj).trans b2
  have x3 := (hWb.out.cell (p := ⟨gj, b * 4 + 3, none⟩) hgj).trans b3
  have hsz : (((w.alloc (.cells #[.int .i64 k] 126)).alloc (.cells #[.int .i64 s.P, .slice (some ⟨gj, 0, none⟩) n jc, .slice (some ⟨go, 0, none⟩) m oc] 81)).alloc (.cells #[.int .i64 a, .int .i64 b] 78)).heap.size = w.heap.size + 1 + 1 + 1 := by simp
  have y0 : W.cell? ⟨w.heap.size + 1 + 1 + 1, 0, none⟩ = some (.int .i64 f) := by rw [hW, ← hsz]; simp only [World.cell?_alloc_at (hn := rfl)]; rfl
  have y2 : W.cell? ⟨w.heap.size + 1 + 1 + 1, 2, none⟩ = some (.int .i64 l) := by rw [hW, ← hsz]; simp only [World.cell?_alloc_at (hn := rfl)]; rfl
  have z1 : W.cell? ⟨w.heap.size + 1, 1, none⟩ = some (.slice (some ⟨gj, 0, none⟩) n jc) := by
    rw [hW, (below_alloc1 _ _).cell (p := ⟨w.heap.size + 1, 1, none⟩) (by rw [hsz]; show w.heap.size + 1 < _; omega), (below_alloc1 _ _).cell (p := ⟨w.heap.size + 1, 1, none⟩) (by rw [World.size_alloc, World.size_alloc]; show w.heap.size + 1 < _; omega)]
    have h : (w.alloc (.cells #[.int .i64 k] 126)).heap.size = w.heap.size + 1 := World.size_alloc _ _
    rw [← h, World.cell?_alloc_at (hn := rfl)]; rfl
  have z2 : W.cell? ⟨w.heap.size + 1 + 1, 1, none⟩ = some (.int .i64 b) := by
    rw [hW, (below_alloc1 _ _).cell (p := ⟨w.heap.size + 1 + 1, 1, none⟩) (by rw [hsz]; show w.heap.size + 1 + 1 < _; omega)]
    have h : ((w.alloc (.cells #[.int .i64 k] 126)).alloc (.cells #[.int .i64 s.P, .slice (some ⟨gj, 0, none⟩) n jc, .slice (some ⟨go, 0, none⟩) m oc] 81)).heap.size = w.heap.size + 1 + 1 := by rw [World.size_alloc, World.size_alloc]
    rw [← h, World.cell?_alloc_at (hn := rfl)]; rfl
  have hWs : W.heap.size = w.heap.size + 4 := by rw [hW]; simp
  rw [← hW]
  clear hW hb4 w0 w1 w2 w3 a0 a1 a2 a3 b0 b1 b2 b3 o0 o1 hsz
  have hs0 : (⟨w.heap.size + 1 + 1 + 1, 0, none⟩ : Addr).block < W.heap.size := by show w.heap.size + 1 + 1 + 1 < _; omega
  have hs1 : (⟨w.heap.size + 1 + 1 + 1, 2, none⟩ : Addr).block < W.heap.size := by show w.heap.size + 1 + 1 + 1 < _; omega
  have hs2 : (⟨w.heap.size + 1, 1, none⟩ : Addr).block < W.heap.size := by show w.heap.size + 1 < _; omega
  have hs3 : (⟨w.heap.size + 1 + 1, 1, none⟩ : Addr).block < W.heap.size := by show w.heap.size + 1 + 1 < _; omega
  have hs4 : (⟨gj, b * 4, none⟩ : Addr).block < W.heap.size := by show gj < _; omega
  have hs5 : (⟨gj, b * 4 + 1, none⟩ : Addr).block < W.heap.size := by show gj < _; omega
  have hs6 : (⟨gj, b * 4 + 2, none⟩ : Addr).block < W.heap.size := by show gj < _; omega
  have hs7 : (⟨gj, b * 4 + 3, none⟩ : Addr).block < W.heap.size := by show gj < _; omega
  clear hWs
  have hfl : IntKind.i64.wrap (f + l) = f + l := IntWalk.i64_in _ (by omega)
  refine wp_region_noPanic ?_
  go_region_held3 (fun w' => w'.cell? ⟨w.heap.size + 1 + 1 + 1, 0, none⟩ = some (.int .i64 f) ∧ w'.cell? ⟨w.heap.size + 1 + 1 + 1, 2, none⟩ = some (.int .i64 l) ∧ w'.cell? ⟨w.heap.size + 1, 1, none⟩ = some (.slice (some ⟨gj, 0, none⟩) n jc) ∧ w'.cell? ⟨w.heap.size + 1 + 1, 1, none⟩ = some (.int .i64 b) ∧ w'.cell? ⟨gj, b * 4, none⟩ = some (.int .i64 f') ∧ w'.cell? ⟨gj, b * 4 + 1, none⟩ = some (.int .i64 t') ∧ w'.cell? ⟨gj, b * 4 + 2, none⟩ = some (.int .i64 l') ∧ w'.cell? ⟨gj, b * 4 + 3, none⟩ = some (.int .i64 p'))
    (first
      | exact ⟨y0, y2, z1, z2, x0, x1, x2, x3⟩
      | exact ⟨(hbW.cell (p := ⟨w.heap.size + 1 + 1 + 1, 0, none⟩) hs0).trans y0, (hbW.cell (p := ⟨w.heap.size + 1 + 1 + 1, 2, none⟩) hs1).trans y2, (hbW.cell (p := ⟨w.heap.size + 1, 1, none⟩) hs2).trans z1, (hbW.cell (p := ⟨w.heap.size + 1 + 1, 1, none⟩) hs3).trans z2, (hbW.cell (p := ⟨gj, b * 4, none⟩) hs4).trans x0, (hbW.cell (p := ⟨gj, b * 4 + 1, none⟩) hs5).trans x1, (hbW.cell (p := ⟨gj, b * 4 + 2, none⟩) hs6).trans x2, (hbW.cell (p := ⟨gj, b * 4 + 3, none⟩) hs7).trans x3⟩)
    ((go_at_call 38; refine (e38.out _).mono ?_; rintro e wk ⟨rfl, hbk⟩; have hbW := (Below.refl W.heap.size W).drew.trans hbk))
  all_goals refine NoPanic.normal ?_
  all_goals go_wp2_with fail
  all_goals go_ret
  all_goals exact ⟨ret_b hd'.out, hWb.out.trans (hbW.mono hWb.out.size)⟩
end Go.Proofs.Ytjkbhdlbomcbeaa
