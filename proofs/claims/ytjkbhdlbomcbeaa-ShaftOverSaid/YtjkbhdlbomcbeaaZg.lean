import Derived.Test.YtjkbhdlbomcbeaaZf
namespace Go.Proofs.Ytjkbhdlbomcbeaa
open Go.RowKit Go.Shelf Shf
attribute [local go_sem] Oper.semAt_some

theorem cell_of_box_e {W : World} {B : Nat} {v : Value} {t : TypeId} (h : W.heap[B]? = some (.cells #[v] t (0, 0))) : W.cell? ⟨B, 0, none⟩ = some v ∧ W.frozen? ⟨B, 0, none⟩ = false := by
  constructor <;> simp [World.cell?, World.frozen?, h]
theorem cell_new_e (W : World) (v : Value) (t : TypeId) : (W.alloc (.cells #[v] t)).cell? ⟨W.heap.size, 0, none⟩ = some v ∧ (W.alloc (.cells #[v] t)).frozen? ⟨W.heap.size, 0, none⟩ = false :=
  cell_of_box_e (World.alloc_heap_new W _)
theorem keepsO_below {A B : World} (h : Below A.heap.size A B) : KeepsOthers A B := ⟨h.size, fun k _ hk _ => (h.block k (Array.getElem?_eq_some_iff.1 hk).1).trans hk⟩
theorem cell_same_e {w : World} {p : Addr} {u v : Value} (h : w.cell? p = some u) : (w.setCell p v).cell? p = some v := World.cell?_setCell_same' _ _ _ (by rw [h]; rfl)
theorem cell_other_e {w : World} (p q : Nat) (v : Value) (h : p ≠ q) : (w.setCell ⟨p, 0, none⟩ v).cell? ⟨q, 0, none⟩ = w.cell? ⟨q, 0, none⟩ := World.cell?_setCell_other _ _ _ _ (fun e => h (congrArg Addr.block e))

def Bx (W : World) (p : Nat) (v : Value) : Prop := W.cell? ⟨p, 0, none⟩ = some v ∧ W.frozen? ⟨p, 0, none⟩ = false
theorem Bx.kept {A C : World} {row : Option Nat} {p : Nat} {v : Value} (h : Bx A p v) (hg : A.grownBy C row) (hr : ∀ r, row = some r → ∃ o : Obj, A.heap[r]? = some o ∧ o.isCells = false) : Bx C p v :=
  ⟨cell_kept h.1 hg hr, (frozen_kept h.1 hg hr).trans h.2⟩
theorem Bx.alloc {A : World} {p : Nat} {v : Value} (h : Bx A p v) (o : Obj) : Bx (A.alloc o) p v := h.kept (World.grownBy_alloc A o none) (fun r e => by cases e)
theorem Bx.below {A C : World} {n p : Nat} {v : Value} (h : Bx A p v) (hb : Below n A C) (hp : p < n) : Bx C p v := ⟨(hb.cell (p := ⟨p, 0, none⟩) hp).trans h.1, (hb.frozen (p := ⟨p, 0, none⟩) hp).trans h.2⟩
theorem Bx.other {A : World} {p q : Nat} {v u : Value} (h : Bx A p v) (e : q ≠ p) : Bx (A.setCell ⟨q, 0, none⟩ u) p v := ⟨(cell_other_e q p u e).trans h.1, by rw [World.frozen?_setCell]; exact h.2⟩
theorem Bx.same {A : World} {p : Nat} {v u : Value} (h : Bx A p v) : Bx (A.setCell ⟨p, 0, none⟩ u) p u := ⟨cell_same_e h.1, by rw [World.frozen?_setCell]; exact h.2⟩
theorem Bx.drew {A : World} {p : Nat} {v : Value} (h : Bx A p v) : Bx A.drew p v := h
def Sh3 (W : World) (B : Nat) (P jv ov : Value) : Prop := W.cell? ⟨B, 0, none⟩ = some P ∧ W.cell? ⟨B, 1, none⟩ = some jv ∧ W.cell? ⟨B, 2, none⟩ = some ov
theorem Sh3.kept {A C : World} {row : Option Nat} {B : Nat} {P jv ov : Value} (h : Sh3 A B P jv ov) (hg : A.grownBy C row) (hr : ∀ r, row = some r → ∃ o : Obj, A.heap[r]? = some o ∧ o.isCells = false) : Sh3 C B P jv ov :=
  ⟨cell_kept h.1 hg hr, cell_kept h.2.1 hg hr, cell_kept h.2.2 hg hr⟩
theorem Sh3.alloc {A : World} {B : Nat} {P jv ov : Value} (h : Sh3 A B P jv ov) (o : Obj) : Sh3 (A.alloc o) B P jv ov := h.kept (World.grownBy_alloc A o none) (fun r e => by cases e)
theorem Sh3.below {A C : World} {n B : Nat} {P jv ov : Value} (h : Sh3 A B P jv ov) (hb : Below n A C) (hp : B < n) : Sh3 C B P jv ov := ⟨(hb.cell (p := ⟨B, 0, none⟩) hp).trans h.1, (hb.cell (p := ⟨B, 1, none⟩) hp).trans h.2.1, (hb.cell (p := ⟨B, 2, none⟩) hp).trans h.2.2⟩
/-- The boxes of the function: the shaft, and the three results. -/
def Box4 (W : World) (B : Nat) (P jv ov f t ok : Value) : Prop := Sh3 W B P jv ov ∧ Bx W (B + 1) f ∧ Bx W (B + 1 + 1) t ∧ Bx W (B + 1 + 1 + 1) ok
theorem Box4.kept {A C : World} {row : Option Nat} {B : Nat} {P jv ov f t ok : Value} (h : Box4 A B P jv ov f t ok) (hg : A.grownBy C row) (hr : ∀ r, row = some r → ∃ o : Obj, A.heap[r]? = some o ∧ o.isCells = false) : Box4 C B P jv ov f t ok :=
  ⟨h.1.kept hg hr, h.2.1.kept hg hr, h.2.2.1.kept hg hr, h.2.2.2.kept hg hr⟩
theorem Box4.below {A C : World} {n B : Nat} {P jv ov f t ok : Value} (h : Box4 A B P jv ov f t ok) (hb : Below n A C) (hp : B + 1 + 1 + 1 < n) : Box4 C B P jv ov f t ok :=
  ⟨h.1.below hb (by omega), h.2.1.below hb (by omega), h.2.2.1.below hb (by omega), h.2.2.2.below hb (by omega)⟩
theorem Sh3.other {A : World} {B q : Nat} {P jv ov u : Value} (h : Sh3 A B P jv ov) (e : q ≠ B) : Sh3 (A.setCell ⟨q, 0, none⟩ u) B P jv ov :=
  ⟨(World.cell?_setCell_other _ _ _ _ (fun c => e (congrArg Addr.block c))).trans h.1, (World.cell?_setCell_other _ _ _ _ (fun c => e (congrArg Addr.block c))).trans h.2.1, (World.cell?_setCell_other _ _ _ _ (fun c => e (congrArg Addr.block c))).trans h.2.2⟩
theorem Box4.stored {A : World} {B : Nat} {P jv ov f t ok f' t' ok' : Value} (h : Box4 A B P jv ov f t ok) : Box4 (((A.setCell ⟨B + 1, 0, none⟩ f').setCell ⟨B + 1 + 1, 0, none⟩ t').setCell ⟨B + 1 + 1 + 1, 0, none⟩ ok') B P jv ov f' t' ok' :=
  ⟨((h.1.other (by omega)).other (by omega)).other (by omega), ((h.2.1.same).other (by omega)).other (by omega), ((h.2.2.1.other (by omega)).same).other (by omega), ((h.2.2.2.other (by omega)).other (by omega)).same⟩
/-- No interval of a list is overfull. -/
def NoneIn (P : Int) (js : List J) (pre : List Ivl) : Prop := ∀ p ∈ pre, ovB P js (p.1.1 : Int) (p.1.2 : Int) = false
theorem noneIn_snoc {P : Int} {js : List J} {pre : List Ivl} {x : Ivl} (h : NoneIn P js pre) (hx : ovB P js (x.1.1 : Int) (x.1.2 : Int) = false) : NoneIn P js (pre ++ [x]) := fun p hp => by
  rcases List.mem_append.1 hp with h1 | h1
  · exact h p h1
  · rw [List.mem_singleton.1 h1]; exact hx
theorem none_of_cov {P : Int} {js : List J} {pre : List Ivl} {a b : Nat} (h : NoneIn P js pre) (hc : Cov pre a b) : NoneB P js a b := fun x y h1 h2 h3 => by
  obtain ⟨p, hp, e⟩ := hc x y h1 h2 h3
  have h4 := h p hp
  rw [e] at h4; exact h4
theorem none_all {P : Int} {js : List J} {pre : List Ivl} (h : NoneIn P js pre) (hc : Cov pre 24 25) : NoneB P js 24 0 := fun x y h1 h2 h3 => none_of_cov h hc x y h1 h2 (by omega)

set_option maxRecDepth 100000 in
set_option maxHeartbeats 2000000 in
theorem overfull46 {w : World} {v : Value} {P : Int} {js : List J} {os : List (Int × Int)} (h : ShV w v P js os) (h7 : js.length ≤ 7) (hP : 1 ≤ P ∧ P ≤ 20) (hj : ∀ i, i < js.length → JobIn (js.getD i J0)) :
    Calls Try.prog 46 #[v] w (OverEnd w P js) := by
  obtain ⟨jv, ov, rfl, rj, ro⟩ := h
  obtain ⟨ja, jn, jc, rfl⟩ : ∃ a n c, jv = .slice a n c := by obtain ⟨a, c, e, _⟩ := rj; exact ⟨_, _, _, e⟩
  obtain ⟨oa, m, oc, rfl⟩ : ∃ a n c, ov = .slice a n c := by obtain ⟨a, c, e, _⟩ := ro; exact ⟨_, _, _, e⟩
  have hov := Lib.hid (fun (W : World) (hb' : Below w.heap.size w W) (x : Ivl) => isOverfull65 (w := W) (v := .agg #[.int .i64 P, .slice ja jn jc, .slice oa m oc]) (a := (x.1.1 : Int)) (b := (x.1.2 : Int)) ⟨_, _, rfl, rj.below hb', ro.below hb'⟩ h7 hP hj (by have := x.2; omega) (by have := x.2; omega) (by have := x.2; omega) rfl)
  clear rj ro h7 hP hj
  refine (callsIn_wide (n := 6)).1 ?_
  have hmx : Try.prog.follows .mixedOrders = true := by kernel_rfl
  refine callsIn_of_wp_marks Try.func46 rfl trivial ?_ rfl
  simp only [Try.ntmps46, List.size_toArray, List.length_cons, List.length_nil, Nat.reduceAdd, Nat.reduceSub, Array.replicate_succ, Array.replicate_zero, List.push_toArray, List.append_toArray, List.nil_append, List.cons_append]
  have c0 : Sh3 (w.alloc (.cells #[.int .i64 P, .slice ja jn jc, .slice oa m oc] 81)) w.heap.size (.int .i64 P) (.slice ja jn jc) (.slice oa m oc) := (Three.new w _ _ _ 81).1
  have c1 : Bx _ _ _ := cell_new_e (w.alloc (.cells #[.int .i64 P, .slice ja jn jc, .slice oa m oc] 81)) (.int .i64 0) 3
  have c2 : Bx _ _ _ := cell_new_e ((w.alloc (.cells #[.int .i64 P, .slice ja jn jc, .slice oa m oc] 81)).alloc (.cells #[.int .i64 0] 3)) (.int .i64 0) 3
  have c3 : Bx _ _ _ := cell_new_e (((w.alloc (.cells #[.int .i64 P, .slice ja jn jc, .slice oa m oc] 81)).alloc (.cells #[.int .i64 0] 3)).alloc (.cells #[.int .i64 0] 3)) (.bool false) 4
  simp only [World.size_alloc] at c1 c2 c3
  have hb4 : Box4 ((((w.alloc (.cells #[.int .i64 P, .slice ja jn jc, .slice oa m oc] 81)).alloc (.cells #[.int .i64 0] 3)).alloc (.cells #[.int .i64 0] 3)).alloc (.cells #[.bool false] 4)) w.heap.size (.int .i64 P) (.slice ja jn jc) (.slice oa m oc) (.int .i64 0) (.int .i64 0) (.bool false) :=
    ⟨((c0.alloc _).alloc _).alloc _, (c1.alloc _).alloc _, c2.alloc _, c3⟩
  have hB0 : Below w.heap.size w ((((w.alloc (.cells #[.int .i64 P, .slice ja jn jc, .slice oa m oc] 81)).alloc (.cells #[.int .i64 0] 3)).alloc (.cells #[.int .i64 0] 3)).alloc (.cells #[.bool false] 4)) :=
    ((((Below.refl _ w).alloc (Nat.le_refl _) _).alloc (by simp) _).alloc (by simp; omega) _).alloc (by simp; omega) _
  have hb4' := Lib.hid hb4
  have hB0' := Lib.hid hB0
  have hsz : ((((w.alloc (.cells #[.int .i64 P, .slice ja jn jc, .slice oa m oc] 81)).alloc (.cells #[.int .i64 0] 3)).alloc (.cells #[.int .i64 0] 3)).alloc (.cells #[.bool false] 4)).heap.size = w.heap.size + 4 := by simp
  have hsz' := Lib.hid hsz
  clear c0 c1 c2 c3 hb4 hB0 hsz
  gi_wp2
  obtain ⟨W0, hW0⟩ : ∃ W0, ((((w.alloc (.cells #[.int .i64 P, .slice ja jn jc, .slice oa m oc] 81)).alloc (.cells #[.int .i64 0] 3)).alloc (.cells #[.int .i64 0] 3)).alloc (.cells #[.bool false] 4)) = W0 := ⟨_, rfl⟩
  rw [hW0] at hb4' hB0' hsz' ⊢
  clear hW0
  have hsz := hsz'.out
  refine wpIn_rangeFunc_ownF rfl (by omega) (gf := 64) (lb := #[]) rfl trivial (enters_of Try.func64 (by kernel_rfl) rfl)
    (intervals64_stops Fence.wide _ trivial rfl (by omega) W0) (fun _ _ => trivial) (fun _ _ _ _ _ _ _ _ => trivial) (Below.refl _ _) (fun _ => rfl)
    (fun pre W => (Box4 W w.heap.size (.int .i64 P) (.slice ja jn jc) (.slice oa m oc) (.int .i64 0) (.int .i64 0) (.bool false) ∧ Below w.heap.size w W) ∧ NoneIn P js pre)
    (fun c pre W => (c = .ret ∧ ∃ p0, ∃ x : Ivl, pre = p0 ++ [x] ∧ NoneIn P js p0 ∧ ovB P js (x.1.1 : Int) (x.1.2 : Int) = true ∧ Box4 W w.heap.size (.int .i64 P) (.slice ja jn jc) (.slice oa m oc) (.int .i64 (x.1.1 : Int)) (.int .i64 (x.1.2 : Int)) (.bool true)) ∧ Below w.heap.size w W)
    ?hI ?hIx ⟨⟨hb4'.out, hB0'.out⟩, fun p hp => by simp at hp⟩
    (fun x => { tmps := #[.agg #[.int .i64 P, .slice ja jn jc, .slice oa m oc], .pointer (some ⟨w.heap.size, 0, none⟩), .pointer (some ⟨w.heap.size + 1, 0, none⟩), .pointer (some ⟨w.heap.size + 1 + 1, 0, none⟩), .pointer (some ⟨w.heap.size + 1 + 1 + 1, 0, none⟩), .int .i64 (x.1.1 : Int), .int .i64 (x.1.2 : Int), .int .i64 (x.1.1 : Int), .int .i64 (x.1.2 : Int),
      undef, undef, undef, undef, undef, undef], defers := [] }) ?assign ?body ?done ?stop
  case hI =>
    exact OwnFrom.and (OwnFrom.and (fun s A B row hs hg hr => hs.kept hg (fun r e => (hr r e).2)) (ownFrom_below (Nat.le_refl _) (by omega))) (ownFrom_pure _ _)
  case hIx =>
    refine fun c => OwnFrom.and (fun s A B row hs hg hr => ?_) (ownFrom_below (Nat.le_refl _) (by omega))
    obtain ⟨e0, p0, x, e, h1, h2, h3⟩ := hs
    exact ⟨e0, p0, x, e, h1, h2, h3.kept hg (fun r e => (hr r e).2)⟩
  case assign =>
    intro l x W K hK
    gi_wp2
    exact hK
  case body =>
    rintro l pre x W ⟨⟨hbx, hB⟩, hno⟩ hlt
    have hbx' := Lib.hid hbx
    have hws := Lib.hid (show w.heap.size + 1 + 1 + 1 < W.heap.size by
      obtain ⟨o, ho, _⟩ := cells_of_cell hbx.2.2.2.1
      exact (Array.getElem?_eq_some_iff.1 ho).1)
    obtain ⟨⟨d0, d1, d2⟩, -, -, -⟩ := hbx
    have hcall := Lib.hid (fun (W : World) (hb' : Below w.heap.size w W) => hov.out W hb' x)
    obtain ⟨d, hd⟩ : ∃ d, ovB P js (x.1.1 : Int) (x.1.2 : Int) = d := ⟨_, rfl⟩
    rw [hd] at hcall
    have hd' := Lib.hid hd
    have hno' := Lib.hid hno
    have hB' := Lib.hid hB
    clear hd hno hB hov
    cases d with
    | false =>
      gi_wp2_with (refine ⟨trivial, ?_⟩; gi_at_call 65; refine (CallsIn.inRound l (callsIn_wide.2 (hcall.out _ (by first | exact hB'.out | exact hB'.out.drew)))).mono ?_; rintro e w2 ⟨rfl, hb2⟩)
      exact ⟨keepsO_below hb2, trivial, ⟨hbx'.out.below hb2 hws.out, below_call hB'.out hb2⟩, noneIn_snoc hno'.out hd'.out⟩
    | true =>
      gi_wp2_with (refine ⟨trivial, ?_⟩; gi_at_call 65; refine (CallsIn.inRound l (callsIn_wide.2 (hcall.out _ (by first | exact hB'.out | exact hB'.out.drew)))).mono ?_; rintro e w2 ⟨rfl, hb2⟩; have hx4 := Lib.hid (hbx'.out.below hb2 hws.out); obtain ⟨-, ⟨e1, f1⟩, ⟨e2, f2⟩, ⟨e3, f3⟩⟩ := hx4.out)
      exact ⟨(keepsO_below hb2).trans (((KeepsOthers.setCell _ _ _).trans (KeepsOthers.setCell _ _ _)).trans (KeepsOthers.setCell _ _ _)), ⟨rfl, pre, x, rfl, hno'.out, hd'.out, hx4.out.stored⟩, (((below_call hB'.out hb2).setCell (p := ⟨w.heap.size + 1, 0, none⟩) (Nat.le_succ _) _).setCell (p := ⟨w.heap.size + 1 + 1, 0, none⟩) (by simp; omega) _).setCell (p := ⟨w.heap.size + 1 + 1 + 1, 0, none⟩) (by simp; omega) _⟩
  case done =>
    rintro D ys W hD hcov ⟨⟨hbx, hB⟩, hno⟩ hK
    have hnb := Lib.hid (none_all hno hcov)
    have hbx' := Lib.hid hbx
    have hB' := Lib.hid hB
    obtain ⟨-, ⟨e1, f1⟩, ⟨e2, f2⟩, ⟨e3, f3⟩⟩ := hbx
    clear hno hcov hB hov
    gi_wp2
    have hK' := (((KeepsOthers.setCell W ⟨w.heap.size + 1, 0, none⟩ (.int .i64 0)).trans (KeepsOthers.setCell _ ⟨w.heap.size + 1 + 1, 0, none⟩ (.int .i64 0))).trans (KeepsOthers.setCell _ ⟨w.heap.size + 1 + 1 + 1, 0, none⟩ (.bool false))).same D _ hK rfl
    refine ⟨by simp, .inl ⟨_, _, rfl, run_takeDeferred hK', ?_⟩⟩
    obtain ⟨-, ⟨g1, -⟩, ⟨g2, -⟩, ⟨g3, -⟩⟩ := (hbx'.out.stored (f' := .int .i64 0) (t' := .int .i64 0) (ok' := .bool false)).kept (grownBy_putObj' _ D (.deferred none)) (fun r e => by cases e; exact ⟨_, hK', rfl⟩)
    refine ⟨.tuple #[.int .i64 0, .int .i64 0, .bool false], ?_, _, _, _, rfl, .inr ⟨rfl, rfl, rfl, hnb.out⟩, ((((hB'.out.setCell (p := ⟨w.heap.size + 1, 0, none⟩) (Nat.le_succ _) _).setCell (p := ⟨w.heap.size + 1 + 1, 0, none⟩) (by simp; omega) _).setCell (p := ⟨w.heap.size + 1 + 1 + 1, 0, none⟩) (by simp; omega) _).trans (belowK_b (w := w) (Nat.le_refl _) _ D _ _ (by omega) hK' rfl rfl))⟩
    simp [results, Try.f46, go_sem, g1, g2, g3]
  case stop =>
    rintro D c pre W hD ⟨p0', x', hpe, hcov⟩ ⟨⟨rfl, p0, x, rfl, hno, hov', hbx⟩, hB⟩ hK
    obtain ⟨rfl, hxx⟩ := List.append_inj' hpe rfl
    obtain rfl : x = x' := List.head_eq_of_cons_eq hxx
    have hnb := Lib.hid (none_of_cov hno hcov)
    have hov2 := Lib.hid hov'
    have hbx' := Lib.hid hbx
    have hB' := Lib.hid hB
    clear hno hcov hov' hbx hB hov hpe hxx
    gi_wp2
    refine ⟨by simp, .inl ⟨_, _, rfl, run_takeDeferred hK, ?_⟩⟩
    obtain ⟨-, ⟨g1, -⟩, ⟨g2, -⟩, ⟨g3, -⟩⟩ := hbx'.out.kept (grownBy_putObj' _ D (.deferred none)) (fun r e => by cases e; exact ⟨_, hK, rfl⟩)
    refine ⟨.tuple #[.int .i64 (x.1.1 : Int), .int .i64 (x.1.2 : Int), .bool true], ?_, _, _, _, rfl, .inl ⟨rfl, _, _, rfl, rfl, x.2.1, x.2.2, hov2.out, hnb.out⟩, hB'.out.trans (belowK_b (w := w) (Nat.le_refl _) W D _ _ (by omega) hK rfl rfl)⟩
    simp [results, Try.f46, go_sem, g1, g2, g3]
end Go.Proofs.Ytjkbhdlbomcbeaa
