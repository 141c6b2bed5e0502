import Derived.Test.YtjkbhdlbomcbeaaPc
namespace Go.Proofs.Ytjkbhdlbomcbeaa
open Go.RowKit Go.Shelf Shf

/-! The reference's walk over a proof: what it answers, and which nodes have been seen then. -/
def enB (s : Sh) (x : Nd) : Bool := x.j == 0 && (x.l == 0 && (x.r == 0 && (intB x.a x.b && ovB s.P s.js x.a x.b)))
def laB (s : Sh) (x : Nd) : Bool := x.a == 0 && (x.b == 0 && (x.l == 0 && (x.r == 0 && (decide (0 ≤ x.j) && (decide (x.j < s.os.length) && lateO s x.j.toNat)))))
def inL (i n : Nat) (l : Int) : Bool := decide ((i : Int) < l) && decide (l < n)
def spB (s : Sh) (n i : Nat) (x : Nd) : Bool := x.b == 0 && ((decide (0 ≤ x.j) && decide (x.j < s.n)) && (inL i n x.l && (inL i n x.r && (decide ((s.job x.j.toNat).f ≤ x.a) && decide (x.a < lat (s.job x.j.toNat))))))
def rp (ns : List Nd) : Nat → Nat → Sh → (Nat → Bool) → Bool × (Nat → Bool)
  | 0, _, _, sn => (false, sn)
  | f + 1, i, s, sn =>
    if sn i = true then (false, sn)
    else
      let x := ns.getD i N0
      if x.k = 2 then (enB s x, seeN sn i)
      else if x.k = 3 then (laB s x, seeN sn i)
      else if x.k = 1 then
        if spB s ns.length i x then
          let p := rp ns f x.l.toNat (till s x.j.toNat x.a) (seeN sn i)
          if p.1 then rp ns f x.r.toNat (later s x.j.toNat x.a) p.2 else (false, p.2)
        else (false, seeN sn i)
      else (false, seeN sn i)
theorem rp_step {ns : List Nd} {f i : Nat} {s : Sh} {sn : Nat → Bool} (hs : sn i = false) : rp ns (f + 1) i s sn =
    (let x := ns.getD i N0
      if x.k = 2 then (enB s x, seeN sn i)
      else if x.k = 3 then (laB s x, seeN sn i)
      else if x.k = 1 then
        if spB s ns.length i x then
          let p := rp ns f x.l.toNat (till s x.j.toNat x.a) (seeN sn i)
          if p.1 then rp ns f x.r.toNat (later s x.j.toNat x.a) p.2 else (false, p.2)
        else (false, seeN sn i)
      else (false, seeN sn i)) := by
  rw [rp, if_neg (by rw [hs]; simp)]
theorem rp_pz (ns : List Nd) : ∀ (f i : Nat) (s : Sh) (sn : Nat → Bool), i < ns.length →
    prO s (pz ns s.n s.os.length f i sn).1 = (rp ns f i s sn).1 ∧ ((rp ns f i s sn).1 = true → (pz ns s.n s.os.length f i sn).2 = (rp ns f i s sn).2) := by
  intro f
  induction f with
  | zero => intro i s sn _; exact ⟨rfl, fun h => by cases h⟩
  | succ f ih =>
    intro i s sn hi
    cases hs : sn i with
    | true =>
      rw [pz, if_pos (.inr hs), rp, if_pos hs]
      exact ⟨rfl, fun h => by cases h⟩
    | false =>
      rw [pz_step hi hs, rp_step hs]
      obtain ⟨⟨k, j, a, b, l, r⟩, hx⟩ : ∃ x, x = ns.getD i N0 := ⟨_, rfl⟩
      rw [← hx]
      simp only
      by_cases h2 : k = 2
      · subst h2
        rw [if_pos rfl, show isSp ⟨2, j, a, b, l, r⟩ = false from rfl]
        simp only [Bool.false_eq_true, if_false]
        by_cases he : isEn ⟨2, j, a, b, l, r⟩ = true
        · rw [if_pos he]
          unfold isEn at he
          simp only [Bool.and_eq_true, beq_iff_eq] at he
          obtain ⟨-, rfl, rfl, rfl⟩ := he
          cases hb : intB a b with
          | true => exact ⟨by simp [enB, prO, rf, hb], fun _ => rfl⟩
          | false => exact ⟨by simp [enB, prO, hb], fun _ => by trivial⟩
        · rw [if_neg he, show isLa ⟨2, j, a, b, l, r⟩ = false from rfl]
          simp only [Bool.false_eq_true, if_false]
          refine ⟨?_, fun _ => by trivial⟩
          symm
          show enB s _ = false
          rw [Bool.eq_false_iff]
          intro hc
          apply he
          unfold enB at hc
          unfold isEn
          simp only [Bool.and_eq_true, beq_iff_eq] at hc ⊢
          exact ⟨trivial, hc.1, hc.2.1, hc.2.2.1⟩
      · rw [if_neg h2]
        by_cases h3 : k = 3
        · subst h3
          rw [if_pos rfl, show isSp ⟨3, j, a, b, l, r⟩ = false from rfl, show isEn ⟨3, j, a, b, l, r⟩ = false from rfl]
          simp only [Bool.false_eq_true, if_false]
          by_cases he : isLa ⟨3, j, a, b, l, r⟩ = true
          · rw [if_pos he]
            unfold isLa at he
            simp only [Bool.and_eq_true, beq_iff_eq] at he
            obtain ⟨-, rfl, rfl, rfl, rfl⟩ := he
            by_cases hj : decide (0 ≤ j) && decide (j < s.os.length)
            · rw [if_pos hj]
              simp only [Bool.and_eq_true, decide_eq_true_eq] at hj
              exact ⟨by simp [laB, prO, rf, hj.1, hj.2], fun _ => rfl⟩
            · rw [if_neg hj]
              refine ⟨?_, fun _ => rfl⟩
              symm
              show laB s _ = false
              rw [Bool.eq_false_iff]
              intro hc
              apply hj
              unfold laB at hc
              simp only [Bool.and_eq_true] at hc ⊢
              exact ⟨hc.2.2.2.2.1, hc.2.2.2.2.2.1⟩
          · rw [if_neg he]
            refine ⟨?_, fun _ => rfl⟩
            symm
            show laB s _ = false
            rw [Bool.eq_false_iff]
            intro hc
            apply he
            unfold laB at hc
            unfold isLa
            simp only [Bool.and_eq_true, beq_iff_eq] at hc ⊢
            exact ⟨trivial, hc.1, hc.2.1, hc.2.2.1, hc.2.2.2.1⟩
        · rw [if_neg h3]
          by_cases h1 : k = 1
          · subst h1
            rw [if_pos rfl]
            by_cases hb : b = 0
            · subst hb
              rw [if_pos (show isSp ⟨1, j, a, 0, l, r⟩ = true from rfl)]
              by_cases hok : spOk s.n i ⟨1, j, a, 0, l, r⟩ = true
              · rw [if_pos hok]
                have hok' := hok
                unfold spOk at hok
                simp only [Bool.and_eq_true, decide_eq_true_eq] at hok
                obtain ⟨h0, h1, h2', h3'⟩ := hok
                by_cases hl : l < ns.length
                · by_cases hr : r < ns.length
                  · have ihl := ih l.toNat (till s j.toNat a) (seeN sn i) (by omega)
                    rw [till_n, show (till s j.toNat a).os = s.os from rfl] at ihl
                    by_cases hfa : (s.job j.toNat).f ≤ a ∧ a < lat (s.job j.toNat)
                    · rw [if_pos (show spB s ns.length i ⟨1, j, a, 0, l, r⟩ = true from by
                        unfold spB inL; simp only [Bool.and_eq_true, decide_eq_true_eq, beq_iff_eq]; exact ⟨trivial, ⟨h0, h1⟩, ⟨h2', hl⟩, ⟨h3', hr⟩, hfa.1, hfa.2⟩)]
                      obtain ⟨p, hp⟩ : ∃ p, p = pz ns s.n s.os.length f l.toNat (seeN sn i) := ⟨_, rfl⟩
                      obtain ⟨P, hP⟩ : ∃ P, P = rp ns f l.toNat (till s j.toNat a) (seeN sn i) := ⟨_, rfl⟩
                      rw [← hp, ← hP] at ihl ⊢
                      cases hc : P.1 with
                      | false =>
                        rw [hc] at ihl
                        simp only [Bool.false_eq_true, if_false]
                        refine ⟨?_, fun h => by cases h⟩
                        have hz := ihl.1
                        cases hp1 : p.1 with
                        | none => rfl
                        | some t =>
                          rw [hp1] at hz
                          simp only [prO] at hz
                          cases (pz ns s.n s.os.length f r.toNat p.2).1 with
                          | none => rfl
                          | some u => simp [prO, rf, hz]
                      | true =>
                        rw [hc] at ihl
                        have he2 := ihl.2 rfl
                        rw [← he2]
                        have ihr := ih r.toNat (later s j.toNat a) p.2 (by omega)
                        rw [later_n, show (later s j.toNat a).os = s.os from rfl] at ihr
                        obtain ⟨q, hq⟩ : ∃ q, q = pz ns s.n s.os.length f r.toNat p.2 := ⟨_, rfl⟩
                        obtain ⟨R, hR⟩ : ∃ R, R = rp ns f r.toNat (later s j.toNat a) p.2 := ⟨_, rfl⟩
                        rw [← hq, ← hR] at ihr ⊢
                        simp only [if_true]
                        refine ⟨?_, ihr.2⟩
                        rw [← ihr.1]
                        have hz := ihl.1
                        cases hp1 : p.1 with
                        | none => rw [hp1] at hz; cases hz
                        | some t =>
                          rw [hp1] at hz
                          simp only [prO] at hz
                          cases q.1 with
                          | none => rfl
                          | some u => simp [prO, rf, hz, hfa.1, hfa.2]
                    · rw [if_neg (show ¬ spB s ns.length i ⟨1, j, a, 0, l, r⟩ = true from fun hc => hfa (by
                        unfold spB at hc; simp only [Bool.and_eq_true, decide_eq_true_eq] at hc; exact hc.2.2.2.2))]
                      refine ⟨?_, fun h => by cases h⟩
                      cases (pz ns s.n s.os.length f l.toNat (seeN sn i)).1 with
                      | none => rfl
                      | some t =>
                        cases (pz ns s.n s.os.length f r.toNat (pz ns s.n s.os.length f l.toNat (seeN sn i)).2).1 with
                        | none => rfl
                        | some u =>
                          simp only [prO, rf]
                          rw [Bool.eq_false_iff]
                          intro hc
                          simp only [Bool.and_eq_true, decide_eq_true_eq] at hc
                          exact hfa ⟨hc.1, hc.2.1⟩
                  · rw [if_neg (show ¬ spB s ns.length i ⟨1, j, a, 0, l, r⟩ = true from fun hc => hr (by
                        unfold spB inL at hc; simp only [Bool.and_eq_true, decide_eq_true_eq] at hc; exact hc.2.2.2.1.2))]
                    refine ⟨?_, fun h => by cases h⟩
                    have hn : (pz ns s.n s.os.length f r.toNat (pz ns s.n s.os.length f l.toNat (seeN sn i)).2).1 = none := by
                      cases f with
                      | zero => rfl
                      | succ f => rw [pz, if_pos (.inl (by omega))]
                    rw [hn]
                    cases (pz ns s.n s.os.length f l.toNat (seeN sn i)).1 <;> rfl
                · rw [if_neg (show ¬ spB s ns.length i ⟨1, j, a, 0, l, r⟩ = true from fun hc => hl (by
                        unfold spB inL at hc; simp only [Bool.and_eq_true, decide_eq_true_eq] at hc; exact hc.2.2.1.2))]
                  refine ⟨?_, fun h => by cases h⟩
                  have hn : (pz ns s.n s.os.length f l.toNat (seeN sn i)).1 = none := by
                    cases f with
                    | zero => rfl
                    | succ f => rw [pz, if_pos (.inl (by omega))]
                  rw [hn]
                  rfl
              · rw [if_neg hok, if_neg (show ¬ spB s ns.length i ⟨1, j, a, 0, l, r⟩ = true from fun hc => hok (by
                  unfold spB inL at hc; unfold spOk; simp only [Bool.and_eq_true, decide_eq_true_eq] at hc ⊢; exact ⟨hc.2.1.1, hc.2.1.2, hc.2.2.1.1, hc.2.2.2.1.1⟩))]
                exact ⟨rfl, fun _ => rfl⟩
            · rw [if_neg (show ¬ isSp ⟨1, j, a, b, l, r⟩ = true from by unfold isSp; simp [hb]), show isEn ⟨1, j, a, b, l, r⟩ = false from rfl, show isLa ⟨1, j, a, b, l, r⟩ = false from rfl,
                if_neg (show ¬ spB s ns.length i ⟨1, j, a, b, l, r⟩ = true from by unfold spB; simp [hb])]
              exact ⟨rfl, fun _ => rfl⟩
          · rw [if_neg h1, if_neg (show ¬ isSp ⟨k, j, a, b, l, r⟩ = true from by unfold isSp; simp [h1]), if_neg (show ¬ isEn ⟨k, j, a, b, l, r⟩ = true from by unfold isEn; simp [h2]), if_neg (show ¬ isLa ⟨k, j, a, b, l, r⟩ = true from by unfold isLa; simp [h3])]
            exact ⟨rfl, fun _ => rfl⟩
/-- All stays but for one block. -/
structure Kq (ge : Nat) (w w' : World) : Prop where
  size : w.heap.size ≤ w'.heap.size
  block : ∀ g, g < w.heap.size → g ≠ ge → w'.heap[g]? = w.heap[g]?
  os : w'.os = w.os
  tape : w'.tape = w.tape
  output : w'.output = w.output
theorem Kq.refl (ge : Nat) (w : World) : Kq ge w w := ⟨Nat.le_refl _, fun _ _ _ => rfl, rfl, rfl, rfl⟩
theorem Kq.trans {ge : Nat} {a b c : World} (h : Kq ge a b) (k : Kq ge b c) : Kq ge a c := ⟨Nat.le_trans h.size k.size, fun g hg hne => (k.block g (Nat.lt_of_lt_of_le hg h.size) hne).trans (h.block g hg hne), k.os.trans h.os, k.tape.trans h.tape, k.output.trans h.output⟩
theorem Kq.of_below {ge : Nat} {a b : World} (h : Below a.heap.size a b) : Kq ge a b := ⟨h.size, fun g hg _ => h.block g hg, h.os, h.tape, h.output⟩
theorem Kq.set (ge k : Nat) (w : World) (u : Value) : Kq ge w (w.setCell ⟨ge, k, none⟩ u) := by
  have hs := (Below.refl 0 w).setCell (p := ⟨ge, k, none⟩) (Nat.zero_le _) u
  exact ⟨hs.size, fun g _ hne => Below.heap_setCell w ⟨ge, k, none⟩ u g hne, hs.os, hs.tape, hs.output⟩
theorem Kq.cell {ge g k : Nat} {w w' : World} (h : Kq ge w w') (hg : g < w.heap.size) (hne : g ≠ ge) : w'.cell? ⟨g, k, none⟩ = w.cell? ⟨g, k, none⟩ := World.cell?_of_block (w := w) (h.block g hg hne)
/-- What was there before the block stays. -/
theorem Kq.below {ge B : Nat} {w0 w w' : World} (h : Kq ge w w') (hb : Below B w0 w) (hB : B ≤ ge) (hw : B ≤ w.heap.size) : Below B w0 w' :=
  ⟨h.os.trans hb.os, h.tape.trans hb.tape, h.output.trans hb.output, Nat.le_trans hb.size h.size, fun k hk => (h.block k (by omega) (by omega)).trans (hb.block k hk)⟩
/-! What stands beside the block that tells which nodes have been seen. -/
def ShF (w : World) (ge : Nat) (v : Value) (s : Sh) : Prop := ∃ ja jc oa oc, v = .agg #[.int .i64 s.P, .slice ja s.js.length jc, .slice oa (osI s).length oc] ∧ ReadsJ w (.slice ja s.js.length jc) s.js ∧ ReadsO w (.slice oa (osI s).length oc) (osI s) ∧ (∀ g, ja = some ⟨g, 0, none⟩ → g ≠ ge) ∧ (∀ g, oa = some ⟨g, 0, none⟩ → g ≠ ge)
theorem ShF.sh {w : World} {ge : Nat} {v : Value} {s : Sh} (h : ShF w ge v s) : ShV w v s.P s.js (osI s) := by
  obtain ⟨ja, jc, oa, oc, rfl, h1, h2, -⟩ := h
  exact ⟨_, _, rfl, h1, h2⟩
theorem ReadsJ.kp {w w' : World} {ge : Nat} {ja : Option Addr} {n jc : Nat} {js : List J} (h : ReadsJ w (.slice ja n jc) js) (hf : ∀ g, ja = some ⟨g, 0, none⟩ → g ≠ ge) (hk : Kq ge w w') : ReadsJ w' (.slice ja n jc) js := by
  obtain ⟨ao, c, e, hc, h⟩ := h
  refine ⟨ao, c, e, hc, fun hn => ?_⟩
  obtain ⟨rfl, -, -⟩ : ja = ao ∧ n = js.length ∧ jc = c := by injection e with a b c; exact ⟨a, b, c⟩
  obtain ⟨g, rfl, hg, hcl⟩ := h hn
  exact ⟨g, rfl, Nat.lt_of_lt_of_le hg hk.size, fun j u hj => (hk.cell (k := j) hg (hf g rfl)).trans (hcl j u hj)⟩
theorem ReadsO.kp {w w' : World} {ge : Nat} {oa : Option Addr} {n oc : Nat} {os : List (Int × Int)} (h : ReadsO w (.slice oa n oc) os) (hf : ∀ g, oa = some ⟨g, 0, none⟩ → g ≠ ge) (hk : Kq ge w w') : ReadsO w' (.slice oa n oc) os := by
  obtain ⟨ao, c, e, hc, h⟩ := h
  refine ⟨ao, c, e, hc, fun hn => ?_⟩
  obtain ⟨rfl, -, -⟩ : oa = ao ∧ n = os.length ∧ oc = c := by injection e with a b c; exact ⟨a, b, c⟩
  obtain ⟨g, rfl, hg, hcl⟩ := h hn
  exact ⟨g, rfl, Nat.lt_of_lt_of_le hg hk.size, fun j u hj => (hk.cell (k := j) hg (hf g rfl)).trans (hcl j u hj)⟩
theorem ShF.kp {w w' : World} {ge : Nat} {v : Value} {s : Sh} (h : ShF w ge v s) (hk : Kq ge w w') : ShF w' ge v s := by
  obtain ⟨ja, jc, oa, oc, rfl, h1, h2, f1, f2⟩ := h
  exact ⟨ja, jc, oa, oc, rfl, h1.kp f1 hk, h2.kp f2 hk, f1, f2⟩
def NdF (w : World) (ge : Nat) (v : Value) (ns : List Nd) : Prop := ReadsNd w v ns ∧ ∀ g n c, v = .slice (some ⟨g, 0, none⟩) n c → g ≠ ge
theorem NdF.kp {w w' : World} {ge : Nat} {v : Value} {ns : List Nd} (h : NdF w ge v ns) (hk : Kq ge w w') : NdF w' ge v ns := by
  obtain ⟨⟨ao, c, rfl, hc, hat⟩, hf⟩ := h
  refine ⟨⟨ao, c, rfl, hc, fun i hi => ?_⟩, hf⟩
  obtain ⟨g, rfl, hg, n0, n1, n2, n3, n4, n5⟩ := hat i hi
  have hne := hf g _ _ rfl
  exact ⟨g, rfl, Nat.lt_of_lt_of_le hg hk.size, (hk.cell hg hne).trans n0, (hk.cell hg hne).trans n1, (hk.cell hg hne).trans n2, (hk.cell hg hne).trans n3, (hk.cell hg hne).trans n4, (hk.cell hg hne).trans n5⟩
/-- Which nodes have been seen, in memory. -/
structure SnR (w : World) (ge n : Nat) (sn : Nat → Bool) : Prop where
  hgw : ge < w.heap.size
  seen : ∀ i, i < n → w.cell? ⟨ge, i, none⟩ = some (.bool (sn i))
  fg : ∀ j, w.frozen? ⟨ge, j, none⟩ = false
theorem SnR.below {w w' : World} {ge n : Nat} {sn : Nat → Bool} (h : SnR w ge n sn) (hb : Below w.heap.size w w') : SnR w' ge n sn :=
  ⟨Nat.lt_of_lt_of_le h.hgw hb.size, fun i hi => (hb.cell (p := ⟨ge, i, none⟩) h.hgw).trans (h.seen i hi), fun j => (hb.frozen (p := ⟨ge, j, none⟩) h.hgw).trans (h.fg j)⟩
theorem SnR.see {w : World} {ge n : Nat} {sn : Nat → Bool} (h : SnR w ge n sn) {i : Nat} (hi : i < n) : SnR (w.setCell ⟨ge, i, none⟩ (.bool true)) ge n (seeN sn i) := by
  refine ⟨by rw [World.size_setCell]; exact h.hgw, fun k hk => ?_, fun j => by rw [World.frozen?_setCell]; exact h.fg j⟩
  unfold seeN
  by_cases e : k = i
  · subst e
    rw [if_pos rfl]
    exact World.cell?_setCell_same' _ _ _ (by rw [h.seen k hk]; rfl)
  · rw [if_neg e, World.cell?_setCell_other _ _ _ _ (by simp <;> omega)]
    exact h.seen k hk
/-- What the reference's walk ends in. -/
def RpEnd (w : World) (ge n : Nat) (r : Bool × (Nat → Bool)) (e : Ending) (w' : World) : Prop := e = .returned (.bool r.1) ∧ SnR w' ge n r.2 ∧ Kq ge w w'
end Go.Proofs.Ytjkbhdlbomcbeaa
