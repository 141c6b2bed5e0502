import Derived.Test.YtjkbhdlbomcbeaaV22
import Derived.Deep.LoopGhost
import Derived.Deep.CutRange
import Derived.Test.YtjkbhdlbomcbeaaV10
namespace Go.Proofs.Ytjkbhdlbomcbeaa
open Go.RowKit Go.Shelf Shf

/-! All starts in lexicographic order: mathematics that knows no program. -/
def upTo (a m : Int) : List Int := (List.range (m + 1 - a).toNat).map fun k : Nat => a + (k : Int)
theorem mem_upTo {a m x : Int} : x ∈ upTo a m ↔ a ≤ x ∧ x ≤ m := by
  unfold upTo
  rw [List.mem_map]
  constructor
  · rintro ⟨k, hk, rfl⟩
    have := List.mem_range.1 hk
    omega
  · rintro ⟨h1, h2⟩
    exact ⟨(x - a).toNat, List.mem_range.2 (by omega), by omega⟩
theorem upTo_cons {a m : Int} (h : a ≤ m) : upTo a m = a :: upTo (a + 1) m := by
  unfold upTo
  rw [show (m + 1 - a).toNat = (m + 1 - (a + 1)).toNat + 1 from by omega, List.range_succ_eq_map, List.map_cons, List.map_map]
  congr 1
  · show a + ((0 : Nat) : Int) = a; omega
  · refine List.map_congr_left fun k _ => ?_
    show a + ((k + 1 : Nat) : Int) = a + 1 + (k : Int)
    omega
theorem upTo_nil {a m : Int} (h : m < a) : upTo a m = [] := by unfold upTo; rw [show (m + 1 - a).toNat = 0 from by omega]; rfl
def minsR (rs : List (Int × Int)) : List Int := rs.map (·.1)
/-- The rows from one on. -/
def fromT : List (Int × Int) → List Int → List (List Int)
  | (_, m) :: rs, x :: t => (fromT rs t).map (x :: ·) ++ (upTo (x + 1) m).flatMap fun y => (fromT rs (minsR rs)).map (y :: ·)
  | _, _ => [[]]
def Within : List (Int × Int) → List Int → Prop
  | (f, m) :: rs, x :: t => f ≤ x ∧ x ≤ m ∧ Within rs t
  | [], [] => True
  | _, _ => False
def allT (rs : List (Int × Int)) : List (List Int) := fromT rs (minsR rs)
theorem within_mins : ∀ rs : List (Int × Int), (∀ r ∈ rs, r.1 ≤ r.2) → Within rs (minsR rs)
  | [], _ => trivial
  | (f, m) :: rs, h => ⟨Int.le_refl _, h (f, m) (List.mem_cons_self ..), within_mins rs fun r hr => h r (List.mem_cons_of_mem _ hr)⟩
theorem within_len : ∀ {rs : List (Int × Int)} {t : List Int}, Within rs t → t.length = rs.length
  | [], [], _ => rfl
  | (_, _) :: rs, _ :: t, h => by simp [within_len h.2.2]
  | [], _ :: _, h => h.elim
  | _ :: _, [], h => by cases h
theorem within_at : ∀ {rs : List (Int × Int)} {t : List Int}, Within rs t → ∀ i, i < rs.length → (rs.getD i (0, 0)).1 ≤ t.getD i 0 ∧ t.getD i 0 ≤ (rs.getD i (0, 0)).2
  | (_, _) :: rs, _ :: t, h, 0, _ => ⟨h.1, h.2.1⟩
  | (_, _) :: rs, _ :: t, h, i + 1, hi => by simpa using within_at h.2.2 i (by simpa using hi)
  | [], _, _, _, hi => by simp at hi
  | _ :: _, [], h, _, _ => by cases h
theorem within_of : ∀ {rs : List (Int × Int)} {t : List Int}, t.length = rs.length → (∀ i, i < rs.length → (rs.getD i (0, 0)).1 ≤ t.getD i 0 ∧ t.getD i 0 ≤ (rs.getD i (0, 0)).2) → Within rs t
  | [], [], _, _ => trivial
  | (_, _) :: rs, _ :: t, hl, h => ⟨(h 0 (by simp)).1, (h 0 (by simp)).2, within_of (by simpa using hl) fun i hi => by simpa using h (i + 1) (by simpa using hi)⟩
  | [], _ :: _, hl, _ => by simp at hl
  | _ :: _, [], hl, _ => by simp at hl
theorem fromT_last : ∀ {rs : List (Int × Int)} {t : List Int}, Within rs t → (∀ i, i < rs.length → t.getD i 0 = (rs.getD i (0, 0)).2) → fromT rs t = [t]
  | [], [], _, _ => rfl
  | (f, m) :: rs, x :: t, h, he => by
    have h0 : x = m := by simpa using he 0 (by simp)
    unfold fromT
    rw [fromT_last h.2.2 (fun i hi => by simpa using he (i + 1) (by simpa using hi)), upTo_nil (by omega)]
    simp
  | [], _ :: _, h, _ => h.elim
  | _ :: _, [], h, _ => by cases h
/-- The next row: place `i` is raised, those behind it begin again. -/
def advR (rs : List (Int × Int)) (t : List Int) (i : Nat) : List Int := t.take i ++ (t.getD i 0 + 1) :: (minsR rs).drop (i + 1)
theorem fromT_step : ∀ {rs : List (Int × Int)} {t : List Int} (i : Nat), Within rs t → i < rs.length → t.getD i 0 < (rs.getD i (0, 0)).2 → (∀ k, i < k → k < rs.length → t.getD k 0 = (rs.getD k (0, 0)).2) →
    fromT rs t = t :: fromT rs (advR rs t i)
  | (f, m) :: rs, x :: t, 0, h, _, hlt, he => by
    have hlt : x < m := by simpa using hlt
    have e : advR ((f, m) :: rs) (x :: t) 0 = (x + 1) :: minsR rs := by simp [advR, minsR]
    rw [e]
    unfold fromT
    rw [fromT_last h.2.2 (fun i hi => by simpa using he (i + 1) (by omega) (by simpa using hi)), upTo_cons (by omega : x + 1 ≤ m)]
    simp
  | (f, m) :: rs, x :: t, i + 1, h, hi, hlt, he => by
    have e : advR ((f, m) :: rs) (x :: t) (i + 1) = x :: advR rs t i := by simp [advR, minsR]
    rw [e]
    conv => lhs; unfold fromT
    conv => rhs; unfold fromT
    rw [fromT_step i h.2.2 (by simpa using hi) (by simpa using hlt) (fun k h1 h2 => by simpa using he (k + 1) (by omega) (by simpa using h2))]
    simp
  | [], _, _, _, hi, _, _ => by simp at hi
  | _ :: _, [], _, h, _, _, _ => by cases h
theorem adv_within : ∀ {rs : List (Int × Int)} {t : List Int} (i : Nat), (∀ r ∈ rs, r.1 ≤ r.2) → Within rs t → i < rs.length → t.getD i 0 < (rs.getD i (0, 0)).2 → Within rs (advR rs t i)
  | (f, m) :: rs, x :: t, 0, hr, h, _, hlt => by
    have hlt : x < m := by simpa using hlt
    have e : advR ((f, m) :: rs) (x :: t) 0 = (x + 1) :: minsR rs := by simp [advR, minsR]
    rw [e]
    exact ⟨by have := h.1; omega, by omega, within_mins rs fun r hm => hr r (List.mem_cons_of_mem _ hm)⟩
  | (f, m) :: rs, x :: t, i + 1, hr, h, hi, hlt => by
    have e : advR ((f, m) :: rs) (x :: t) (i + 1) = x :: advR rs t i := by simp [advR, minsR]
    rw [e]
    exact ⟨h.1, h.2.1, adv_within i (fun r hm => hr r (List.mem_cons_of_mem _ hm)) h.2.2 (by simpa using hi) (by simpa using hlt)⟩
  | [], _, _, _, _, hi, _ => by simp at hi
  | _ :: _, [], _, _, h, _, _ => by cases h
theorem mem_fromT : ∀ {rs : List (Int × Int)} {t u : List Int}, (∀ r ∈ rs, r.1 ≤ r.2) → Within rs t → u ∈ fromT rs t → Within rs u
  | [], [], u, _, _, h => by
    unfold fromT at h
    rw [List.mem_singleton.1 h]; trivial
  | (f, m) :: rs, x :: t, u, hr, h, hu => by
    have hr' : ∀ r ∈ rs, r.1 ≤ r.2 := fun r hm => hr r (List.mem_cons_of_mem _ hm)
    unfold fromT at hu
    rcases List.mem_append.1 hu with hu | hu
    · obtain ⟨v, hv, rfl⟩ := List.mem_map.1 hu
      exact ⟨h.1, h.2.1, mem_fromT hr' h.2.2 hv⟩
    · obtain ⟨y, hy, hu⟩ := List.mem_flatMap.1 hu
      obtain ⟨v, hv, rfl⟩ := List.mem_map.1 hu
      have := mem_upTo.1 hy
      exact ⟨by have := h.1; omega, this.2, mem_fromT hr' (within_mins rs hr') hv⟩
  | [], _ :: _, _, _, h, _ => h.elim
  | _ :: _, [], _, _, h, _ => by cases h
theorem allT_full : ∀ {rs : List (Int × Int)} {u : List Int}, (∀ r ∈ rs, r.1 ≤ r.2) → Within rs u → u ∈ allT rs
  | [], [], _, _ => by unfold allT fromT; exact List.mem_singleton.2 rfl
  | (f, m) :: rs, x :: t, hr, h => by
    have hr' : ∀ r ∈ rs, r.1 ≤ r.2 := fun r hm => hr r (List.mem_cons_of_mem _ hm)
    have ht := allT_full hr' h.2.2
    unfold allT at ht ⊢
    show _ ∈ fromT ((f, m) :: rs) (f :: minsR rs)
    unfold fromT
    rw [List.mem_append]
    by_cases e : x = f
    · left; rw [e]; exact List.mem_map.2 ⟨t, ht, rfl⟩
    · right
      have h1 := h.1
      exact List.mem_flatMap.2 ⟨x, mem_upTo.2 ⟨by omega, h.2.1⟩, List.mem_map.2 ⟨t, ht, rfl⟩⟩
  | [], _ :: _, _, h => h.elim
  | _ :: _, [], _, h => by cases h
/-- Less in lexicographic order. -/
def LexL (a b : List Int) : Prop := ∃ i, (∀ j, j < i → a.getD j 0 = b.getD j 0) ∧ a.getD i 0 < b.getD i 0
theorem allT_len : ∀ rs : List (Int × Int), (∀ r ∈ rs, r.1 ≤ r.2) → ((allT rs).length : Int) = (rs.map fun r => r.2 - r.1 + 1).foldr (· * ·) 1
  | [], _ => by unfold allT fromT; rfl
  | (f, m) :: rs, hr => by
    have hr' : ∀ r ∈ rs, r.1 ≤ r.2 := fun r hm => hr r (List.mem_cons_of_mem _ hm)
    have hfm : f ≤ m := hr (f, m) (List.mem_cons_self ..)
    have ih := allT_len rs hr'
    unfold allT at ih ⊢
    show ((fromT ((f, m) :: rs) (f :: minsR rs)).length : Int) = _
    unfold fromT
    rw [List.length_append, List.length_map]
    have key : ∀ l : List Int, (l.flatMap fun y => (fromT rs (minsR rs)).map (y :: ·)).length = l.length * (fromT rs (minsR rs)).length := by
      intro l
      induction l with
      | nil => simp
      | cons y l ih2 => rw [List.flatMap_cons, List.length_append, ih2, List.length_map, List.length_cons, Nat.succ_mul, Nat.add_comm]
    rw [key]
    have hl : (upTo (f + 1) m).length = (m - f).toNat := by unfold upTo; rw [List.length_map, List.length_range]; omega
    rw [hl, List.map_cons, List.foldr_cons, ← ih, Int.natCast_add, Int.natCast_mul, show (((m - f).toNat : Nat) : Int) = m - f from by omega, show m - f + 1 = 1 + (m - f) from by omega, Int.add_mul, Int.one_mul]

open Classical in
/-- All schedules, in order. -/
noncomputable def allL (s : Sh) (ts : List (List Int)) : List (List Int) := ts.filter fun t => decide (Sched s fun i => t.getD i 0)
def rsOf (s : Sh) : List (Int × Int) := s.js.map fun j => (j.f, lat j)
theorem rsOf_len (s : Sh) : (rsOf s).length = s.n := List.length_map ..
theorem rsOf_at (s : Sh) {i : Nat} (hi : i < s.n) : (rsOf s).getD i (0, 0) = ((s.job i).f, lat (s.job i)) := by
  have h : i < s.js.length := hi
  unfold rsOf Sh.job
  rw [List.getD_eq_getElem?_getD, List.getD_eq_getElem?_getD, List.getElem?_map, List.getElem?_eq_getElem h]
  rfl
theorem mins_at (s : Sh) {i : Nat} (hi : i < s.n) : (minsR (rsOf s)).getD i 0 = (s.job i).f := by
  have h : i < s.js.length := hi
  unfold minsR rsOf Sh.job
  rw [List.map_map, List.getD_eq_getElem?_getD, List.getD_eq_getElem?_getD, List.getElem?_map, List.getElem?_eq_getElem h]
  rfl
theorem mins_len (s : Sh) : (minsR (rsOf s)).length = s.n := by unfold minsR; rw [List.length_map, rsOf_len]
theorem rs_ok {s : Sh} (hw : ∀ i, i < s.n → (s.job i).f ≤ lat (s.job i)) : ∀ r ∈ rsOf s, r.1 ≤ r.2 := fun r hr => by
  obtain ⟨i, hi, rfl⟩ := List.mem_iff_getElem.1 hr
  have h1 : i < s.n := by rw [← rsOf_len]; exact hi
  have h2 := rsOf_at s h1
  rw [List.getD_eq_getElem?_getD, List.getElem?_eq_getElem hi] at h2
  simp only [Option.getD_some] at h2
  rw [h2]
  exact hw i h1
/-- A table of rows: the table's own cells lie above `B0`, its rows above `B1`. -/
def Tab (w : World) (B0 B1 : Nat) (v : Value) (xss : List (List Int)) : Prop :=
  ∃ vs : List Value, w.ownsRow B0 26 1 v vs.length vs ∧ vs.length = xss.length ∧ ∀ j, j < vs.length → Ints w B1 (vs.getD j undef) (xss.getD j [])
theorem Tab.below {w w' : World} {B0 B1 : Nat} {v : Value} {xss : List (List Int)} (h : Tab w B0 B1 v xss) (hb : Below w.heap.size w w') : Tab w' B0 B1 v xss := by
  obtain ⟨vs, h1, h2, h3⟩ := h
  exact ⟨vs, own_below h1 hb, h2, fun j hj => (h3 j hj).below hb⟩
theorem Tab.own {w : World} {B0 B1 : Nat} {v : Value} {xss : List (List Int)} (h : Tab w B0 B1 v xss) (hb : B0 ≤ B1) : OwnG w B0 v xss := by
  obtain ⟨vs, h1, h2, h3⟩ := h
  exact ⟨vs, h1, h2, fun j hj => (h3 j hj).base hb⟩
theorem Tab.set {w : World} {B0 B1 Bs g n c : Nat} {v : Value} {xss : List (List Int)} {xs : List Int} (h : Tab w B0 B1 v xss) (hs : w.ownsRow Bs 3 1 (.slice (some ⟨g, 0, none⟩) n c) n (xs.map (Value.int .i64))) (hg : g < B1) (k : Nat) (y : Int) : Tab (w.setCell ⟨g, k, none⟩ (.int .i64 y)) B0 B1 v xss := by
  obtain ⟨vs, h1, h2, h3⟩ := h
  exact ⟨vs, own_set_other hs h1 (by decide) k _, h2, fun j hj => ownsRow_setCell_below (h3 j hj) hg _⟩
/-- append(s, row) of one row, where the rows lie above. -/
theorem app_row2 {ops : Array Oper} {rest : List Oper} {o : Oper} {a : Act} {Q : Exit → Act → World → Prop} {w : World} {B0 B1 : Nat} {v u : Value} {xss : List (List Int)} {ys : List Int}
    (hown : Tab w B0 B1 v xss) (hu : Ints w B1 u ys) (hlen : xss.length ≤ 1000000) (hB : B0 ≤ w.heap.size) (hgd : o.guard = none) (s x : Operand)
    (ho : o.op = .call { callee := .builtin .append, args := #[s, x], argTypes := #[39, 39] }) (hs : a.eval s = v) (hx : a.eval x = .slice (some ⟨w.heap.size, 0, none⟩) 1 1)
    (h : ∀ v' w', Tab w' B0 B1 v' (xss ++ [ys]) → Below B0 w w' → (∀ B u' zs, Ints w B u' zs → Ints w' B u' zs) → wpList Try.prog ops Q rest (a.put o.dst v') w') : wpList Try.prog ops Q (o :: rest) a (w.alloc (.cells #[u] 26)) := by
  obtain ⟨i0, hi, hz0, hz1, hz2⟩ := info_parts info26
  obtain ⟨vs, hv, hvl, hin⟩ := hown
  have hone : u.oneCell' = true := by obtain ⟨ao, c, rfl, _⟩ := hu.shape; rfl
  refine wpList_append_own _ hgd s x 39 ho B0 26 i0 (.slice none 0 0) 1 24 Try.underlying39 hi hz0 hz1 hz2 rfl (by decide) v vs.length vs hs (World.ownsRow.alloc hv _) ⟨w.heap.size, 0, none⟩ 1 1 [u] hx rfl (cell_one_new _ _ _) ?_ ?_ ?_ ?_ ?_
  · intro z hz; simp at hz; subst hz; exact hone
  · unfold maxLen; omega
  · omega
  · simp; omega
  · intro v' w' h2 h3 _
    have hkeep : ∀ B u' zs, Ints w B u' zs → Ints w' B u' zs := by
      intro B u' zs hz
      refine World.ownsRow.kept (World.ownsRow.alloc hz _) h3 ?_
      rcases hz.2 with ⟨rfl, _⟩ | ⟨g, cap, cur, rfl, _, hg, _⟩
      · exact .inl rfl
      · right
        intro e
        rcases hv.2 with ⟨rfl, _⟩ | ⟨g', cap', cur', rfl, _, hg', _⟩
        · simp [Value.ownBlock] at e
        · simp only [Value.ownBlock, Option.some.injEq] at e
          subst e
          rw [hg] at hg'
          simp at hg'
    refine h v' w' ⟨vs ++ [u], by simpa using h2, by simp [hvl], fun j hj => ?_⟩ ?_ hkeep
    · simp at hj
      by_cases e : j < vs.length
      · have := hkeep _ _ _ (hin j e)
        rw [List.getD_eq_getElem?_getD, List.getElem?_append_left e, ← List.getD_eq_getElem?_getD, List.getD_eq_getElem?_getD (l := xss ++ [ys]), List.getElem?_append_left (by omega), ← List.getD_eq_getElem?_getD]
        exact this
      · have : j = vs.length := by omega
        subst this
        have := hkeep _ _ _ hu
        rw [List.getD_eq_getElem?_getD, List.getElem?_append_right (Nat.le_refl _), List.getD_eq_getElem?_getD, List.getElem?_append_right (by omega), hvl]
        simpa using this
    · exact ((Below.refl B0 w).alloc hB _).grown h3 (by simp; omega) (fun k hk => (World.ownsRow.lt hv k hk).1)
theorem ints_slice {w : World} {B : Nat} {v : Value} {xs : List Int} (h : Ints w B v xs) : ∃ a n c, v = .slice a n c ∧ n = xs.length := by
  obtain ⟨a, c, e, _⟩ := h.shape
  exact ⟨a, _, c, e, rfl⟩
theorem take_set {α : Type} (t m : List α) (c : Nat) (h1 : c < t.length) (hl : m.length = t.length) (d : α) : (t.take (c + 1) ++ m.drop (c + 1)).set c (m.getD c d) = t.take c ++ m.drop c := by
  have hm : c < m.length := by omega
  rw [List.take_succ_eq_append_getElem h1, List.append_assoc, List.set_append_right _ _ (by rw [List.length_take]; omega)]
  rw [List.length_take, show c - min c t.length = 0 from by omega]
  show t.take c ++ (t[c] :: m.drop (c + 1)).set 0 _ = _
  rw [List.set_cons_zero, List.getD_eq_getElem?_getD, List.getElem?_eq_getElem hm]
  simp only [Option.getD_some]
  rw [List.drop_eq_getElem_cons hm]
theorem take_drop_at {t m : List Int} {c k : Nat} (hk : k < c) (h1 : c ≤ t.length) : (t.take c ++ m.drop c).getD k 0 = t.getD k 0 := by
  rw [List.getD_eq_getElem?_getD, List.getElem?_append_left (by rw [List.length_take]; omega), List.getElem?_take, if_pos hk, ← List.getD_eq_getElem?_getD]
theorem adv_set {rs : List (Int × Int)} {t : List Int} {c : Nat} (h1 : c < t.length) : (t.take (c + 1) ++ (minsR rs).drop (c + 1)).set c (t.getD c 0 + 1) = advR rs t c := by
  rw [List.take_succ_eq_append_getElem h1, List.append_assoc, List.set_append_right _ _ (by rw [List.length_take]; omega)]
  rw [List.length_take, show c - min c t.length = 0 from by omega]
  rfl

def AllEnd (w : World) (xss : List (List Int)) (e : Ending) (w' : World) : Prop := ∃ u, e = .returned u ∧ OwnG w' w.heap.size u xss ∧ Below w.heap.size w w'
theorem allL_app (s : Sh) (ts : List (List Int)) (t : List Int) {d : Bool} (hd : d = true ↔ Sched s fun i => t.getD i 0) : allL s (ts ++ [t]) = allL s ts ++ (if d then [t] else []) := by
  unfold allL
  rw [List.filter_append]
  congr 1
  classical
  have e : decide (Sched s fun i => t.getD i 0) = d := by
    cases d with
    | true => exact decide_eq_true (hd.1 rfl)
    | false => exact decide_eq_false fun h => by cases hd.2 h
  rw [List.filter_cons, List.filter_nil]
  show (if (_ : Bool) = true then [t] else []) = _
  simp only [decide_eq_true_eq]
  cases d with
  | true => rw [if_pos (hd.1 rfl)]; rfl
  | false => rw [if_neg fun h => by cases hd.2 h]; rfl
theorem ints_at0 {w : World} {B n c : Nat} {a : Option Addr} {xs : List Int} (h : Ints w B (.slice a n c) xs) (hn : xs ≠ []) : ∃ g, a = some ⟨g, 0, none⟩ ∧ B ≤ g ∧ g < w.heap.size := by
  rcases h.2 with ⟨_, h0⟩ | ⟨g, cap, cur, e, hB, hg, _⟩
  · exact absurd (List.length_eq_zero_iff.1 h0) hn
  · cases e
    exact ⟨g, rfl, hB, (Array.getElem?_eq_some_iff.1 hg).1⟩
theorem ints_len {w : World} {B n c : Nat} {a : Option Addr} {xs : List Int} (h : Ints w B (.slice a n c) xs) : n = xs.length := by
  obtain ⟨a', c', e, _⟩ := h.shape
  cases e; rfl
theorem ints_set {w : World} {B g n c : Nat} {xs : List Int} (h : Ints w B (.slice (some ⟨g, 0, none⟩) n c) xs) (k : Nat) (y : Int) : Ints (w.setCell ⟨g, k, none⟩ (.int .i64 y)) B (.slice (some ⟨g, 0, none⟩) n c) (xs.set k y) := by
  have hn := ints_len h
  subst hn
  unfold Ints at h ⊢
  rw [List.length_set, List.map_set]
  exact (h.stored k _).1
theorem tabSet {w : World} {B0 B1 Bs g n c : Nat} {v : Value} {xss : List (List Int)} {xs : List Int} (h : Tab w B0 B1 v xss) (hs : Ints w Bs (.slice (some ⟨g, 0, none⟩) n c) xs) (hg : g < B1) (k : Nat) (y : Int) : Tab (w.setCell ⟨g, k, none⟩ (.int .i64 y)) B0 B1 v xss := by
  have hn := ints_len hs
  subst hn
  exact h.set hs hg k y
theorem ints_frozen {w : World} {B g n c : Nat} {xs : List Int} (h : Ints w B (.slice (some ⟨g, 0, none⟩) n c) xs) (k : Nat) : w.frozen? ⟨g, k, none⟩ = false := by
  have hn := ints_len h
  subst hn
  exact World.ownsRow.frozenAt h k
theorem ints_cap {w : World} {B n c : Nat} {a : Option Addr} {xs : List Int} (h : Ints w B (.slice a n c) xs) : n ≤ c := by
  obtain ⟨a', c', e, hc, _⟩ := h.shape
  cases e; exact hc
theorem any_sched2 (s : Sh) (S : Nat → Int) : ∃ d : Bool, d = true ↔ Sched s S := by classical exact ⟨decide (Sched s S), by simp⟩
theorem allL_len (s : Sh) (ts : List (List Int)) : (allL s ts).length ≤ ts.length := List.length_filter_le _ _
set_option maxHeartbeats 8000000 in
set_option maxRecDepth 100000 in
theorem all23 {w : World} {v : Value} {s : Sh} (hs : Loose s) (hw : ∀ i, i < s.n → (s.job i).f ≤ lat (s.job i)) (h : ShV w v s.P s.js (osI s)) (hlen : (allT (rsOf s)).length ≤ 4096) : Calls Try.prog 23 #[v] w (AllEnd w (allL s (allT (rsOf s)))) := by
  have hsh0 := Lib.hid (fun (W : World) (hb : Below w.heap.size w W) => h.below hb)
  obtain ⟨jv, ov, rfl, rj, ro⟩ := h
  obtain ⟨ja, n, jc, rfl⟩ : ∃ a n c, jv = .slice a n c := by obtain ⟨a, c, e, _⟩ := rj; exact ⟨_, _, _, e⟩
  obtain ⟨oa, m, oc, rfl⟩ : ∃ a n c, ov = .slice a n c := by obtain ⟨a, c, e, _⟩ := ro; exact ⟨_, _, _, e⟩
  obtain rfl : n = s.n := by obtain ⟨a, c, e, _⟩ := rj; cases e; rfl
  obtain ⟨n, hn⟩ : ∃ n, n = s.n := ⟨_, rfl⟩
  rw [← hn] at rj hsh0 ⊢
  have h6 : 1 ≤ n ∧ n ≤ 6 := by rw [hn]; exact hs.num
  have hn' := Lib.hid hn
  have hs' := Lib.hid hs
  have hw' := Lib.hid hw
  have hrs := Lib.hid (rs_ok hw)
  have hlen' := Lib.hid hlen
  have hat := Lib.hid (fun (i : Nat) (hi : i < n) => rj.at' hi)
  have hb0 := Lib.hid (below_alloc1 w (.cells #[.int .i64 s.P, .slice ja n jc, .slice oa m oc] 25))
  have ht0 := Lib.hid (Three.new w (.int .i64 s.P) (.slice ja n jc) (.slice oa m oc) 25)
  obtain ⟨W0, hW0⟩ : ∃ W0, W0 = w.alloc (.cells #[.int .i64 s.P, .slice ja n jc, .slice oa m oc] 25) := ⟨_, rfl⟩
  have hz0 := Lib.hid (show w.heap.size < W0.heap.size by rw [hW0]; simp)
  have hz1 : W0.heap.size = w.heap.size + 1 := by rw [hW0]; simp
  clear rj ro hn hs hw hlen
  go_enter Try.func23, Try.ntmps23
  go_wp2_with fail
  rw [← hW0] at hb0 ht0 ⊢
  clear hW0
  obtain ⟨B0, hB0⟩ : ∃ B, B = W0.heap.size := ⟨_, rfl⟩
  have hlit := Lib.hid (Ints.lit (W0.alloc (.cells #[] 26)) (B0 + 1) (by rw [hB0]; simp))
  have htl := Lib.hid (show Tab (W0.alloc (.cells #[] 26)) B0 (B0 + 1) (.slice (some ⟨B0, 0, none⟩) 0 0) [] from by
    refine ⟨[], ?_, rfl, fun j hj => by simp at hj⟩
    rw [hB0]
    exact World.ownsRow_made W0 #[] 0 (Nat.le_refl _) (by unfold maxLen; omega) (by simp))
  obtain ⟨W1, hW1⟩ : ∃ W, W = (W0.alloc (.cells #[] 26)).alloc (.cells #[] 3) := ⟨_, rfl⟩
  have hb1 := Lib.hid (show Below B0 W0 W1 by rw [hW1, hB0]; exact (below_alloc1 W0 _).alloc (by simp) _)
  have hsz1 := Lib.hid (show B0 + 2 ≤ W1.heap.size by rw [hW1, hB0]; simp)
  have hI1 := Lib.hid (show Ints W1 (B0 + 1) (.slice (some ⟨B0 + 1, 0, none⟩) 0 0) [] from by
    have := hlit.out
    rw [hW1]
    rw [World.size_alloc, ← hB0] at this
    exact this)
  have hT1 := Lib.hid (show Tab W1 B0 (B0 + 1) (.slice (some ⟨B0, 0, none⟩) 0 0) [] from by rw [hW1]; exact htl.out.below (below_alloc1 _ _))
  have hB0' := Lib.hid hB0
  rw [← hW1, show w.heap.size + 1 = B0 by rw [hB0, hz1]]
  clear hW1 hlit htl hz1
  clear hB0
  go_loopw [4, 5] (fun sv iv wr => ∃ i : Nat, i ≤ n ∧ iv = .int .i64 i ∧ Hid (Ints wr (B0 + 1) sv ((minsR (rsOf s)).take i)) ∧ Hid (Below (B0 + 1) W1 wr)) (fun _ iv _ => n - (intOf iv).toNat)
  case atStart => exact ⟨0, Nat.zero_le _, rfl, hI1, Lib.hid (Below.refl _ _)⟩
  case round =>
    clear hI1
    obtain ⟨i, hi, rfl, hI, hB⟩ := hrel
    obtain ⟨wi, rfl⟩ : ∃ X : World, X = wr := ⟨_, rfl⟩
    have hB00 := Lib.hid (show Below W0.heap.size W0 wi by rw [← hB0'.out]; exact hb1.out.trans (hB.out.mono (Nat.le_succ _)))
    obtain ⟨⟨y0, y1, y2⟩, -⟩ := ht0.out.keep hB00.out hz0.out
    have hil : ((minsR (rsOf s)).take i).length = i := by rw [List.length_take, mins_len, ← hn'.out]; omega
    obtain ⟨za, zn, zc, rfl, hzn⟩ := ints_slice hI.out
    rw [hil] at hzn
    have hzn := hzn.symm
    subst hzn
    have hil' := Lib.hid hil
    clear hil
    by_cases hin : i < n
    · obtain ⟨g, rfl, hg, d0, -, -, -⟩ := hat.out i hin
      have d0 := ((hb0.out.trans (hB00.out.mono (Nat.le_of_lt hz0.out))).cell (p := ⟨g, i * 4, none⟩) hg).trans d0
      have hnx := Lib.hid (show (minsR (rsOf s)).take (i + 1) = (minsR (rsOf s)).take i ++ [(s.job i).f] from by
        have hi' : i < (minsR (rsOf s)).length := by rw [mins_len, ← hn'.out]; exact hin
        rw [List.take_succ_eq_append_getElem hi']
        congr 2
        rw [← mins_at s (by rw [← hn'.out]; exact hin), List.getD_eq_getElem?_getD, List.getElem?_eq_getElem hi']; rfl)
      rw [show (s.js.getD i J0).f = (s.job i).f from rfl] at d0
      obtain ⟨f, hf⟩ : ∃ f, f = (s.job i).f := ⟨_, rfl⟩
      rw [← hf] at d0 hnx
      have hin' : (i : Int) < (n : Int) := by omega
      clear hf
      go_wp2_with (at_builtin; refine app_int hI.out (by rw [hil'.out]; omega) (by have := hB.out.size; have := hsz1.out; omega) rfl _ _ rfl rfl rfl ?_; intro v5 w5 hI5 hb5; have hI5' := Lib.hid (show Ints w5 (B0 + 1) v5 ((minsR (rsOf s)).take (i + 1)) from by rw [hnx.out]; exact hI5); have hb5' := Lib.hid (hB.out.trans hb5); clear hI5 hb5)
      exact ⟨⟨i + 1, by omega, by go_num, hI5', hb5'⟩, by simp [intOf]; omega⟩
    · obtain rfl : i = n := by omega
      rw [show (minsR (rsOf s)).take i = minsR (rsOf s) from List.take_of_length_le (by rw [mins_len, ← hn'.out]; exact Nat.le_refl _)] at hI hil'
      clear hin hi
      go_wp2_with fail
      have hne : minsR (rsOf s) ≠ [] := fun e => by have := hil'.out; rw [e] at this; simp at this; omega
      obtain ⟨g, rfl, hg1, hg2⟩ := ints_at0 hI.out hne
      obtain ⟨B1, hB1⟩ : ∃ B, B = wi.heap.size := ⟨_, rfl⟩
      have hgB := Lib.hid (show g < B1 by rw [hB1]; exact hg2)
      have hT2 := Lib.hid (show Tab wi B0 B1 (.slice (some ⟨B0, 0, none⟩) 0 0) (allL s []) from by
        obtain ⟨vs, h1, h2, h3⟩ := hT1.out
        have hvs : vs = [] := List.length_eq_zero_iff.1 h2
        subst hvs
        refine ⟨[], ⟨h1.1, ?_⟩, rfl, fun j hj => by simp at hj⟩
        rcases h1.2 with ⟨e, _⟩ | ⟨gx, cap, cur, e, q1, q2, q3⟩
        · cases e
        · have e' : gx = B0 := by injection e with e; injection e with e; injection e with e; exact e.symm
          subst e'
          exact .inr ⟨gx, cap, cur, e, q1, by rw [hB.out.block gx (Nat.lt_succ_self _)]; exact q2, q3⟩)
      have hB2 := Lib.hid (show Below B0 W1 wi from hB.out.mono (Nat.le_succ _))
      have hB1' := Lib.hid (show B1 ≤ wi.heap.size by rw [hB1]; exact Nat.le_refl _)
      clear hB1 hg2 hT1 hne
      go_loopg [3] (allT (rsOf s)).length (fun k ov wr => ∃ t dn, Hid (Within (rsOf s) t) ∧ Hid (allT (rsOf s) = dn ++ fromT (rsOf s) t) ∧ Hid (k = (fromT (rsOf s) t).length) ∧ Hid (Tab wr B0 B1 ov (allL s dn)) ∧ Hid (Ints wr (B0 + 1) (.slice (some ⟨g, 0, none⟩) i zc) t) ∧ Hid (Below B0 W1 wr) ∧ Hid (B1 ≤ wr.heap.size))
      case atStart => exact ⟨minsR (rsOf s), [], Lib.hid (within_mins _ hrs.out), Lib.hid rfl, Lib.hid rfl, hT2, hI, hB2, hB1'⟩
      case round =>
        clear hI hT2 hB2 hB1'
        obtain ⟨t, dn, hwi, hall, hk, hT, hI, hB2, hB1'⟩ := hrel
        obtain ⟨wl, rfl⟩ : ∃ X : World, X = wr := ⟨_, rfl⟩
        have htl := Lib.hid (show t.length = i from by rw [within_len hwi.out, rsOf_len, ← hn'.out])
        have hB00 := Lib.hid (show Below W0.heap.size W0 wl by rw [← hB0'.out]; exact hb1.out.trans hB2.out)
        have hBw := Lib.hid (hb0.out.trans (hB00.out.mono (Nat.le_of_lt hz0.out)))
        obtain ⟨⟨y0, y1, y2⟩, -⟩ := ht0.out.keep hB00.out hz0.out
        obtain ⟨d0, hd0⟩ := any_sched2 s (fun k => t.getD k 0)
        have hcall := Lib.hid (refFitsOk hs'.out (hsh0.out wl hBw.out) hI.out.shape (htl.out.trans hn'.out) hd0)
        have happ := Lib.hid (allL_app s dn t hd0)
        have hdl := Lib.hid (show (allL s dn).length ≤ 1000000 from by
          have h1 := allL_len s dn
          have h2 : dn.length ≤ (allT (rsOf s)).length := by rw [hall.out, List.length_append]; omega
          have := hlen'.out
          omega)
        clear hd0
        go_upto_if 27 with (go_at_call 19; refine hcall.out.mono ?_; rintro e w5 ⟨rfl, hb5⟩; have hb5' := Lib.hid hb5; clear hb5)
        have hT5 := Lib.hid (hT.out.below hb5'.out)
        have hI5 := Lib.hid (hI.out.below hb5'.out)
        have hB5 := Lib.hid (below_seq hB2.out hb5'.out (by have := hB2.out.size; have := hsz1.out; omega))
        have hs5 := Lib.hid (Nat.le_trans hB1'.out hb5'.out.size)
        have hs50 := Lib.hid (show B0 ≤ w5.heap.size from by have := hB5.out.size; have := hsz1.out; omega)
        go_cut [3] from 28 to 33 (fun ov wx => ∃ w6 : World, w6 = wx ∧ Hid (Tab w6 B0 B1 ov (allL s (dn ++ [t]))) ∧ Hid (Ints w6 (B0 + 1) (.slice (some ⟨g, 0, none⟩) i zc) t) ∧ Hid (Below B0 W1 w6) ∧ Hid (B1 ≤ w6.heap.size))
        case first =>
          clear y0 y1 y2
          cases d0 with
          | false =>
            have hTe := Lib.hid (show allL s (dn ++ [t]) = allL s dn from by rw [happ.out]; simp)
            go_wp2_with fail
            go_meet
            exact ⟨_, rfl, by rw [hTe.out]; exact hT5, hI5, hB5, hs5⟩
          | true =>
            have hlit := Lib.hid (Ints.lit w5 w5.heap.size (Nat.le_refl _))
            have hal := Lib.hid (below_alloc1 w5 (.cells #[] 3))
            have hrd := Lib.hid ((hI5.out.below hal.out).shape)
            go_wp2_with (
              first
              | (at_builtin; refine app_ints hlit.out hrd.out (.inr ⟨_, _, _, rfl⟩) (by rw [htl.out]; simp; omega) (by simp) rfl _ _ rfl rfl rfl ?_; intro v2 w2 hown2 hb2
                 have hb52 := Lib.hid (hal.out.trans hb2)
                 have hown2' := Lib.hid (show Ints w2 w5.heap.size v2 t from by simpa using hown2)
                 obtain ⟨a2, n2, c2, rfl, -⟩ := ints_slice hown2
                 clear hown2 hb2)
              | (at_builtin; refine app_row2 (hT5.out.below hb52.out) (hown2'.out.base hs5.out) hdl.out (Nat.le_trans hs50.out hb52.out.size) rfl _ _ rfl rfl rfl ?_; intro v3 w3 hT3 hb3 hk3
                 have hT3' := Lib.hid (show Tab w3 B0 B1 v3 (allL s (dn ++ [t])) from by rw [happ.out]; exact hT3)
                 have hI3 := Lib.hid (hk3 _ _ _ (hI5.out.below hb52.out))
                 have hb3' := Lib.hid hb3
                 clear hT3 hb3 hk3))
            go_meet
            exact ⟨_, rfl, hT3', hI3, Lib.hid ((hB5.out.trans (hb52.out.mono hs50.out)).trans hb3'.out), Lib.hid (Nat.le_trans (Nat.le_trans hs5.out hb52.out.size) hb3'.out.size)⟩
        case rest =>
          obtain ⟨w6, rfl, hT6, hI6, hB6, hs6⟩ := hcut
          clear hT5 hI5 hB5 hs5 hs50 hcall happ y0 y1 y2 hb5' hT hI hB2 hB1' hBw hB00
          have si : IntKind.i64.wrap ((i : Int) - 1) = (i : Int) - 1 := IntWalk.i64_in _ (by omega)
          have hst := Lib.hid (show t.take i ++ (minsR (rsOf s)).drop i = t from by rw [List.take_of_length_le (by rw [htl.out]; exact Nat.le_refl _), List.drop_of_length_le (by rw [mins_len, ← hn'.out]; exact Nat.le_refl _), List.append_nil])
          go_wp2_with fail
          go_loopw [6] (fun iv wr => ∃ c : Nat, ∃ z : Int, c ≤ i ∧ iv = .int .i64 z ∧ z = (c : Int) - 1 ∧ Hid (Tab wr B0 B1 u3 (allL s (dn ++ [t]))) ∧ Hid (Ints wr (B0 + 1) (.slice (some ⟨g, 0, none⟩) i zc) (t.take c ++ (minsR (rsOf s)).drop c)) ∧ Hid (∀ k, c ≤ k → k < i → t.getD k 0 = ((rsOf s).getD k (0, 0)).2) ∧ Hid (Below B0 W1 wr) ∧ Hid (B1 ≤ wr.heap.size)) (fun iv _ => (intOf iv + 1).toNat)
          case atStart => exact ⟨i, _, Nat.le_refl _, rfl, rfl, hT6, by rw [hst.out]; exact hI6, Lib.hid (fun k h1 h2 => by omega), hB6, hs6⟩
          case round =>
            clear hT6 hI6 hB6 hs6 si
            obtain ⟨c, z, hc, rfl, hz, hT7, hI7, hmax, hB7, hs7⟩ := hrel
            obtain ⟨w7, rfl⟩ : ∃ X : World, X = wr := ⟨_, rfl⟩
            have hB00 := Lib.hid (show Below W0.heap.size W0 w7 by rw [← hB0'.out]; exact hb1.out.trans hB7.out)
            have hBw := Lib.hid (hb0.out.trans (hB00.out.mono (Nat.le_of_lt hz0.out)))
            obtain ⟨⟨y0, y1, y2⟩, -⟩ := ht0.out.keep hB00.out hz0.out
            cases c with
            | zero =>
              have hz2 : z = -1 := by omega
              clear hz
              subst hz2
              have hfin := Lib.hid (show AllEnd w (allL s (allT (rsOf s))) (.returned u3) w7 from by
                have e : fromT (rsOf s) t = [t] := fromT_last hwi.out (fun k hk => hmax.out k (Nat.zero_le _) (by rw [rsOf_len, ← hn'.out] at hk; exact hk))
                rw [hall.out, e]
                refine ⟨_, rfl, (hT7.out.own ?_).base ?_, hBw.out⟩
                · have := hgB.out; omega
                · have := hz0.out; have h2 := hB0'.out; omega)
              clear hmax hT7 hI7
              go_wp2_with fail
              go_quiet (fail)
              go_wp2_with fail
              go_ret
              obtain ⟨u, e, h1, h2⟩ := hfin.out
              cases e
              exact ⟨_, rfl, h1.below (below_drewN (Below.refl _ _) _), below_drewN h2 _⟩
            | succ c =>
              have hz2 : z = (c : Int) := by omega
              clear hz
              subst hz2
              have hcl : c < t.length := by rw [htl.out]; omega
              have hcn : c < i := by omega
              have hrow := hI7.out
              have hat7 := hI7.out.shape
              obtain ⟨g', o', e', hg', hcell⟩ := hat7.at (by rw [List.length_append, List.length_take, List.length_drop, mins_len, ← hn'.out, htl.out]; omega) hcn
              cases e'
              have c0 := hcell c hcn
              rw [take_drop_at (Nat.lt_succ_self c) hcl, Nat.zero_add] at c0
              obtain ⟨gq, rfl, hgq, k0, k1, k2, -⟩ := hat.out c hcn
              have d0' := (hBw.out.cell (p := ⟨gq, c * 4, none⟩) hgq).trans k0
              have d1 := (hBw.out.cell (p := ⟨gq, c * 4 + 1, none⟩) hgq).trans k1
              have d2 := (hBw.out.cell (p := ⟨gq, c * 4 + 2, none⟩) hgq).trans k2
              have hjy := hs'.out.jobs c (by rw [← hn'.out]; exact hcn)
              have hrr := rsOf_at s (show c < s.n by rw [← hn'.out]; exact hcn)
              have hwa := within_at hwi.out c (by rw [rsOf_len, ← hn'.out]; exact hcn)
              have hmn := mins_at s (show c < s.n by rw [← hn'.out]; exact hcn)
              rw [hrr] at hwa
              have hset := Lib.hid (fun (W : World) (hb : Below w7.heap.size w7 W) (y : Int) => ints_set (hI7.out.below hb) c y)
              have hTs := Lib.hid (fun (W : World) (hb : Below w7.heap.size w7 W) (y : Int) => tabSet (hT7.out.below hb) (hI7.out.below hb) hgB.out c y)
              have hfz := Lib.hid (fun (W : World) (hb : Below w7.heap.size w7 W) => (show W.frozen? ⟨g, c, none⟩ = false from ints_frozen (hI7.out.below hb) c))
              have hmn' := Lib.hid hmn
              have hg10 := Lib.hid (show B0 ≤ g by omega)
              obtain ⟨⟨f, tt, l, pp⟩, hjq⟩ : ∃ x, x = s.js.getD c J0 := ⟨_, rfl⟩
              rw [show s.job c = s.js.getD c J0 from rfl] at hjy hrr hwa hmn'
              rw [← hjq] at d0' d1 d2 hjy hrr hwa hmn'
              unfold lat at hrr hwa
              simp only at d0' d1 d2 hjy hrr hwa hmn'
              have hrr' := Lib.hid hrr
              obtain ⟨x, hx⟩ : ∃ x, x = t.getD c 0 := ⟨_, rfl⟩
              rw [← hx] at c0 hwa
              have hx' := Lib.hid hx
              have hcn' : (c : Int) < (i : Int) := by omega
              have s1 : IntKind.i64.wrap (tt - l) = tt - l := IntWalk.i64_in _ (by omega)
              have hcc : c < zc := by have := ints_cap hI7.out; omega
              have hgw := Lib.hid hg'
              have hgqw := Lib.hid (Nat.lt_of_lt_of_le hgq hBw.out.size)
              have hw0 := Lib.hid (show w.heap.size < w7.heap.size from Nat.lt_of_lt_of_le hz0.out hB00.out.size)
              have s2 : IntKind.i64.wrap ((c : Int) - 1) = (c : Int) - 1 := IntWalk.i64_in _ (by omega)
              clear hjq hx hrr k0 k1 k2 hrow hat7 hcell hg' hmn
              by_cases hxe : x = tt - l
              · have hxb : (x == tt - l) = true := by simpa using hxe
                have hxe' := Lib.hid hxe
                clear hxe
                go_wp2_with fail
                go_quiet (fail)
                have hbd := Lib.hid (below_drewN (Below.refl w7.heap.size w7) nq)
                obtain ⟨w8, hw8⟩ : ∃ X, X = w7.drewN nq := ⟨_, rfl⟩
                rw [← hw8] at hbd ⊢
                have y0' := (hbd.out.cell (p := ⟨w.heap.size, 0, none⟩) hw0.out).trans y0
                have y1' := (hbd.out.cell (p := ⟨w.heap.size, 1, none⟩) hw0.out).trans y1
                have c0' := (hbd.out.cell (p := ⟨g, c, none⟩) hgw.out).trans c0
                have e0' := (hbd.out.cell (p := ⟨gq, c * 4, none⟩) hgqw.out).trans d0'
                have fz := hfz.out w8 hbd.out
                have hI8 := Lib.hid (show Ints (w8.setCell ⟨g, c, none⟩ (.int .i64 f)) (B0 + 1) (.slice (some ⟨g, 0, none⟩) i zc) (t.take c ++ (minsR (rsOf s)).drop c) from by
                  have h := hset.out w8 hbd.out ((minsR (rsOf s)).getD c 0)
                  rw [take_set _ _ _ hcl (by rw [mins_len, htl.out, hn'.out])] at h
                  rw [hmn'.out] at h
                  exact h)
                have hT8 := Lib.hid (hTs.out w8 hbd.out f)
                have hB8 := Lib.hid (below_set (k := c) (u := .int .i64 f) (hB7.out.trans (hbd.out.mono (Nat.le_trans (Nat.le_trans (Nat.le_add_right B0 2) hsz1.out) hB7.out.size))) hg10.out)
                have hs8 := Lib.hid (show B1 ≤ (w8.setCell ⟨g, c, none⟩ (.int .i64 f)).heap.size by rw [World.size_setCell]; exact Nat.le_trans hs7.out hbd.out.size)
                have hmax8 := Lib.hid (show ∀ k, c ≤ k → k < i → t.getD k 0 = ((rsOf s).getD k (0, 0)).2 from fun k h1 h2 => by
                  by_cases e : k = c
                  · subst e; rw [← hx'.out, hrr'.out]; exact hxe'.out
                  · exact hmax.out k (by omega) h2)
                clear hw8 y0 y1 y2 c0 d0' d1 d2
                go_wp2_with fail
                exact ⟨⟨c, _, by omega, rfl, rfl, hT8, hI8, hmax8, hB8, hs8⟩, by simp [intOf]⟩
              · have hxb : (x == tt - l) = false := by simpa using hxe
                have hxe' := Lib.hid (show x < tt - l by omega)
                clear hxe
                go_wp2_with fail
                go_quiet (fail)
                have hbd := Lib.hid (below_drewN (Below.refl w7.heap.size w7) nq)
                obtain ⟨w8, hw8⟩ : ∃ X, X = w7.drewN nq := ⟨_, rfl⟩
                rw [← hw8] at hbd ⊢
                have c0' := (hbd.out.cell (p := ⟨g, c, none⟩) hgw.out).trans c0
                have fz := hfz.out w8 hbd.out
                have s3 : IntKind.i64.wrap (x + 1) = x + 1 := IntWalk.i64_in _ (by omega)
                have hI8 := Lib.hid (show Ints (w8.setCell ⟨g, c, none⟩ (.int .i64 (x + 1))) (B0 + 1) (.slice (some ⟨g, 0, none⟩) i zc) (advR (rsOf s) t c) from by
                  have h := hset.out w8 hbd.out (x + 1)
                  rw [hx'.out, adv_set hcl] at h
                  rw [hx'.out]
                  exact h)
                have hT8 := Lib.hid (hTs.out w8 hbd.out (x + 1))
                have hB8 := Lib.hid (below_set (k := c) (u := .int .i64 (x + 1)) (hB7.out.trans (hbd.out.mono (Nat.le_trans (Nat.le_trans (Nat.le_add_right B0 2) hsz1.out) hB7.out.size))) hg10.out)
                have hs8 := Lib.hid (show B1 ≤ (w8.setCell ⟨g, c, none⟩ (.int .i64 (x + 1))).heap.size by rw [World.size_setCell]; exact Nat.le_trans hs7.out hbd.out.size)
                have hcr : c < (rsOf s).length := by rw [rsOf_len, ← hn'.out]; exact hcn
                have hlt : t.getD c 0 < ((rsOf s).getD c (0, 0)).2 := by rw [← hx'.out, hrr'.out]; exact hxe'.out
                have hstep := Lib.hid (fromT_step c hwi.out hcr hlt (fun k h1 h2 => hmax.out k h1 (by rw [rsOf_len, ← hn'.out] at h2; exact h2)))
                have hwi8 := Lib.hid (adv_within c hrs.out hwi.out hcr hlt)
                have hall8 := Lib.hid (show allT (rsOf s) = (dn ++ [t]) ++ fromT (rsOf s) (advR (rsOf s) t c) by rw [hall.out, hstep.out, List.append_assoc]; rfl)
                clear hw8 y0 y1 y2 c0 d0' d1 d2 hlt hcr
                go_wp2_with fail
                go_roundg (fromT (rsOf s) (advR (rsOf s) t c)).length
                case measure => rw [hk.out, hstep.out]; simp
                case rel => exact ⟨_, _, hwi8, hall8, Lib.hid rfl, hT8, hI8, hB8, hs8⟩

/-! How many starts there are, up to a number. -/
def waysM (M : Int) (js : List J) : Nat → Int
  | 0 => 1
  | n + 1 => min M (waysM M js n * (lat (js.getD n J0) - (js.getD n J0).f + 1))
def prodL : List J → Int
  | [] => 1
  | j :: js => (lat j - j.f + 1) * prodL js
theorem prodL_app : ∀ (a b : List J), prodL (a ++ b) = prodL a * prodL b
  | [], b => by simp [prodL]
  | j :: a, b => by rw [List.cons_append, prodL, prodL, prodL_app a b, Int.mul_assoc]
theorem prodL_pos : ∀ (js : List J), (∀ j ∈ js, j.f ≤ lat j) → 1 ≤ prodL js
  | [], _ => by simp [prodL]
  | j :: js, h => by
    have h1 := prodL_pos js fun x hx => h x (List.mem_cons_of_mem _ hx)
    have h2 := h j (List.mem_cons_self ..)
    have := Int.mul_le_mul (show 1 ≤ lat j - j.f + 1 by omega) h1 (by omega) (by omega)
    rw [prodL]
    omega
theorem min_mul {M p c : Int} (hM : 1 ≤ M) (hp : 1 ≤ p) (hc : 1 ≤ c) : min M (min M p * c) = min M (p * c) := by
  by_cases h : p ≤ M
  · rw [show min M p = p from by omega]
  · rw [show min M p = M from by omega]
    have h1 : M * 1 ≤ M * c := Int.mul_le_mul_of_nonneg_left hc (by omega)
    have h2 : p * 1 ≤ p * c := Int.mul_le_mul_of_nonneg_left hc (by omega)
    omega
theorem waysM_eq {M : Int} (hM : 1 ≤ M) {js : List J} (h : ∀ j ∈ js, j.f ≤ lat j) : ∀ n, n ≤ js.length → waysM M js n = min M (prodL (js.take n))
  | 0, _ => by simp [waysM, prodL]; omega
  | n + 1, hn => by
    have hn' : n < js.length := by omega
    rw [waysM, waysM_eq hM h n (by omega), List.take_succ_eq_append_getElem hn', prodL_app]
    have e : js.getD n J0 = js[n] := by rw [List.getD_eq_getElem?_getD, List.getElem?_eq_getElem hn']; rfl
    have hj := h _ (List.getElem_mem hn')
    rw [e, min_mul hM (prodL_pos _ fun x hx => h x (List.mem_of_mem_take hx)) (by omega)]
    simp [prodL]
theorem allT_prod : ∀ js : List J, (js.map fun j => (j.f, lat j)).map (fun r => r.2 - r.1 + 1) |>.foldr (· * ·) 1 |> (· = prodL js)
  | [] => rfl
  | j :: js => by
    have := allT_prod js
    simp only [List.map_cons, List.foldr_cons, prodL] at this ⊢
    rw [this]
theorem ways_len {s : Sh} (hw : ∀ i, i < s.n → (s.job i).f ≤ lat (s.job i)) : ((allT (rsOf s)).length : Int) = prodL s.js := by
  rw [allT_len _ (rs_ok hw)]
  exact allT_prod s.js
theorem jobs_ok {s : Sh} (hw : ∀ i, i < s.n → (s.job i).f ≤ lat (s.job i)) : ∀ j ∈ s.js, j.f ≤ lat j := fun j hj => by
  obtain ⟨i, hi, rfl⟩ := List.mem_iff_getElem.1 hj
  have := hw i hi
  unfold Sh.job at this
  rw [List.getD_eq_getElem?_getD, List.getElem?_eq_getElem hi] at this
  exact this
theorem ways_few {s : Sh} (hw : ∀ i, i < s.n → (s.job i).f ≤ lat (s.job i)) (h : waysM 4097 s.js s.js.length ≤ 4096) : (allT (rsOf s)).length ≤ 4096 := by
  rw [waysM_eq (by omega) (jobs_ok hw) _ (Nat.le_refl _), List.take_length] at h
  have := ways_len hw
  omega
theorem waysM_in {js : List J} (h : ∀ i, i < js.length → JobIn (js.getD i J0) ∧ (js.getD i J0).f ≤ lat (js.getD i J0)) : ∀ n, n ≤ js.length → 1 ≤ waysM 4097 js n ∧ waysM 4097 js n ≤ 4097
  | 0, _ => by simp [waysM]
  | n + 1, hn => by
    have ih := waysM_in h n (by omega)
    obtain ⟨h1, h2⟩ := h n (by omega)
    have := Int.mul_le_mul ih.1 (show 1 ≤ lat (js.getD n J0) - (js.getD n J0).f + 1 by omega) (by omega) (by omega)
    rw [waysM]
    omega
theorem run_min2' {P : Program} {w : World} (ts : Array TypeId) (t : TypeId) (a b m : Int) (hm : m = min a b) : (Builtin.min_ ts t #[.int .i64 a, .int .i64 b]).run P w = .ok (.int .i64 m) w := by
  have e : (if b < a then b else a) = m := by rw [hm]; split <;> omega
  have h : (Builtin.min_ ts t #[.int .i64 a, .int .i64 b]).run P w = .ok (.int .i64 (if b < a then b else a)) w := by
    simp [Builtin.min_, Builtin.min2]
  rw [h, e]
set_option maxHeartbeats 8000000 in
set_option maxRecDepth 100000 in
theorem ways20 {w : World} {v : Value} {P : Int} {js : List J} {os : List (Int × Int)} (h : ShV w v P js os) (h7 : js.length ≤ 7) (hj : ∀ i, i < js.length → JobIn (js.getD i J0) ∧ (js.getD i J0).f ≤ lat (js.getD i J0)) {N : Int} (hN : N = waysM 4097 js js.length) :
    Calls Try.prog 20 #[v, .int .i64 4097] w fun e w' => e = .returned (.int .i64 N) ∧ Below w.heap.size w w' := by
  obtain ⟨jv, ov, rfl, rj, ro⟩ := h
  obtain ⟨ja, n, jc, rfl⟩ : ∃ a n c, jv = .slice a n c := by obtain ⟨a, c, e, _⟩ := rj; exact ⟨_, _, _, e⟩
  obtain ⟨oa, m, oc, rfl⟩ : ∃ a n c, ov = .slice a n c := by obtain ⟨a, c, e, _⟩ := ro; exact ⟨_, _, _, e⟩
  obtain rfl : n = js.length := by obtain ⟨a, c, e, _⟩ := rj; cases e; rfl
  obtain ⟨n, hn⟩ : ∃ n, n = js.length := ⟨_, rfl⟩
  have hin0 := Lib.hid (waysM_in hj)
  rw [← hn] at rj h7 hj hN hin0 ⊢
  have hb0 := Lib.hid (below_alloc1 w (.cells #[.int .i64 P, .slice ja n jc, .slice oa m oc] 25))
  have ht0 := Lib.hid (Three.new w (.int .i64 P) (.slice ja n jc) (.slice oa m oc) 25)
  obtain ⟨W0, hW0⟩ : ∃ W0, W0 = w.alloc (.cells #[.int .i64 P, .slice ja n jc, .slice oa m oc] 25) := ⟨_, rfl⟩
  have hz0 := Lib.hid (show w.heap.size < W0.heap.size by rw [hW0]; simp)
  have hat := Lib.hid (fun (i : Nat) (hi : i < n) => rj.at' hi)
  have hj' := Lib.hid hj
  have hN' := Lib.hid hN
  clear rj ro hj hN hn
  go_enter Try.func20, Try.ntmps20
  go_wp2_with fail
  rw [← hW0] at hb0 ht0 ⊢
  clear hW0
  go_loopw [5, 6] (fun ev iv wr => ∃ i : Nat, i ≤ n ∧ iv = .int .i64 i ∧ ev = .int .i64 (waysM 4097 js i) ∧ Hid (Below W0.heap.size W0 wr)) (fun _ iv _ => n - (intOf iv).toNat)
  case atStart => exact ⟨0, Nat.zero_le _, rfl, rfl, Lib.hid (Below.refl _ _)⟩
  case round =>
    obtain ⟨i, hi, rfl, rfl, hB⟩ := hrel
    obtain ⟨wi, rfl⟩ : ∃ wi : World, wi = wr := ⟨_, rfl⟩
    have hBw := Lib.hid (hb0.out.trans (hB.out.mono (Nat.le_of_lt hz0.out)))
    obtain ⟨⟨y0, y1, y2⟩, -⟩ := ht0.out.keep hB.out hz0.out
    have hin2 := hin0.out i hi
    by_cases hin : i < n
    · obtain ⟨g, rfl, hg, k0, k1, k2, -⟩ := hat.out i hin
      have d0 := (hBw.out.cell (p := ⟨g, i * 4, none⟩) hg).trans k0
      have d1 := (hBw.out.cell (p := ⟨g, i * 4 + 1, none⟩) hg).trans k1
      have d2 := (hBw.out.cell (p := ⟨g, i * 4 + 2, none⟩) hg).trans k2
      obtain ⟨hjx, hjw⟩ := hj'.out i hin
      have hnx : waysM 4097 js (i + 1) = min 4097 (waysM 4097 js i * (lat (js.getD i J0) - (js.getD i J0).f + 1)) := rfl
      obtain ⟨⟨f, t, l, p⟩, hjq⟩ : ∃ x, x = js.getD i J0 := ⟨_, rfl⟩
      rw [← hjq] at d0 d1 d2 hjx hjw hnx
      unfold JobIn at hjx
      unfold lat at hjw hnx
      simp only at d0 d1 d2 hjx hjw hnx
      obtain ⟨z, hz⟩ : ∃ z, z = waysM 4097 js i := ⟨_, rfl⟩
      rw [← hz] at hin2 hnx ⊢
      obtain ⟨c, hc⟩ : ∃ c, c = t - l - f + 1 := ⟨_, rfl⟩
      rw [← hc] at hnx
      have hc25 : 1 ≤ c ∧ c ≤ 25 := by omega
      have hzc : 0 ≤ z * c ∧ z * c ≤ 4097 * 25 := ⟨Int.mul_nonneg (by omega) (by omega), Int.mul_le_mul hin2.2 hc25.2 (by omega) (by omega)⟩
      obtain ⟨y, hy⟩ : ∃ y, y = z * c := ⟨_, rfl⟩
      rw [← hy] at hzc hnx
      obtain ⟨mm, hmm⟩ : ∃ x, x = min 4097 y := ⟨_, rfl⟩
      have hmin := fun (W : World) => run_min2' (P := Try.prog) (w := W) #[3, 3] 3 4097 y mm hmm
      have hmt : (if y < 4097 then y else 4097) = mm := by rw [hmm]; split <;> omega
      have hmt2 : min 4097 y = mm := hmm.symm
      have hnx' := Lib.hid (show mm = waysM 4097 js (i + 1) by rw [hmm, hnx])
      have s1 : IntKind.i64.wrap (t - l) = t - l := IntWalk.i64_in _ (by omega)
      have s2 : IntKind.i64.wrap (t - l - f) = t - l - f := IntWalk.i64_in _ (by omega)
      have s3 : IntKind.i64.wrap (t - l - f + 1) = c := by rw [hc]; exact IntWalk.i64_in _ (by omega)
      have s4 : IntKind.i64.wrap (z * c) = y := by rw [hy]; exact IntWalk.i64_in _ (by rw [← hy]; omega)
      have hin' : (i : Int) < (n : Int) := by omega
      have hmt' := Lib.hid hmt
      clear k0 k1 k2 hjq hz hc hy hmm hnx hmt hmt2
      go_wp2_with fail
      go_quiet (fail)
      try rw [hmt'.out]
      go_wp2_with fail
      exact ⟨⟨i + 1, by omega, by go_num, int_eq hnx'.out, Lib.hid (below_drewN hB.out _)⟩, by simp [intOf]; omega⟩
    · obtain rfl : i = n := by omega
      rw [← hN'.out] at hin2 ⊢
      go_wp2_with fail
      go_ret
      exact ⟨rfl, hBw.out⟩

/-! ## The reference's shortest schedule -/
theorem sched_list {s : Sh} (hs : Loose s) {S T : Nat → Int} (h : ∀ i, i < s.n → S i = T i) (hS : Sched s S) : Sched s T :=
  ⟨fun i hi => by rw [← h i hi]; exact hS.range i hi, fun t h0 h1 => by
    have := hS.load t h0 h1
    have e : loadAt s T t = loadAt s S t := sm_congr _ fun i hi => by rw [h i hi]
    rw [e]; exact this, fun o ho => by
    obtain ⟨o1, o2, _⟩ := hs.orders o ho
    rw [← h _ o1, ← h _ o2]; exact hS.order o ho⟩
theorem mem_allL {s : Sh} (hw : ∀ i, i < s.n → (s.job i).f ≤ lat (s.job i)) {t : List Int} : t ∈ allL s (allT (rsOf s)) ↔ t.length = s.n ∧ Sched s fun i => t.getD i 0 := by
  unfold allL
  rw [List.mem_filter]
  classical
  constructor
  · rintro ⟨h1, h2⟩
    exact ⟨by rw [within_len (mem_fromT (rs_ok hw) (within_mins _ (rs_ok hw)) h1), rsOf_len], of_decide_eq_true h2⟩
  · rintro ⟨h1, h2⟩
    refine ⟨allT_full (rs_ok hw) (within_of (by rw [h1, rsOf_len]) fun i hi => ?_), decide_eq_true h2⟩
    rw [rsOf_len] at hi
    rw [rsOf_at s hi]
    exact h2.range i hi
theorem allL_some {s : Sh} (hs : Loose s) (hw : ∀ i, i < s.n → (s.job i).f ≤ lat (s.job i)) {S : Nat → Int} (hS : Sched s S) : tab s.n S ∈ allL s (allT (rsOf s)) :=
  (mem_allL hw).2 ⟨tab_len _ _, sched_list hs (fun _ hi => (tab_get S hi).symm) hS⟩
/-- Row `k` is the first of those that end first. -/
structure Best (s : Sh) (L : List (List Int)) (n k : Nat) : Prop where
  lt : k < n
  le : ∀ j, j < n → endM s.js (L.getD k []) s.n ≤ endM s.js (L.getD j []) s.n
  first : ∀ j, j < k → endM s.js (L.getD k []) s.n < endM s.js (L.getD j []) s.n
theorem ReadsG.len2 {w : World} {v : Value} {xss : List (List Int)} (h : ReadsG w v xss) : ∃ a n c, v = .slice a n c ∧ n = xss.length := by
  obtain ⟨ao, c', e, _⟩ := h
  exact ⟨ao, _, c', e, rfl⟩
def ShortEnd (w : World) (s : Sh) (L : List (List Int)) (e : Ending) (w' : World) : Prop := ∃ k a c, e = .returned (.tuple #[.slice a s.n c, .int .i64 (endM s.js (L.getD k []) s.n)]) ∧ Best s L L.length k ∧ Reads w' (.slice a s.n c) (L.getD k []) ∧ Below w.heap.size w w'
def BadL (w : World) (e : Ending) (w' : World) : Prop := ∃ a c, e = .returned (.tuple #[.slice a 0 c, .int .i64 1]) ∧ Below w.heap.size w w'
def BadS (w : World) (e : Ending) (w' : World) : Prop := ∃ a c, e = .returned (.tuple #[.slice a 0 c, .int .i64 0, .int .i64 1]) ∧ Below w.heap.size w w'
end Go.Proofs.Ytjkbhdlbomcbeaa
