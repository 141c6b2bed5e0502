import Derived.Test.YtccmabckmpelcaaRb
import Derived.Test.YtccmabckmpelcaaGa
import Derived.Test.YtccmabckmpelcaaK
namespace Go.Proofs.Ytccmabckmpelcaa
open Go.RowKit

/-! ## Gains that are all multiplied -/
def scl (k : Int) (gs : List (List Int)) : List (List Int) := gs.map fun l => l.map fun x => k * x
theorem scl_at (k : Int) (gs : List (List Int)) (j : Nat) : (scl k gs).getD j [] = (gs.getD j []).map fun x => k * x := by
  unfold scl
  rw [List.getD_eq_getElem?_getD, List.getElem?_map, List.getD_eq_getElem?_getD]
  cases gs[j]? <;> simp
theorem scl_len (k : Int) (gs : List (List Int)) : (scl k gs).length = gs.length := by simp [scl]
theorem gainTo_scl (k : Int) (l : List Int) : ∀ x, gainTo (l.map fun x => k * x) x = k * gainTo l x := by
  intro x
  induction x with
  | zero => simp [gainTo]
  | succ x ih =>
    by_cases h : x < l.length
    · rw [gainTo_snoc _ _ (by simpa using h), gainTo_snoc _ _ h, ih, Int.mul_add]
      congr 1
      simp [List.getD_eq_getElem?_getD, h]
    · rw [gainTo_full _ (x + 1) (by simp; omega), gainTo_full l (x + 1) (by omega), ← gainTo_full _ x (by simp; omega), ← gainTo_full l x (by omega), ih]
theorem mx_scl {k : Int} (hk : 0 ≤ k) {h : Nat → Int} : ∀ n, mx (fun x => k * h x) n = k * mx h n := by
  intro n
  induction n with
  | zero => rfl
  | succ n ih =>
    rw [mx, mx, ih]
    rcases Int.le_total (mx h n) (h (n + 1)) with e | e
    · have := Int.mul_le_mul_of_nonneg_left e hk
      rw [Int.max_eq_right e, Int.max_eq_right this]
    · have := Int.mul_le_mul_of_nonneg_left e hk
      rw [Int.max_eq_left e, Int.max_eq_left this]
theorem V_scl {k : Int} (hk : 0 ≤ k) : ∀ (fs : List Int) (gs : List (List Int)) (w : Int), V fs (scl k gs) w = k * V fs gs w := by
  intro fs
  induction fs with
  | nil => intro gs w; cases gs <;> simp [V]
  | cons f fs ih =>
    intro gs w
    cases gs with
    | nil => simp [V, scl]
    | cons g gs =>
      show V (f :: fs) ((g.map fun x => k * x) :: scl k gs) w = _
      rw [V_cons, V_cons, List.length_map]
      have e : term f fs (g.map fun x => k * x) (scl k gs) w = fun x => k * term f fs g gs w x := by
        funext x; unfold term; rw [gainTo_scl, ih, Int.mul_add]
      rw [e, mx_scl hk]
theorem U_scl {k : Int} (hk : 1 ≤ k) : ∀ (fs : List Int) (gs : List (List Int)) (w : Int), U fs (scl k gs) w = U fs gs w := by
  intro fs
  induction fs with
  | nil => intro gs w; cases gs <;> simp [U]
  | cons f fs ih =>
    intro gs w
    cases gs with
    | nil => simp [U, scl]
    | cons g gs =>
      show U (f :: fs) ((g.map fun x => k * x) :: scl k gs) w = _
      simp only [U]
      have e : (fun x => term f fs (g.map fun x => k * x) (scl k gs) w x == V (f :: fs) ((g.map fun x => k * x) :: scl k gs) w) = fun x => term f fs g gs w x == V (f :: fs) (g :: gs) w := by
        funext x
        have h1 : term f fs (g.map fun x => k * x) (scl k gs) w x = k * term f fs g gs w x := by unfold term; rw [gainTo_scl, V_scl (by omega), Int.mul_add]
        have h2 : V (f :: fs) ((g.map fun x => k * x) :: scl k gs) w = k * V (f :: fs) (g :: gs) w := V_scl (by omega) (f :: fs) (g :: gs) w
        rw [h1, h2, Bool.eq_iff_iff, beq_iff_eq, beq_iff_eq]
        exact ⟨fun h => Int.eq_of_mul_eq_mul_left (by omega) h, fun h => by rw [h]⟩
      rw [e, List.length_map, ih]
theorem scl_part (k : Int) (gs : List (List Int)) (a b : Nat) : part (scl k gs) a b = scl k (part gs a b) := by
  unfold part scl
  rw [List.map_take, List.map_drop]
theorem best_scl {k : Int} (hk : 1 ≤ k) {fs : List Int} {gs : List (List Int)} (hok : GOk gs) (hok2 : GOk (scl k gs)) (hfl : fs.length = gs.length) (hf : FlowOk fs) : bestU fs (scl k gs) = bestU fs gs ∧ bestW fs (scl k gs) = k * bestW fs gs := by
  obtain ⟨a1, a2, _⟩ := best_spec hok hfl hf
  obtain ⟨b1, b2, _⟩ := best_spec hok2 (by rw [scl_len]; exact hfl) hf
  rw [a1, a2, b1, b2]
  exact ⟨U_scl hk _ _ _, V_scl (by omega) _ _ _⟩
theorem shares_scl {k : Int} (hk : 1 ≤ k) {fs : List Int} {gs : List (List Int)} (hok : GOk gs) (hok2 : GOk (scl k gs)) (hfl : fs.length = gs.length) (hf : FlowOk fs) {n : Nat} (hn : n ≤ gs.length) (j : Nat) :
    (sharesK fs (scl k gs) n).getD j 0 = k * (sharesK fs gs n).getD j 0 := by
  have hs : ∀ i, i ≤ gs.length → sh fs (scl k gs) i = k * sh fs gs i := fun i hi => by
    unfold sh
    rw [scl_part]
    refine (best_scl hk (hok.part 0 i hi) ?_ (by rw [part_len _ _ _ (by omega), part_len _ _ _ hi]) (hf.part 0 i (by omega))).2
    rw [← scl_part]
    exact hok2.part 0 i (by rw [scl_len]; exact hi)
  unfold sharesK
  by_cases h : j < n
  · simp only [List.getD_eq_getElem?_getD, List.getElem?_map, List.getElem?_range h, Option.map_some, Option.getD_some]
    rw [hs _ (by omega), hs _ (by omega), Int.mul_sub]
  · simp [List.getD_eq_getElem?_getD, h]
theorem prices_scl {k : Int} (hk : 1 ≤ k) {fs : List Int} {gs : List (List Int)} (hok : GOk gs) (hok2 : GOk (scl k gs)) (hfl : fs.length = gs.length) (hf : FlowOk fs) (h8 : fs.length ≤ 8) (h30 : ∀ j, j < fs.length → fs.getD j 0 ≤ 30) {n : Nat} (j : Nat) :
    (pricesK fs (scl k gs) n).getD j 0 = k * (pricesK fs gs n).getD j 0 := by
  unfold pricesK
  by_cases h : j < n
  · simp only [List.getD_eq_getElem?_getD, List.getElem?_map, List.getElem?_range h, Option.map_some, Option.getD_some]
    rw [(best_scl hk hok hok2 (by rw [grow1_len]; exact hfl) (hf.grow h8 h30)).2, (best_scl hk hok hok2 hfl hf).2, Int.mul_sub]
  · simp [List.getD_eq_getElem?_getD, h]
/-! ## No water -/
theorem V_none : ∀ (gs : List (List Int)) (n : Nat), V (List.replicate n 0) gs 0 = 0 := by
  intro gs
  induction gs with
  | nil => intro n; cases n <;> simp [V, List.replicate]
  | cons g gs ih =>
    intro n
    cases n with
    | zero => simp [V]
    | succ n =>
      rw [List.replicate_succ, V_cons]
      have e : min g.length ((0 : Int) + 0).toNat = 0 := by simp
      rw [e]
      show gainTo g 0 + V (List.replicate n 0) gs (0 + 0 - ((0 : Nat) : Int)) = 0
      rw [show (0 : Int) + 0 - ((0 : Nat) : Int) = 0 from rfl, ih]; simp [gainTo]
theorem U_none : ∀ (gs : List (List Int)) (n : Nat), n = gs.length → U (List.replicate n 0) gs 0 = List.replicate n 0 := by
  intro gs
  induction gs with
  | nil => intro n h; simp at h; subst h; simp [U]
  | cons g gs ih =>
    intro n h
    cases n with
    | zero => simp at h
    | succ n =>
      rw [List.replicate_succ]
      simp only [U]
      have e : min g.length ((0 : Int) + 0).toNat = 0 := by simp
      rw [e]
      show ((0 : Nat) : Int) :: U (List.replicate n 0) gs (0 + 0 - ((0 : Nat) : Int)) = _
      rw [show (0 : Int) + 0 - ((0 : Nat) : Int) = 0 from rfl, ih n (by simpa using h)]; rfl
theorem zeros_flow (n : Nat) (h : n ≤ 9) : FlowOk (List.replicate n 0) := ⟨by simpa using h, fun j hj => by rw [zeros_at]; omega⟩
theorem best_none {gs : List (List Int)} (hok : GOk gs) {n : Nat} (hn : n = gs.length) : bestU (List.replicate n 0) gs = List.replicate n 0 ∧ bestW (List.replicate n 0) gs = 0 := by
  obtain ⟨a1, a2, _⟩ := best_spec hok (by simpa using hn) (zeros_flow n (by rw [hn]; exact hok.1))
  rw [a1, a2, U_none _ _ hn, V_none]
  exact ⟨rfl, rfl⟩
/-! ## The gains of the statement -/
theorem gFrom_map {f : Int → Int} (h0 : ∀ x, 0 ≤ x → 0 ≤ f x) (hm : ∀ x y, 0 ≤ x → x ≤ y → f x ≤ f y) : ∀ (l : List Int) (m : Int), gFrom m l = true → gFrom (f m) (l.map f) = true := by
  intro l
  induction l with
  | nil => intro m _; rfl
  | cons x l ih =>
    intro m h
    rw [List.map_cons]
    unfold gFrom at h ⊢
    simp only [Bool.and_eq_true, decide_eq_true_eq] at h ⊢
    exact ⟨⟨h0 x h.1.1, hm x m h.1.1 h.1.2⟩, ih x h.2⟩
theorem gFrom_more : ∀ (l : List Int) (m m' : Int), m ≤ m' → gFrom m l = true → gFrom m' l = true := by
  intro l m m' hm h
  cases l with
  | nil => rfl
  | cons x l =>
    unfold gFrom at h ⊢
    simp only [Bool.and_eq_true, decide_eq_true_eq] at h ⊢
    exact ⟨⟨h.1.1, by omega⟩, h.2⟩
theorem gainB_map {f : Int → Int} (h0 : ∀ x, 0 ≤ x → 0 ≤ f x) (hm : ∀ x y, 0 ≤ x → x ≤ y → f x ≤ f y) (h1 : f 1000 ≤ 1000) {l : List Int} (h : gainB l = true) : gainB (l.map f) = true := by
  unfold gainB at h ⊢
  simp only [Bool.and_eq_true, decide_eq_true_eq, List.length_map] at h ⊢
  exact ⟨h.1, gFrom_more _ _ _ h1 (gFrom_map h0 hm l 1000 h.2)⟩
def smallG (gs : List (List Int)) : List (List Int) := gs.map fun l => l.map fun x => x / 4
theorem great_eq (k : Int) (gs : List (List Int)) : scl k (smallG gs) = gs.map fun l => l.map fun x => x / 4 * k := by
  unfold scl smallG
  rw [List.map_map]
  refine List.map_congr_left fun l _ => ?_
  simp only [Function.comp, List.map_map]
  exact List.map_congr_left fun x _ => by simp [Int.mul_comm]
theorem allG_map {f : Int → Int} (h0 : ∀ x, 0 ≤ x → 0 ≤ f x) (hm : ∀ x y, 0 ≤ x → x ≤ y → f x ≤ f y) (h1 : f 1000 ≤ 1000) : ∀ gs, allG gs = true → allG (gs.map fun l => l.map f) = true := by
  intro gs
  induction gs with
  | nil => intro _; rfl
  | cons l gs ih =>
    intro h
    rw [List.map_cons, allG_cons]
    rw [allG_cons] at h
    simp only [Bool.and_eq_true] at h ⊢
    exact ⟨gainB_map h0 hm h1 h.1, ih h.2⟩
theorem riv_map {f : Int → Int} (h0 : ∀ x, 0 ≤ x → 0 ≤ f x) (hm : ∀ x y, 0 ≤ x → x ≤ y → f x ≤ f y) (h1 : f 1000 ≤ 1000) {fs : List Int} {gs : List (List Int)} (h : rivB fs gs = true) : rivB fs (gs.map fun l => l.map f) = true := by
  unfold rivB at h ⊢
  simp only [Bool.and_eq_true, decide_eq_true_eq, List.length_map] at h ⊢
  exact ⟨h.1, allG_map h0 hm h1 gs h.2⟩
theorem small_riv {fs : List Int} {gs : List (List Int)} (h : rivB fs gs = true) : rivB fs (smallG gs) = true := riv_map (f := fun x => x / 4) (fun x hx => by show 0 ≤ x / 4; omega) (fun x y _ h => by show x / 4 ≤ y / 4; omega) (by decide) h
theorem great_riv {k : Int} (h1 : 1 ≤ k) (h4 : k ≤ 4) {fs : List Int} {gs : List (List Int)} (h : rivB fs gs = true) : rivB fs (scl k (smallG gs)) = true := by
  rw [great_eq]
  have hc : k = 1 ∨ k = 2 ∨ k = 3 ∨ k = 4 := by omega
  refine riv_map (f := fun x => x / 4 * k) (fun x hx => ?_) (fun x y hx hxy => ?_) ?_ h
  · rcases hc with rfl | rfl | rfl | rfl <;> (show 0 ≤ x / 4 * _; omega)
  · rcases hc with rfl | rfl | rfl | rfl <;> (show x / 4 * _ ≤ y / 4 * _; omega)
  · rcases hc with rfl | rfl | rfl | rfl <;> decide
theorem zeros_riv {n : Nat} {fs : List Int} {gs : List (List Int)} (h : rivB fs gs = true) (hn : n = fs.length) : rivB (List.replicate n 0) gs = true := by
  unfold rivB flowB at h ⊢
  simp only [Bool.and_eq_true, decide_eq_true_eq, List.length_replicate] at h ⊢
  refine ⟨⟨⟨by omega, ?_⟩, by omega⟩, h.2⟩
  unfold amt
  simp
end Go.Proofs.Ytccmabckmpelcaa
