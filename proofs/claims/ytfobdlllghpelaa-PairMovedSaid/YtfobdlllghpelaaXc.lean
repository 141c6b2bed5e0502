import Derived.Test.YtfobdlllghpelaaXa
namespace Go.Proofs.Ytfobdlllghpelaa
open Go.RowKit Go.Shelf Pair

/-! Shortest ways between the rows of a cheapest pairing. It knows no program. -/
section
variable (C : Nat → Nat → Int)
/-- What it costs more if row `i` takes the column of row `r`. -/
def wW (i r : Nat) : Int := C i r - C i i
/-- The length of a way, written from its end. -/
def wlen : List Nat → Int
  | r :: i :: t => wW C i r + wlen (i :: t)
  | _ => 0
theorem wlen_cons (r i : Nat) (t : List Nat) : wlen C (r :: i :: t) = wW C i r + wlen C (i :: t) := rfl
theorem wlen_app (x : List Nat) (a : Nat) (y : List Nat) : wlen C (x ++ a :: y) = wlen C (x ++ [a]) + wlen C (a :: y) := by
  induction x with
  | nil => simp [wlen]
  | cons r x ih =>
    cases x with
    | nil => simp [wlen]
    | cons i x =>
      simp only [List.cons_append, wlen_cons] at ih ⊢
      omega
/-- The row whose column a row takes along a ring. -/
def nxR (prev : Nat) : List Nat → Nat → Nat
  | [], i => i
  | a :: t, i => if i = a then prev else nxR a t i
theorem nxR_out : ∀ (prev : Nat) (L : List Nat) (i : Nat), i ∉ L → nxR prev L i = i
  | _, [], _, _ => rfl
  | prev, a :: t, i, h => by
    rw [List.mem_cons, not_or] at h
    rw [nxR, if_neg h.1, nxR_out a t i h.2]
theorem nxR_mem : ∀ (prev : Nat) (L : List Nat) (i : Nat), i ∈ L → nxR prev L i ∈ prev :: L.dropLast
  | _, [], _, h => by simp at h
  | prev, a :: t, i, h => by
    by_cases e : i = a
    · rw [nxR, if_pos e]; simp
    · rw [nxR, if_neg e]
      have ht : i ∈ t := (List.mem_cons.1 h).resolve_left e
      have := nxR_mem a t i ht
      cases t with
      | nil => simp at ht
      | cons b u => rw [List.dropLast_cons_cons]; exact List.mem_cons_of_mem _ this
theorem nxR_inj : ∀ (prev : Nat) (L : List Nat), L.Nodup → prev ∉ L.dropLast → ∀ i i', i ∈ L → i' ∈ L → nxR prev L i = nxR prev L i' → i = i'
  | _, [], _, _, i, _, h, _, _ => by simp at h
  | prev, a :: t, hd, hp, i, i', h, h', e => by
    have hdt := List.nodup_cons.1 hd
    have hnot : ∀ x, x ∈ t → nxR a t x ≠ prev := fun x hx he => by
      have := nxR_mem a t x hx
      cases t with
      | nil => simp at hx
      | cons b u =>
        rw [List.dropLast_cons_cons] at hp
        rw [he] at this
        exact hp this
    have hda : a ∉ t.dropLast := fun h => hdt.1 ((List.dropLast_sublist t).subset h)
    unfold nxR at e
    by_cases e1 : i = a
    · by_cases e2 : i' = a
      · rw [e1, e2]
      · rw [if_pos e1, if_neg e2] at e
        exact absurd e.symm (hnot i' ((List.mem_cons.1 h').resolve_left e2))
    · by_cases e2 : i' = a
      · rw [if_neg e1, if_pos e2] at e
        exact absurd e (hnot i ((List.mem_cons.1 h).resolve_left e1))
      · rw [if_neg e1, if_neg e2] at e
        exact nxR_inj a t hdt.2 hda i i' ((List.mem_cons.1 h).resolve_left e1) ((List.mem_cons.1 h').resolve_left e2) e
theorem nxR_total {n : Nat} : ∀ (prev : Nat) (L : List Nat), L.Nodup → (∀ x ∈ L, x < n) → total n (fun i => wW C i (nxR prev L i)) = wlen C (prev :: L)
  | prev, [], _, _ => by
    have : (fun i => wW C i (nxR prev [] i)) = fun _ => (0 : Int) := by funext i; simp [nxR, wW]
    rw [this]
    have h0 : ∀ k, total k (fun _ => (0 : Int)) = 0 := by
      intro k
      induction k with
      | zero => rfl
      | succ k ih => rw [total_succ, ih]; rfl
    rw [h0]; rfl
  | prev, a :: t, hd, hm => by
    have hdt := List.nodup_cons.1 hd
    have ih := nxR_total a t hdt.2 fun x hx => hm x (List.mem_cons_of_mem _ hx)
    rw [wlen_cons, ← ih, ← total_one (wW C a prev) (hm a (List.mem_cons_self ..)), ← total_add]
    refine total_congr fun i _ => ?_
    by_cases e : i = a
    · subst e
      rw [nxR, if_pos rfl, if_pos rfl, nxR_out i t i hdt.1]
      unfold wW; omega
    · rw [nxR, if_neg e, if_neg e]; omega
/-- No ring is shorter than 0. -/
theorem ring_pos {n : Nat} (hmin : ∀ q : List Nat, PermL n q → total n (fun i => C i i) ≤ total n (fun i => C i (q.getD i 0))) {j : Nat} {s : List Nat} (hd : (s ++ [j]).Nodup) (hm : ∀ x ∈ s ++ [j], x < n) : 0 ≤ wlen C (j :: (s ++ [j])) := by
  rw [← nxR_total C j (s ++ [j]) hd hm]
  have hdrop : (s ++ [j]).dropLast = s := by simp
  have hjs : j ∉ s := fun h => by
    rw [List.nodup_append] at hd
    exact hd.2.2 j h j (by simp) rfl
  have hin : ∀ i, i ∈ s ++ [j] → nxR j (s ++ [j]) i ∈ s ++ [j] := fun i hi => by
    have := nxR_mem j (s ++ [j]) i hi
    rw [hdrop] at this
    rcases List.mem_cons.1 this with h | h
    · rw [h]; simp
    · exact List.mem_append_left _ h
  have hlt : ∀ i, i < n → nxR j (s ++ [j]) i < n := fun i hi => by
    by_cases h : i ∈ s ++ [j]
    · exact hm _ (hin i h)
    · rw [nxR_out _ _ _ h]; exact hi
  have hq : PermL n ((List.range n).map (nxR j (s ++ [j]))) := by
    refine ⟨by simp, ?_, fun a ha => ?_⟩
    · rw [List.nodup_iff_pairwise_ne, List.pairwise_map]
      refine List.Pairwise.imp_of_mem ?_ (List.nodup_iff_pairwise_ne.1 (List.nodup_range (n := n)))
      intro a b _ _ hne he
      apply hne
      by_cases h1 : a ∈ s ++ [j]
      · by_cases h2 : b ∈ s ++ [j]
        · exact nxR_inj j (s ++ [j]) hd (by rw [hdrop]; exact hjs) a b h1 h2 he
        · rw [nxR_out _ _ _ h2] at he
          exact absurd (he ▸ hin a h1) h2
      · by_cases h2 : b ∈ s ++ [j]
        · rw [nxR_out _ _ _ h1] at he
          exact absurd (he ▸ hin b h2) h1
        · rw [nxR_out _ _ _ h1, nxR_out _ _ _ h2] at he; exact he
    · obtain ⟨i, hi, rfl⟩ := List.mem_map.1 ha
      exact hlt i (List.mem_range.1 hi)
  have h1 := hmin _ hq
  have h2 : total n (fun i => C i (((List.range n).map (nxR j (s ++ [j]))).getD i 0)) = total n (fun i => C i i) + total n (fun i => wW C i (nxR j (s ++ [j]) i)) := by
    rw [← total_add]
    refine total_congr fun i hi => ?_
    have : ((List.range n).map (nxR j (s ++ [j]))).getD i 0 = nxR j (s ++ [j]) i := by simp [List.getD_eq_getElem?_getD, hi]
    rw [this]
    unfold wW; omega
  omega
/-- A way to `j` over rows below `n`. -/
def Wk (n j : Nat) (l : List Nat) : Prop := l.head? = some j ∧ ∀ y ∈ l, y < n
theorem Wk.cons {n j i : Nat} {l : List Nat} (h : Wk n i l) (hj : j < n) : Wk n j (j :: l) := ⟨rfl, fun y hy => by
  rcases List.mem_cons.1 hy with rfl | h1
  · exact hj
  · exact h.2 y h1⟩
theorem wlen_wk {n j i : Nat} {l : List Nat} (h : Wk n i l) : wlen C (j :: l) = wW C i j + wlen C l := by
  cases l with
  | nil => simp [Wk] at h
  | cons a t =>
    have := h.1
    simp at this
    subst this
    rfl
/-- Each way has one without a row twice that is no longer. -/
theorem way_short {n : Nat} (hmin : ∀ q : List Nat, PermL n q → total n (fun i => C i i) ≤ total n (fun i => C i (q.getD i 0))) : ∀ (l : List Nat) (j : Nat), Wk n j l → ∃ l', Wk n j l' ∧ l'.Nodup ∧ wlen C l' ≤ wlen C l
  | [], j, h => by simp [Wk] at h
  | [a], j, h => ⟨[a], h, by simp, Int.le_refl _⟩
  | a :: i :: t, j, h => by
    have ha : a = j := by have := h.1; simpa using this
    subst ha
    have hi : Wk n i (i :: t) := ⟨rfl, fun y hy => h.2 y (List.mem_cons_of_mem _ hy)⟩
    obtain ⟨m, h1, h2, h3⟩ := way_short hmin (i :: t) i hi
    have haN : a < n := h.2 a (List.mem_cons_self ..)
    have hlen : wlen C (a :: m) ≤ wlen C (a :: i :: t) := by
      rw [wlen_wk C h1, wlen_cons]; omega
    by_cases hin : a ∈ m
    · obtain ⟨s, r, rfl⟩ := List.append_of_mem hin
      refine ⟨a :: r, ⟨rfl, fun y hy => h1.2 y (List.mem_append_right _ hy)⟩, (List.nodup_append.1 h2).2.1, ?_⟩
      have hd : (s ++ [a]).Nodup := by
        have : (s ++ a :: r) = (s ++ [a]) ++ r := by simp
        rw [this] at h2
        exact (List.nodup_append.1 h2).1
      have hring := ring_pos C hmin hd (fun x hx => h1.2 x (by
        rcases List.mem_append.1 hx with h | h
        · exact List.mem_append_left _ h
        · rw [List.mem_singleton] at h; subst h; exact List.mem_append_right _ (List.mem_cons_self ..)))
      have := wlen_app C (a :: s) a r
      simp only [List.cons_append] at this
      omega
    · exact ⟨a :: m, h1.cons haN, List.nodup_cons.2 ⟨hin, h2⟩, hlen⟩
/-- What rounds over the rows have found: `k` whole rounds, and the rows below `r` of the next one. -/
structure BF (n k r : Nat) (x : Nat → Int) : Prop where
  is : ∀ j, j < n → ∃ l, Wk n j l ∧ x j = wlen C l
  le : ∀ j, j < n → ∀ l, Wk n j l → l.length ≤ k + 1 → x j ≤ wlen C l
  row : ∀ j i, j < n → i < r → ∀ l, Wk n i l → l.length ≤ k + 1 → x j ≤ wW C i j + wlen C l
theorem BF.init (n : Nat) : BF C n 0 0 (fun _ => 0) where
  is := fun j hj => ⟨[j], ⟨rfl, fun y hy => by simp at hy; omega⟩, rfl⟩
  le := fun j _ l hl h => by
    match l, hl with
    | [a], _ => exact Int.le_refl _
    | a :: b :: t, _ => simp at h
  row := fun j i _ hi => by omega
theorem BF.step {n k r : Nat} {x y : Nat → Int} (h : BF C n k r x) (hr : r < n) (hy : ∀ j, j < n → y j = min (x j) (x r + wW C r j)) : BF C n k (r + 1) y where
  is := fun j hj => by
    rw [hy j hj]
    by_cases e : x j ≤ x r + wW C r j
    · rw [Int.min_eq_left e]; exact h.is j hj
    · obtain ⟨l, hl, he⟩ := h.is r hr
      exact ⟨j :: l, hl.cons hj, by rw [wlen_wk C hl, ← he]; omega⟩
  le := fun j hj l hl hk => by
    have := h.le j hj l hl hk
    rw [hy j hj]; omega
  row := fun j i hj hi l hl hk => by
    rw [hy j hj]
    rcases Nat.lt_succ_iff_lt_or_eq.1 hi with h1 | rfl
    · have := h.row j i hj h1 l hl hk; omega
    · have := h.le i hr l hl hk; omega
theorem BF.next {n k : Nat} {x : Nat → Int} (h : BF C n k n x) : BF C n (k + 1) 0 x where
  is := h.is
  le := fun j hj l hl hk => by
    match l, hl with
    | [], hl => simp [Wk] at hl
    | [a], hl => exact h.le j hj [a] hl (by simp)
    | a :: i :: t, hl =>
      have ha : a = j := by have := hl.1; simpa using this
      subst ha
      have hi : Wk n i (i :: t) := ⟨rfl, fun y hy => hl.2 y (List.mem_cons_of_mem _ hy)⟩
      rw [wlen_cons]
      exact h.row a i hj (hl.2 i (by simp)) (i :: t) hi (by simp at hk ⊢; omega)
  row := fun j i _ hi => by omega
theorem BF.stable {n k r : Nat} {x : Nat → Int} (hmin : ∀ q : List Nat, PermL n q → total n (fun i => C i i) ≤ total n (fun i => C i (q.getD i 0))) (h : BF C n k r x) (hk : n ≤ k + 1) {i j : Nat} (hi : i < n) (hj : j < n) : x j ≤ x i + wW C i j := by
  obtain ⟨l, hl, he⟩ := h.is i hi
  obtain ⟨m, h1, h2, h3⟩ := way_short C hmin (j :: l) j (hl.cons hj)
  have := h.le j hj m h1 (Nat.le_trans (nodup_length h2 h1.2) hk)
  rw [wlen_wk C hl] at h3
  omega
theorem wlen_ge {n : Nat} {b : Int} (hb : 0 ≤ b) (hW : ∀ i r, i < n → r < n → -b ≤ wW C i r) : ∀ l : List Nat, (∀ y ∈ l, y < n) → -b * (l.length : Int) ≤ wlen C l
  | [], _ => by simp [wlen]
  | [a], _ => by simp [wlen]; omega
  | a :: i :: t, h => by
    have ih := wlen_ge hb hW (i :: t) fun y hy => h y (List.mem_cons_of_mem _ hy)
    have := hW i a (h i (by simp)) (h a (by simp))
    rw [wlen_cons]
    simp only [List.length_cons] at ih ⊢
    rw [show ((t.length + 1 + 1 : Nat) : Int) = ((t.length + 1 : Nat) : Int) + 1 by omega, Int.mul_add]
    omega
theorem BF.bound {n k r : Nat} {x : Nat → Int} {b : Int} (hmin : ∀ q : List Nat, PermL n q → total n (fun i => C i i) ≤ total n (fun i => C i (q.getD i 0))) (hb : 0 ≤ b) (hW : ∀ i r, i < n → r < n → -b ≤ wW C i r) (h : BF C n k r x) {j : Nat} (hj : j < n) :
    -b * (n : Int) ≤ x j ∧ x j ≤ 0 := by
  refine ⟨?_, h.le j hj [j] ⟨rfl, fun y hy => by simp at hy; omega⟩ (by simp)⟩
  obtain ⟨l, hl, he⟩ := h.is j hj
  obtain ⟨m, h1, h2, h3⟩ := way_short C hmin l j hl
  have h4 := wlen_ge C hb hW m h1.2
  have h5 := nodup_length h2 h1.2
  have h6 : -b * (n : Int) ≤ -b * (m.length : Int) := by
    have := Int.mul_le_mul_of_nonneg_left (show (m.length : Int) ≤ (n : Int) by omega) hb
    rw [Int.neg_mul, Int.neg_mul]; omega
  omega
end
end Go.Proofs.Ytfobdlllghpelaa
