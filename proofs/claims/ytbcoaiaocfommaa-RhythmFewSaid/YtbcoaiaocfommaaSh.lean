import Derived.Test.YtbcoaiaocfommaaSf
namespace Go.Proofs.Ytbcoaiaocfommaa
open Go.RowKit

theorem mem_addS {seen : List (List UInt8)} {y z : List UInt8} : z ∈ addS seen y ↔ z ∈ seen ∨ z = y := by
  unfold addS
  split
  · rename_i h
    rw [List.contains_iff_mem] at h
    exact ⟨.inl, fun h' => h'.elim id (fun e => e ▸ h)⟩
  · simp
theorem nodup_addS {seen : List (List UInt8)} {y : List UInt8} (h : seen.Nodup) : (addS seen y).Nodup := by
  unfold addS
  split
  · exact h
  · rename_i hc
    rw [List.contains_iff_mem] at hc
    rw [List.nodup_append]
    exact ⟨h, by simp, fun a ha b hb e => by simp at hb; subst hb; exact hc (e ▸ ha)⟩
theorem setL_aux (xs : List (List UInt8)) : ∀ acc : List (List UInt8), acc.Nodup → (xs.foldl addS acc).Nodup ∧ ∀ z, z ∈ xs.foldl addS acc ↔ z ∈ acc ∨ z ∈ xs := by
  induction xs with
  | nil => exact fun acc h => ⟨h, fun z => by simp⟩
  | cons x xs ih =>
    intro acc h
    obtain ⟨h1, h2⟩ := ih (addS acc x) (nodup_addS h)
    refine ⟨h1, fun z => ?_⟩
    rw [List.foldl_cons, h2, mem_addS, List.mem_cons, or_assoc]
theorem setL_nodup (xs : List (List UInt8)) : (setL xs).Nodup := (setL_aux xs [] List.nodup_nil).1
theorem mem_setL (xs : List (List UInt8)) (z : List UInt8) : z ∈ setL xs ↔ z ∈ xs := by rw [setL, (setL_aux xs [] List.nodup_nil).2]; simp

def SqAt (l : List UInt8) (i h : Nat) (z : List UInt8) : Prop := sqB l i (h + 1) = true ∧ z = subL l i (i + 2 * (h + 1))
theorem sqStep_spec {l : List UInt8} {i : Nat} {seen : List (List UInt8)} {h : Nat} (hn : seen.Nodup) : (sqStep l i seen h).Nodup ∧ ∀ z, z ∈ sqStep l i seen h ↔ z ∈ seen ∨ SqAt l i h z := by
  unfold sqStep SqAt
  cases e : sqB l i (h + 1)
  · exact ⟨hn, fun z => by simp⟩
  · rw [if_pos rfl]
    exact ⟨nodup_addS hn, fun z => by rw [mem_addS]; simp⟩
theorem sqRow_spec {l : List UInt8} {seen : List (List UInt8)} {i : Nat} (hn : seen.Nodup) (k : Nat) : (sqRow l seen i k).Nodup ∧ ∀ z, z ∈ sqRow l seen i k ↔ z ∈ seen ∨ ∃ h, h < k ∧ SqAt l i h z := by
  induction k with
  | zero => exact ⟨hn, fun z => by simp [sqRow]⟩
  | succ k ih =>
    rw [sqRow_succ]
    obtain ⟨h1, h2⟩ := sqStep_spec (l := l) (i := i) (h := k) ih.1
    refine ⟨h1, fun z => ?_⟩
    rw [h2, ih.2, or_assoc]
    constructor
    · rintro (h | ⟨h, hk, ha⟩ | ha)
      · exact .inl h
      · exact .inr ⟨h, by omega, ha⟩
      · exact .inr ⟨k, by omega, ha⟩
    · rintro (h | ⟨h, hk, ha⟩)
      · exact .inl h
      · by_cases e : h = k
        · exact .inr (.inr (e ▸ ha))
        · exact .inr (.inl ⟨h, by omega, ha⟩)
theorem sqAll_spec (l : List UInt8) (n : Nat) : (sqAll l n).Nodup ∧ ∀ z, z ∈ sqAll l n ↔ ∃ i, i < n ∧ ∃ h, h < (l.length - i) / 2 ∧ SqAt l i h z := by
  induction n with
  | zero => exact ⟨List.nodup_nil, fun z => by simp [sqAll]⟩
  | succ n ih =>
    rw [sqAll_succ]
    obtain ⟨h1, h2⟩ := sqRow_spec (l := l) (i := n) ih.1 ((l.length - n) / 2)
    refine ⟨h1, fun z => ?_⟩
    rw [h2, ih.2]
    constructor
    · rintro (⟨i, hi, h⟩ | h)
      · exact ⟨i, by omega, h⟩
      · exact ⟨n, by omega, h⟩
    · rintro ⟨i, hi, h⟩
      by_cases e : i = n
      · exact .inr (e ▸ h)
      · exact .inl ⟨i, by omega, h⟩

def sqStr (s : ByteArray) : Nat → List (List UInt8)
  | 0 => []
  | k + 1 => sqStr s k ++ ((partsM s (2 * (k + 1)) (s.size + 1 - 2 * (k + 1))).filter (sqX (k + 1))).map fun x => x.1.data.toList
theorem keysTo_str (s : ByteArray) (k : Nat) : keysTo s k = (sqStr s k).map Lit.string := by
  induction k with
  | zero => rfl
  | succ k ih =>
    unfold keysTo sqStr
    rw [ih, List.map_append, List.map_map]; rfl
theorem size_keys (s : ByteArray) (k : Nat) : Maps.size (Maps.setOf (H := Unit) (.lit (.bool true)) (keysTo s k)) = (setL (sqStr s k)).length := by
  rw [Maps.size_setOf]
  · rw [keysTo_str]
    have h := fold_str (sqStr s k) []
    show (List.foldl Maps.addKey (List.map Lit.string []) _).length = _
    rw [h, List.length_map]; rfl
  · rw [keysTo_str]
    intro x hx
    obtain ⟨y, _, rfl⟩ := List.mem_map.1 hx
    trivial
theorem subL_halves (l : List UInt8) (i h : Nat) : (subL l i (i + 2 * h)).take h = subL l i (i + h) ∧ (subL l i (i + 2 * h)).drop h = subL l (i + h) (i + 2 * h) := by
  unfold subL
  constructor
  · rw [List.take_take]; congr 1; omega
  · rw [List.drop_take, List.drop_drop]; congr 1 <;> omega
theorem mem_sqStr (s : ByteArray) (k : Nat) (z : List UInt8) : z ∈ sqStr s k ↔ ∃ h, h < k ∧ ∃ i, i < s.size + 1 - 2 * (h + 1) ∧ SqAt s.data.toList i h z := by
  induction k with
  | zero => simp [sqStr]
  | succ k ih =>
    unfold sqStr
    rw [List.mem_append, ih]
    have key : (z ∈ ((partsM s (2 * (k + 1)) (s.size + 1 - 2 * (k + 1))).filter (sqX (k + 1))).map fun x => x.1.data.toList) ↔ ∃ i, i < s.size + 1 - 2 * (k + 1) ∧ SqAt s.data.toList i k z := by
      rw [List.mem_map]
      constructor
      · rintro ⟨x, hx, rfl⟩
        obtain ⟨hx1, hx2⟩ := List.mem_filter.1 hx
        unfold partsM at hx1
        obtain ⟨i, hi, rfl⟩ := List.mem_map.1 hx1
        have hi' := List.mem_range.1 hi
        refine ⟨i, hi', ?_⟩
        unfold sqX at hx2
        unfold SqAt sqB
        rw [partM_val s _ i (by omega), subL_extract] at hx2 ⊢
        rw [(subL_halves _ _ _).1, (subL_halves _ _ _).2] at hx2
        exact ⟨hx2, rfl⟩
      · rintro ⟨i, hi, h1, rfl⟩
        refine ⟨partM s (2 * (k + 1)) i, List.mem_filter.2 ⟨?_, ?_⟩, ?_⟩
        · unfold partsM; exact List.mem_map.2 ⟨i, List.mem_range.2 hi, rfl⟩
        · unfold sqX
          rw [partM_val s _ i (by omega), subL_extract, (subL_halves _ _ _).1, (subL_halves _ _ _).2]
          exact h1
        · rw [partM_val s _ i (by omega), subL_extract]
    rw [key]
    constructor
    · rintro (⟨h, hk, r⟩ | r)
      · exact ⟨h, by omega, r⟩
      · exact ⟨k, by omega, r⟩
    · rintro ⟨h, hk, r⟩
      by_cases e : h = k
      · exact .inr (e ▸ r)
      · exact .inl ⟨h, by omega, r⟩
theorem nodup_len {xs : List (List UInt8)} : ∀ {ys : List (List UInt8)}, xs.Nodup → (∀ z, z ∈ xs → z ∈ ys) → xs.length ≤ ys.length := by
  induction xs with
  | nil => intro ys _ _; exact Nat.zero_le _
  | cons x xs ih =>
    intro ys hn hs
    obtain ⟨hx, hn'⟩ := List.nodup_cons.1 hn
    have hxy := hs x (List.mem_cons_self ..)
    have := ih (ys := ys.erase x) hn' (fun z hz => by
      have hzy := hs z (List.mem_cons_of_mem _ hz)
      refine (List.mem_erase_of_ne ?_).2 hzy
      rintro rfl; exact hx hz)
    rw [List.length_erase_of_mem hxy] at this
    have hpos := List.length_pos_of_mem hxy
    rw [List.length_cons]; omega
theorem squares_same (s : ByteArray) : Maps.size (Maps.setOf (H := Unit) (.lit (.bool true)) (keysTo s (s.size / 2))) = (sqAll s.data.toList s.size).length := by
  rw [size_keys]
  obtain ⟨h1, h2⟩ := sqAll_spec s.data.toList s.size
  have key : ∀ z, z ∈ setL (sqStr s (s.size / 2)) ↔ z ∈ sqAll s.data.toList s.size := by
    intro z
    rw [mem_setL, mem_sqStr, h2, size_len]
    constructor
    · rintro ⟨h, hh, i, hi, r⟩
      exact ⟨i, by omega, h, by omega, r⟩
    · rintro ⟨i, hi, h, hh, r⟩
      exact ⟨h, by omega, i, by omega, r⟩
  exact Nat.le_antisymm (nodup_len (setL_nodup _) (fun z hz => (key z).1 hz)) (nodup_len h1 (fun z hz => (key z).2 hz))
end Go.Proofs.Ytbcoaiaocfommaa
