import Derived.Test.YtbcoaiaocfommaaProg
import Derived.WalkKit
import Derived.WalkLawsBesides
import Derived.WalkSpells
import Derived.Lib.Hide
import Derived.Deep.QuietTactic
import Derived.BigQuiet
import Derived.Outline
import Derived.Lib.Strings
namespace Go.Proofs.Ytbcoaiaocfommaa
open Go.RowKit

/-! ## Worlds -/

theorem own_below {B : Nat} {e : TypeId} {sz n : Nat} {v : Value} {xs : List Value} {w w' : World} (h : w.ownsRow B e sz v n xs) (hb : Below w.heap.size w w') : w'.ownsRow B e sz v n xs := by
  refine ⟨h.1, ?_⟩
  rcases h.2 with hn | ⟨g, cap, cur, rfl, hB, hg, rest⟩
  · exact .inl hn
  · refine .inr ⟨g, cap, cur, rfl, hB, ?_, rest⟩
    rw [hb.block g (Array.getElem?_eq_some_iff.1 hg).1]
    exact hg

theorem below_seq {w w1 w2 : World} {B : Nat} (h : Below B w w1) (k : Below w1.heap.size w1 w2) (hB : B ≤ w.heap.size) : Below B w w2 :=
  h.trans (k.mono (Nat.le_trans hB h.size))

theorem own_base {B B' : Nat} {e : TypeId} {sz n : Nat} {v : Value} {xs : List Value} {w : World} (h : w.ownsRow B e sz v n xs) (hb : B' ≤ B) : w.ownsRow B' e sz v n xs := by
  refine ⟨h.1, ?_⟩
  rcases h.2 with hn | ⟨g, cap, cur, rfl, hB, rest⟩
  · exact .inl hn
  · exact .inr ⟨g, cap, cur, rfl, Nat.le_trans hb hB, rest⟩

/-- `v` holds the ints `xs` in memory that was made after block `B`. -/
def Ints (w : World) (B : Nat) (v : Value) (xs : List Int) : Prop := w.ownsRow B 3 1 v xs.length (xs.map (Value.int .i64))

theorem Ints.below {B : Nat} {v : Value} {xs : List Int} {w w' : World} (h : Ints w B v xs) (hb : Below w.heap.size w w') : Ints w' B v xs := own_below h hb
theorem Ints.base {B B' : Nat} {v : Value} {xs : List Int} {w : World} (h : Ints w B v xs) (hb : B' ≤ B) : Ints w B' v xs := own_base h hb
theorem Ints.nil (w : World) (B : Nat) : Ints w B (.slice none 0 0) [] := World.ownsRow_nil _ _ _ _

theorem info3 : (Try.prog.info? 3).map (fun i => (i.zero, i.size, i.bytes)) = some (some (.int .i64 0), 1, 8) := by kernel_rfl

/-- append(s, y) of one int, at the model's operation. -/
theorem app_int {ops : Array Oper} {rest : List Oper} {o : Oper} {a : Act} {Q : Exit → Act → World → Prop} {w : World} {B : Nat} {v : Value} {xs : List Int} {y : Int}
    (hown : Ints w B v xs) (hlen : xs.length ≤ 1000000000) (hB : B ≤ w.heap.size) (hgd : o.guard = none) (s x : Operand)
    (ho : o.op = .call { callee := .builtin .append, args := #[s, x], argTypes := #[23, 23] }) (hs : a.eval s = v) (hx : a.eval x = .slice (some ⟨w.heap.size, 0, none⟩) 1 1)
    (h : ∀ v' w', Ints w' B v' (xs ++ [y]) → Below B w w' → wpList Try.prog ops Q rest (a.put o.dst v') w') : wpList Try.prog ops Q (o :: rest) a (w.alloc (.cells #[.int .i64 y] 3)) := by
  obtain ⟨i0, hi, hz0, hz1, hz2⟩ := info_parts info3
  refine wpList_append_own _ hgd s x 23 ho B 3 i0 (.int .i64 0) 1 8 Try.underlying23 hi hz0 hz1 hz2 rfl (by decide) v xs.length (xs.map (Value.int .i64)) hs (World.ownsRow.alloc hown _) ⟨w.heap.size, 0, none⟩ 1 1 [.int .i64 y] hx rfl ?_ ?_ ?_ ?_ ?_ ?_
  · exact cell_one_new _ _ _
  · intro u hu; simp at hu; subst hu; rfl
  · unfold maxLen; omega
  · omega
  · simp; omega
  · intro v' w' h2 h3 _
    refine h v' w' ?_ ?_
    · unfold Ints; simpa using h2
    · exact ((Below.refl B w).alloc hB _).grown h3 (by simp; omega) (fun k hk => (World.ownsRow.lt hown k hk).1)

/-! ## cut and the checks -/

def CutS (m : Int) (w : World) (e : Ending) (w' : World) : Prop := ∃ s : ByteArray, ((s.size : Int) ≤ m ∨ s.size = 201) ∧ e = .returned (.string s) ∧ w = w'

theorem cut_any (s : ByteArray) (m : Int) (w : World) (hs : s.size ≤ maxLen) (h0 : 0 ≤ m) (h1 : m ≤ 200) :
    Calls Try.prog 21 #[.string s, .int .i64 m] w (CutS m w) := by
  unfold maxLen at hs
  by_cases h : 200 < s.size
  · go_enter Try.func21, Try.ntmps21
    go_wp2
    go_ret
    exact ⟨_, .inr (by rw [ByteArray.size_extract]; omega), rfl, rfl⟩
  · go_enter Try.func21, Try.ntmps21
    go_wp2
    all_goals go_ret
    · exact ⟨_, .inl (by rw [ByteArray.size_extract]; omega), rfl, rfl⟩
    · exact ⟨s, .inl (by assumption), by simp, rfl⟩

/-- The letters a to d. -/
def okc (c : UInt8) : Bool := decide (97 ≤ (c.toNat : Int)) && decide ((c.toNat : Int) ≤ 100)
def goodL (l : List UInt8) : Bool := l.all okc
def chk (s : ByteArray) : Int := if 200 < s.size then 3 else if s.size = 0 then 2 else if goodL s.data.toList then 0 else 2

theorem take_snoc (s : ByteArray) (k : Nat) (h : k < s.size) : s.data.toList.take (k + 1) = s.data.toList.take k ++ [s[k]] := by
  rw [List.take_succ_eq_append_getElem (by simpa using h)]; rfl
theorem good_snoc (l : List UInt8) (c : UInt8) : goodL (l ++ [c]) = (goodL l && okc c) := by simp [goodL]
theorem take_all (s : ByteArray) (k : Nat) (h : s.size ≤ k) : s.data.toList.take k = s.data.toList := List.take_of_length_le (by simpa using h)
theorem good_false (s : ByteArray) (k : Nat) (h : k < s.size) (hc : okc s[k] = false) : goodL s.data.toList = false := by
  unfold goodL
  rw [List.all_eq_false]
  refine ⟨s[k], ?_, by simp [hc]⟩
  show s.data[k] ∈ _
  simp
theorem empty_iff (s : ByteArray) : s.toList.isEmpty = decide (s.size = 0) := by
  have h1 := Lib.extract_toList s 0 s.size
  have e : s.extract 0 s.size = s := by simp
  have h2 : s.toList = s.data.toList := by
    rw [e] at h1
    rw [h1, List.drop_zero, List.take_of_length_le (by simp)]
  have h3 : s.data.toList.length = s.size := by simp
  rw [h2, Bool.eq_iff_iff, decide_eq_true_iff, ← h3, List.isEmpty_iff, List.length_eq_zero_iff]
theorem not_ok {c : UInt8} (h : ¬ (97 ≤ (c.toNat : Int) ∧ (c.toNat : Int) ≤ 100)) : okc c = false := by simp [okc]; omega
theorem chk_long {s : ByteArray} (h : 200 < s.size) : 3 = chk s := by simp [chk, h]
theorem chk_bad {s : ByteArray} (h : ¬ 200 < s.size) (k : Nat) (hk : k < s.size) (hc : okc s[k] = false) : 2 = chk s := by
  have := good_false s k hk hc
  unfold chk; rw [if_neg h, if_neg (by omega), this]; rfl
theorem chk_empty {s : ByteArray} (h : s.size = 0) : 2 = chk s := by simp [chk, h]
theorem chk_good {s : ByteArray} (h : ¬ 200 < s.size) (h0 : s.size ≠ 0) (hg : goodL s.data.toList = true) : 0 = chk s := by simp [chk, h, h0, hg]

theorem ret_i {k : IntKind} {a b : Int} (h : a = b) : Ending.returned (.int k a) = .returned (.int k b) := by rw [h]

theorem check23 (s : ByteArray) (w : World) (hs : s.size ≤ maxLen) : Calls Try.prog 23 #[.string s] w fun e w' => e = .returned (.int .i64 (chk s)) ∧ w = w' := by
  unfold maxLen at hs
  by_cases h : 200 < s.size
  · go_enter Try.func23, Try.ntmps23
    go_wp2
    go_ret
    exact ⟨ret_i (chk_long h), rfl⟩
  · go_enter Try.func23, Try.ntmps23
    go_wp2
    go_loop [3] (fun i => ∃ k : Nat, k ≤ s.size ∧ i = .int .i64 k ∧ Hid (goodL (s.data.toList.take k) = true)) (fun i => s.size - (intOf i).toNat)
    case atStart => exact ⟨0, Nat.zero_le _, rfl, rfl⟩
    case round =>
      obtain ⟨k, hk, rfl, hg⟩ := hrel
      by_cases hlt : k < s.size
      · by_cases hc : (97 : Int) ≤ (s[k].toNat : Int) ∧ (s[k].toNat : Int) ≤ 100
        · obtain ⟨ha, hd⟩ := hc
          go_wp2
          go_round
          case rel => exact ⟨k + 1, by omega, by go_num, Lib.hid (by rw [take_snoc s k hlt, good_snoc, hg.out]; simp [okc, ha, hd])⟩
          case measure => simp [intOf]; omega
        · have hc' := Lib.hid hc
          have : (s[k].toNat : Int) < 97 ∨ 100 < (s[k].toNat : Int) := by omega
          clear hc
          rcases this with this | this
          all_goals
            go_wp2
            go_ret
            exact ⟨ret_i (chk_bad h k hlt (not_ok hc'.out)), rfl⟩
      · have hkl : k = s.size := by omega
        have hg' : goodL s.data.toList = true := by rw [← take_all s k (by omega)]; exact hg.out
        have hg2 := Lib.hid hg'
        clear hg' hg
        have he := Lib.hid (empty_iff s)
        clear hkl
        go_wp2
        all_goals go_ret
        · rename_i h1 _; exact ⟨ret_i (chk_empty (by rw [he.out] at h1; simpa using h1)), rfl⟩
        · rename_i h1 _; exact ⟨ret_i (chk_good h (by rw [he.out] at h1; simpa using h1) hg2.out), rfl⟩

theorem check55 (s : ByteArray) (w : World) (hs : s.size ≤ maxLen) : Calls Try.prog 55 #[.string s] w fun e w' => e = .returned (.int .i64 (chk s)) ∧ w = w' := by
  unfold maxLen at hs
  have he := Lib.hid (empty_iff s)
  by_cases h : 200 < s.size
  · go_enter Try.func55, Try.ntmps55
    go_wp2
    go_ret
    exact ⟨ret_i (chk_long h), rfl⟩
  · by_cases h0 : s.size = 0
    · have h1 : s.toList.isEmpty = true := by rw [he.out]; simp [h0]
      have h0' := Lib.hid h0
      clear h0
      go_enter Try.func55, Try.ntmps55
      go_wp2
      go_ret
      exact ⟨ret_i (chk_empty h0'.out), rfl⟩
    · have h1 : s.toList.isEmpty = false := by rw [he.out]; simp [h0]
      go_enter Try.func55, Try.ntmps55
      go_wp2
      go_loop [3, 11] (fun _ i => ∃ k : Nat, k ≤ s.size ∧ i = .int .i64 k ∧ Hid (goodL (s.data.toList.take k) = true)) (fun _ i => s.size - (intOf i).toNat)
      case atStart => exact ⟨0, Nat.zero_le _, rfl, rfl⟩
      case round =>
        obtain ⟨k, hk, rfl, hg⟩ := hrel
        by_cases hlt : k < s.size
        · by_cases hc : (97 : Int) ≤ (s[k].toNat : Int) ∧ (s[k].toNat : Int) ≤ 100
          · obtain ⟨ha, hd⟩ := hc
            go_wp2
            go_round
            case rel => exact ⟨k + 1, by omega, by go_num, Lib.hid (by rw [take_snoc s k hlt, good_snoc, hg.out]; simp [okc, ha, hd])⟩
            case measure => simp [intOf]; omega
          · have hc' := Lib.hid hc
            have : (s[k].toNat : Int) < 97 ∨ 100 < (s[k].toNat : Int) := by omega
            clear hc
            rcases this with this | this
            all_goals
              go_wp2
              go_ret
              exact ⟨ret_i (chk_bad h k hlt (not_ok hc'.out)), rfl⟩
        · have hg' : goodL s.data.toList = true := by rw [← take_all s k (by omega)]; exact hg.out
          have hg2 := Lib.hid hg'
          clear hg' hg
          go_wp2
          go_ret
          exact ⟨ret_i (chk_good h h0 hg2.out), rfl⟩
end Go.Proofs.Ytbcoaiaocfommaa
