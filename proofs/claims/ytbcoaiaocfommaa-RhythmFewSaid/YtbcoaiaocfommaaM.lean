import Derived.Test.YtbcoaiaocfommaaL
import Derived.Test.YtbcoaiaocfommaaShA
import Derived.Deep.RegionLaw
namespace Go.Proofs.Ytbcoaiaocfommaa
open Go.RowKit

theorem clone58 (s : ByteArray) (w : World) (hs : s.size ≤ 1000000) :
    Calls Try.prog 58 #[.string s] w fun e w' => e = .returned (.string s) ∧ Below w.heap.size w w' := by
  go_enter Try.func58, Try.ntmps58
  go_wp2_with (first | (go_at_call 73; refine (Try.stringslite_Clone s _ (by omega)).mono ?_; rintro e w1 ⟨rfl, hb1⟩))
  go_ret
  exact ⟨rfl, hb1⟩

/-! ## rows of strings -/
def strV (l : List UInt8) : Value := .string ⟨l.toArray⟩
/-- `v` holds the strings `xs` in memory that was made after block `B`. -/
def Strs (w : World) (B : Nat) (v : Value) (xs : List (List UInt8)) : Prop := w.ownsRow B 9 1 v xs.length (xs.map strV)
theorem Strs.below {B : Nat} {v : Value} {xs : List (List UInt8)} {w w' : World} (h : Strs w B v xs) (hb : Below w.heap.size w w') : Strs w' B v xs := own_below h hb
theorem Strs.nil (w : World) (B : Nat) : Strs w B (.slice none 0 0) [] := World.ownsRow_nil _ _ _ _
theorem Strs.lit (w : World) (B : Nat) (hB : B ≤ w.heap.size) : Strs (w.alloc (.cells #[] 9)) B (.slice (some ⟨w.heap.size, 0, none⟩) 0 0) [] :=
  World.ownsRow_made w #[] 0 hB (by unfold maxLen; omega) (by simp)
theorem info9 : (Try.prog.info? 9).map (fun i => (i.zero, i.size, i.bytes)) = some (some (.string ByteArray.empty), 1, 16) := by kernel_rfl

theorem wp_app_str {o : Oper} {a : Act} {K : Act → World → Prop} {Q : Exit → Act → World → Prop} {w : World} {B : Nat} {v : Value} {xs : List (List UInt8)} {y : List UInt8}
    (hown : Strs w B v xs) (hlen : xs.length ≤ 1000000000) (hB : B ≤ w.heap.size) (s x : Operand)
    (ho : o.op = .call { callee := .builtin .append, args := #[s, x], argTypes := #[32, 32] }) (ad : Addr) (hx : a.eval x = .slice (some ad) 1 1) (hs : a.eval s = v) (hc : w.cell? ad = some (strV y))
    (h : ∀ v' w', Strs w' B v' (xs ++ [y]) → Below B w w' → K (a.put o.dst v') w') : o.wp Try.prog a w K Q := by
  obtain ⟨i0, hi, hz0, hz1, hz2⟩ := info_parts info9
  refine wp_append_own w s x 32 ho B 9 i0 (.string ByteArray.empty) 1 16 Try.underlying32 hi hz0 hz1 hz2 rfl (by decide) v xs.length (xs.map strV) hs hown ad 1 1 [strV y] hx rfl ?_ ?_ ?_ ?_ hB ?_
  · intro j u hj
    match j, hj with
    | 0, hj => simp at hj; subst hj; obtain ⟨b, o, sp⟩ := ad; simpa [Addr.add] using hc
  · intro u hu; simp at hu; subst hu; rfl
  · unfold maxLen; omega
  · omega
  · intro v' w' h2 h3 _
    refine h v' w' ?_ ?_
    · unfold Strs; simpa using h2
    · exact (Below.refl B w).grown h3 hB (fun k hk => (World.ownsRow.lt hown k hk).1)

/-- append(s, y) of one string. -/
theorem app_str {ops : Array Oper} {rest : List Oper} {o : Oper} {a : Act} {Q : Exit → Act → World → Prop} {w : World} {B : Nat} {v : Value} {xs : List (List UInt8)} {y : ByteArray}
    (hown : Strs w B v xs) (hlen : xs.length ≤ 1000000000) (hB : B ≤ w.heap.size) (hgd : o.guard = none) (s x : Operand)
    (ho : o.op = .call { callee := .builtin .append, args := #[s, x], argTypes := #[32, 32] }) (hs : a.eval s = v) (hx : a.eval x = .slice (some ⟨w.heap.size, 0, none⟩) 1 1)
    (h : ∀ v' w', Strs w' B v' (xs ++ [y.data.toList]) → Below B w w' → wpList Try.prog ops Q rest (a.put o.dst v') w') : wpList Try.prog ops Q (o :: rest) a (w.alloc (.cells #[.string y] 9)) := by
  refine wpList_plain hgd fun _ hK => wp_app_str (B := B) (y := y.data.toList) (World.ownsRow.alloc hown _) hlen (by simp; omega) s x ho ⟨w.heap.size, 0, none⟩ hx hs ?_ ?_
  · rw [World.cell?_alloc_at _ _ _ _ rfl]; rfl
  · intro v' w' h2 h3
    exact hK _ _ (h v' w' h2 (((Below.refl B w).alloc hB _).trans h3))

def wordsF : Nat → List UInt8 → List (List UInt8)
  | 0, _ => []
  | f + 1, l => if l = [] then [] else l.take (fw l) :: wordsF f (l.drop (fw l))
def words (l : List UInt8) : List (List UInt8) := wordsF l.length l
theorem wordsF_nil (f : Nat) : wordsF f [] = [] := by cases f <;> rfl
theorem wordsF_cons {f : Nat} {l : List UInt8} (h : l ≠ []) : wordsF (f + 1) l = l.take (fw l) :: wordsF f (l.drop (fw l)) := by rw [wordsF, if_neg h]
theorem wordsF_len : ∀ f l, (wordsF f l).length ≤ f := by
  intro f
  induction f with
  | zero => intro l; simp [wordsF]
  | succ f ih =>
    intro l; unfold wordsF
    split
    · simp
    · have := ih (l.drop (fw l)); rw [List.length_cons]; omega

def MadeStE (w : World) (xs : List (List UInt8)) (err : Int) (e : Ending) (w' : World) : Prop := ∃ v, e = .returned (.tuple #[v, .int .i64 err]) ∧ Strs w' w.heap.size v xs ∧ Below w.heap.size w w'

/-- What the loop of Lyndon holds: `gone` words, the rest `t`. -/
def LynRel (l : List UInt8) (w : World) (sv v : Value) (wr : World) : Prop :=
  ∃ (t : ByteArray) (f : Nat) (ws : List (List UInt8)), sv = .string t ∧ t.size ≤ f ∧ f + ws.length ≤ l.length ∧ t.size ≤ l.length ∧ ws ++ wordsF f t.data.toList = words l ∧ Strs wr w.heap.size v ws ∧ Below w.heap.size w wr

theorem lyndon27_bad (s : ByteArray) (w : World) (hs : s.size ≤ maxLen) (hc : chk s ≠ 0) :
    Calls Try.prog 27 #[.string s] w (MadeStE w [] (chk s)) := by
  have hc1 : (chk s != 0) = true := by simpa using hc
  clear hc
  go_enter Try.func27, Try.ntmps27
  go_wp2_with (first | (go_at_call 55; refine (check55 _ _ hs).mono ?_; rintro e w1 ⟨rfl, rfl⟩))
  go_ret2
  exact ⟨_, rfl, Strs.nil _ _, Below.refl _ _⟩

def strLen : Value → Nat
  | .string s => s.size
  | _ => 0

set_option maxHeartbeats 1000000 in
set_option maxRecDepth 100000 in
theorem lyndon27 (s : ByteArray) (w : World) (hc : chk s = 0) :
    Calls Try.prog 27 #[.string s] w (MadeStE w (words s.data.toList) 0) := by
  obtain ⟨h1, h2, hg⟩ := chk_size hc
  have hs : s.size ≤ 1000000 := by omega
  have hc1 : (chk s != 0) = false := by simpa using hc
  have hm : s.size ≤ maxLen := by unfold maxLen; omega
  clear hg hc
  go_enter Try.func27, Try.ntmps27
  go_wp2_with (first | (go_at_call 55; refine (check55 _ _ hm).mono ?_; rintro e w1 ⟨rfl, rfl⟩))
  go_loopw [0, 5, 6] (fun sv v _ wr => LynRel s.data.toList w sv v wr) (fun sv _ _ _ => strLen sv)
  case atStart => exact ⟨s, s.size, [], rfl, Nat.le_refl _, by rw [size_len]; simp, by rw [size_len]; exact Nat.le_refl _, by unfold words; rw [size_len]; rfl, Strs.nil _ _, Below.refl _ _⟩
  case round =>
    obtain ⟨t, f, ws, rfl, htf, hfl, htl, hws, hown, hb⟩ := hrel
    rw [size_len] at hfl htl
    have hws' := Lib.hid hws
    clear hws
    have hsz := hb.size
    have hem := empty_iff t
    by_cases hz : t.size = 0
    · have hem2 : t.toList.isEmpty = true := by rw [hem]; simp [hz]
      have hz' := Lib.hid hz
      clear hem hz
      go_wp2
      go_ret2
      exact ⟨_, rfl, by rw [← hws'.out, show t.data.toList = [] from List.length_eq_zero_iff.1 (by rw [size_len]; exact hz'.out), wordsF_nil, List.append_nil]; exact hown, hb⟩
    · have hem2 : t.toList.isEmpty = false := by rw [hem]; simp [hz]
      obtain ⟨p, hp⟩ : ∃ p, p = fw t.data.toList := ⟨_, rfl⟩
      have hsp := fw_spec (l := t.data.toList) (by rw [size_len]; omega)
      rw [← hp, size_len] at hsp
      obtain ⟨hp1, hp2, _, _⟩ := hsp
      have hp' := Lib.hid hp
      clear hem hp
      obtain ⟨f', rfl⟩ : ∃ f', f = f' + 1 := ⟨f - 1, by omega⟩
      have hne := Lib.hid (show t.data.toList ≠ [] from fun e => hz (by rw [← size_len, e]; rfl))
      have hcut1 := Lib.hid (show (t.extract 0 p).data.toList = t.data.toList.take p by rw [Lib.extract_data]; simp)
      have hcut2 := Lib.hid (show (t.extract p t.size).data.toList = t.data.toList.drop p by rw [Lib.extract_data]; exact List.take_of_length_le (by simp))
      have hcs1 : (t.extract 0 p).size ≤ 1000000 := by rw [ByteArray.size_extract]; omega
      have hcs2 := Lib.hid (show (t.extract p t.size).size = t.size - p by rw [ByteArray.size_extract]; omega)
      have hcs1' := Lib.hid hcs1
      clear hcs1 hz
      go_wp2_with (first | (go_at_call 57; refine (first57 t _ (by omega) (by omega)).mono ?_; rw [← hp'.out]; rintro e w1 ⟨rfl, hb1⟩) | (go_at_call 58; refine (clone58 _ _ hcs1'.out).mono ?_; rintro e w2 ⟨rfl, hb2⟩) | (at_builtin; refine app_str ((hown.below hb1).below hb2) (by omega) (by have := hb1.size; have := hb2.size; omega) rfl _ _ rfl rfl rfl ?_; intro v' w3 hown3 hb3))
      go_roundw
      case rel => exact ⟨_, f', ws ++ [(t.extract 0 p).data.toList], rfl, by rw [hcs2.out]; omega, by rw [List.length_append, List.length_singleton, size_len]; omega, by rw [hcs2.out, size_len]; omega, by rw [← hws'.out, wordsF_cons hne.out, ← hp'.out, hcut1.out, hcut2.out]; simp, hown3, (below_seq (below_seq hb hb1 (Nat.le_refl _)) hb2 (Nat.le_refl _)).trans hb3⟩
      case measure =>
        show (t.extract p t.size).size < t.size
        rw [hcs2.out]; omega
end Go.Proofs.Ytbcoaiaocfommaa
