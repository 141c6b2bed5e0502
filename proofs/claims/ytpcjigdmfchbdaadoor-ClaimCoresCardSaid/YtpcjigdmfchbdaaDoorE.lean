import Derived.Test.YtpcjigdmfchbdaaDoorG
import Derived.RangeFuncBox
import Derived.Maps.AppendAt
import Derived.OwnWalkIn
namespace Go.Proofs.YtpcjigdmfchbdaaDoor
open Go.RowKit Go.Shelf Cl
attribute [local go_sem] Oper.semAt_some

def natI (l : List Nat) : List Int := l.map Int.ofNat
/-- A list of one's own; it is nil just where it is empty. -/
def ListAt (w' : World) (B : Nat) (v : Value) (xs : List Int) : Prop := Ints w' B v xs ∧ (v = .slice none 0 0 ↔ xs = [])
def ListEnd (w : World) (xs : List Int) (e : Ending) (w' : World) : Prop := ∃ v, e = .returned v ∧ ListAt w' w.heap.size v xs ∧ Below w.heap.size w w'
theorem bl_len (S : Nat) : (bl S).length ≤ 12 := by
  have h := List.length_filter_le (fun j => S.testBit j) (List.range 12)
  rw [List.length_range] at h
  exact h

def Coll (w : World) (b R : Nat) (k : Nat) (W : World) : Prop :=
  (∃ v, Boxed W b 24 v ∧ W.ownsRow w.heap.size 3 1 v ((natI ((bl R).take k)).length) ((natI ((bl R).take k)).map (Value.int .i64)) ∧ (v = .slice none 0 0 ↔ natI ((bl R).take k) = [])) ∧ Below w.heap.size w W

set_option maxHeartbeats 4000000 in
set_option maxRecDepth 100000 in
theorem appendSeq87 {w : World} (hTb : Tab w) {R : Nat} (hR8 : R < 4096) :
    Calls Tryd.prog 87 #[.slice none 0 0, .func (.func 75) #[.int .u64 (R : Int)] #[]] w (ListEnd w (natI (bl R))) := by
  obtain ⟨i0, hi, hz0, hz1, hz2⟩ := info_parts info3
  have hTb' := Lib.hid hTb
  clear hTb
  refine (callsIn_wide (n := 9)).1 ?_
  refine callsIn_of_wp_marks Tryd.func87 rfl trivial ?_ rfl
  simp only [Tryd.ntmps87, List.size_toArray, List.length_cons, List.length_nil, Nat.reduceAdd, Nat.reduceSub, Array.replicate_succ, Array.replicate_zero, List.push_toArray, List.append_toArray, List.nil_append, List.cons_append]
  refine wpIn_wide.2 ?_
  go_wp2_with fail
  have bO := Boxed.new w 24 (.slice none 0 0)
  have hbj : Below w.heap.size w (w.alloc (.cells #[.slice none 0 0] 24)) := (Below.refl _ _).alloc (Nat.le_refl _) _
  have hsj : (w.alloc (.cells #[.slice none 0 0] 24)).heap.size = w.heap.size + 1 := by simp
  obtain ⟨wj, hwj⟩ : ∃ wj, wj = w.alloc (.cells #[.slice none 0 0] 24) := ⟨_, rfl⟩
  rw [← hwj] at bO hbj hsj ⊢
  obtain ⟨b, hb⟩ : ∃ b, b = w.heap.size := ⟨_, rfl⟩
  rw [← hb] at bO ⊢
  have hle : w.heap.size ≤ b := by omega
  have hlj : w.heap.size ≤ wj.heap.size := by omega
  clear hwj hb hsj
  refine wpIn_wide.1 (wpIn_each (n := 9) (by omega) hR8 (by rfl) rfl (Coll w b R) (fun k W h => hTb'.out.call h.2) ?hI ?h0
    (fun x => { tmps := #[.slice none 0 0, .func (.func 75) #[.int .u64 R] #[], .pointer (some ⟨b, 0, none⟩), undef, .slice none 0 0, .int .i64 x, .func (.func 75) #[.int .u64 R] #[], .int .i64 x, undef, undef, undef, undef, undef], defers := [] }) ?assign ?body ?done)
  case hI =>
    exact OwnFrom.and (Own.from (holdsRow_own w.heap.size b 24 3 1 (fun k => (natI ((bl R).take k)).length) (fun k => (natI ((bl R).take k)).map (Value.int .i64)) (fun k v => v = .slice none 0 0 ↔ natI ((bl R).take k) = [])) _) (ownFrom_below (Nat.le_refl _) (by omega))
  case h0 => exact ⟨⟨_, bO, World.ownsRow_nil _ _ _ _, by simp [natI]⟩, hbj⟩
  case assign =>
    intro l x W K hK
    gi_wp2
    exact hK
  case body =>
    rintro l k x W ⟨⟨v, hv, hrow, hnil⟩, hB⟩ hx
    have hc := hv.cell
    have hl8 : (natI ((bl R).take k)).length ≤ 12 := by have := bl_len R; simp [natI]; omega
    obtain ⟨hk, he⟩ := List.getElem?_eq_some_iff.1 hx
    have hsn : natI ((bl R).take (k + 1)) = natI ((bl R).take k) ++ [(x : Int)] := by rw [List.take_succ_eq_append_getElem hk, he]; simp [natI]
    have hsn' : (natI ((bl R).take (k + 1))).map (Value.int .i64) = (natI ((bl R).take k)).map (Value.int .i64) ++ [Value.int .i64 (x : Int)] := by rw [hsn]; simp
    have hsl : (natI ((bl R).take (k + 1))).length = (natI ((bl R).take k)).length + 1 := by rw [hsn]; simp
    obtain ⟨L, hL⟩ : ∃ L, L = (natI ((bl R).take k)).length := ⟨_, rfl⟩
    rw [← hL] at hrow hl8 hsl
    clear hL
    have h1 : 1 ≤ 9 - 1 - 1 := by omega
    gi_wp2_with (gi_at_builtin; refine wpListIn_append_own _ rfl _ _ 24 rfl w.heap.size 3 i0 (.int .i64 0) 1 8 Tryd.underlying24 hi hz0 hz1 hz2 rfl (by decide) _ _ _ rfl (hrow.alloc _) ⟨W.heap.size, 0, none⟩ 1 1 [.int .i64 x] rfl rfl (cell_one_new _ _ _) (by simp [Value.oneCell']) (by unfold maxLen; omega) (by omega) (by have := hB.size; simp; omega) ?_; intro v' w1 hown' hgrow _; obtain ⟨g', cap', rfl⟩ := ownsRow_succ hown'; obtain ⟨hv1, hv2, hr2, hk2, hb2⟩ := hv.appended (by decide) hrow hB.size hle hown' hgrow; have hc1 := hv1.cell; have hf1 := hv1.frozen)
    refine ⟨hk2.from _, ⟨_, hv2, ?_, ?_⟩, hB.trans hb2⟩
    · rw [hsl, hsn']; exact hr2
    · rw [hsn]; simp
  case done =>
    rintro D W hD ⟨⟨v, hv, hrow, hnil⟩, hB⟩ hK
    have hc := hv.cell
    rw [List.take_length] at hrow hnil
    go_wp2_with fail
    show LeavesInM _ _ _ _ _ _ _ _ _
    refine leaves_marks w.heap.size (fun W => ListAt W w.heap.size v (natI (bl R)) ∧ Below w.heap.size w W) ?_ ?_ [D] _ ⟨⟨hrow, hnil⟩, hB⟩ ⟨by simp, fun E hE => by simp at hE; subst hE; exact ⟨by omega, hK⟩⟩
    · exact fun W D kb hD hK => ⟨⟨ownsRow_putObj kb.1.1 _ hK rfl, kb.1.2⟩, below_put kb.2 hD hK⟩
    · exact fun W kb => ⟨_, results_tmp rfl _ _ _, v, rfl, kb.1, kb.2⟩

set_option maxHeartbeats 4000000 in
theorem collect74 {w : World} (hTb : Tab w) {R : Nat} (hR8 : R < 4096) :
    Calls Tryd.prog 74 #[.func (.func 75) #[.int .u64 (R : Int)] #[]] w (ListEnd w (natI (bl R))) := by
  have hc := Lib.hid (appendSeq87 hTb hR8)
  clear hTb
  go_enter Tryd.func74, Tryd.ntmps74
  go_wp2_with fail
  refine (hc.out).mono ?_
  rintro e w' ⟨v, rfl, hv, hb⟩
  go_wp2_with fail
  go_ret
  exact ⟨v, rfl, hv, hb⟩

set_option maxHeartbeats 4000000 in
theorem list49 {w : World} (hTb : Tab w) {R : Nat} (hR8 : R < 4096) :
    Calls Tryd.prog 49 #[.int .u64 (R : Int)] w (ListEnd w (natI (bl R))) := by
  have hc := Lib.hid (collect74 hTb hR8)
  clear hTb
  go_enter Tryd.func49, Tryd.ntmps49
  go_wp2_with fail
  refine (hc.out).mono ?_
  rintro e w' ⟨v, rfl, hv, hb⟩
  go_wp2_with fail
  go_ret
  exact ⟨v, rfl, hv, hb⟩
end Go.Proofs.YtpcjigdmfchbdaaDoor
