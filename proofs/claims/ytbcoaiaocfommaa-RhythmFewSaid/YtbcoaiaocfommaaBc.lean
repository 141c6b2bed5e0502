import Derived.Test.YtbcoaiaocfommaaBb
import Derived.RangeFuncNested
import Derived.RangeFuncBound
import Derived.RangeFuncCalls
import Derived.RangeFuncLeaves
import Derived.Shelf.Abstract
import Derived.Shelf.RegionOpen
import Derived.OwnWalkIn
import Derived.TacticsInMore
import Derived.LoopNIn
import Derived.LoopIn
namespace Go.Proofs.Ytbcoaiaocfommaa
open Go.RowKit Go.Shelf
attribute [local go_sem] Oper.semAt_some

/-! ## the parts of a rhythm, as they are yielded -/
abbrev Ltr := { x : ByteArray // x.size ≤ 1000 }
def partAt (s : ByteArray) (hs : s.size ≤ 1000) (m i : Nat) : Ltr := ⟨s.extract i (i + m), by rw [ByteArray.size_extract]; omega⟩
def partsUp (s : ByteArray) (hs : s.size ≤ 1000) (m k : Nat) : List Ltr := (List.range k).map (partAt s hs m)
theorem partsUp_snoc (s : ByteArray) (hs : s.size ≤ 1000) (m k : Nat) : partsUp s hs m (k + 1) = partsUp s hs m k ++ [partAt s hs m k] := by unfold partsUp; rw [List.range_succ]; simp
theorem partsUp_len (s : ByteArray) (hs : s.size ≤ 1000) (m k : Nat) : (partsUp s hs m k).length = k := by unfold partsUp; simp
theorem partsUp_pre (s : ByteArray) (hs : s.size ≤ 1000) (m k n : Nat) (h : k ≤ n) : partsUp s hs m k <+: partsUp s hs m n := by
  unfold partsUp
  obtain ⟨d, rfl⟩ := Nat.exists_eq_add_of_le h
  rw [List.range_add, List.map_append]
  exact List.prefix_append _ _

/-- What a round keeps: the two boxes that the iterator has captured. -/
def Keep2 (Bl Bs : Nat) (A B : World) : Prop := B.cell? ⟨Bl, 0, none⟩ = A.cell? ⟨Bl, 0, none⟩ ∧ B.cell? ⟨Bs, 0, none⟩ = A.cell? ⟨Bs, 0, none⟩
theorem Keep2.t {Bl Bs : Nat} {A B C : World} (h : Keep2 Bl Bs A B) (k : Keep2 Bl Bs B C) : Keep2 Bl Bs A C := ⟨k.1.trans h.1, k.2.trans h.2⟩
theorem Keep2.of_below {Bl Bs n : Nat} {A B : World} (h : Below n A B) (h1 : Bl < n) (h2 : Bs < n) : Keep2 Bl Bs A B := ⟨h.cell (p := ⟨Bl, 0, none⟩) h1, h.cell (p := ⟨Bs, 0, none⟩) h2⟩

set_option maxRecDepth 100000 in
set_option maxHeartbeats 1000000 in
theorem parts78_in (F : Fence) (n : Nat) (h78 : F.fn 78) (hro : F.round = none) (hn : 1 ≤ n) (l Bl Bs : Nat) (s : ByteArray) (hs : s.size ≤ 1000) (m : Nat) (hm : 1 ≤ m) (hms : m ≤ s.size) (J Jx : List Ltr → World → Prop)
    (hY : ∀ pre x W, J pre W → pre.length < s.size + 1 - m → YieldAt F (n - 1) Try.prog l #[.string x.1] W fun e W' =>
      (e = .returned (.bool true) ∧ J (pre ++ [x]) W' ∧ Keep2 Bl Bs W W') ∨ (e = .returned (.bool false) ∧ Jx (pre ++ [x]) W'))
    (W : World) (hBl : W.cell? ⟨Bl, 0, none⟩ = some (.int .i64 (m : Int))) (hBs : W.cell? ⟨Bs, 0, none⟩ = some (.string s)) (h0 : J [] W) :
    CallsIn F n Try.prog 78 #[.func (.yield l) #[] #[], .pointer (some ⟨Bl, 0, none⟩), .pointer (some ⟨Bs, 0, none⟩)] W fun e W' => (∃ v, e = .returned v) ∧
      ((∃ ys, ys = partsUp s hs m (s.size + 1 - m) ∧ J ys W') ∨ (∃ pre, pre <+: partsUp s hs m (s.size + 1 - m) ∧ Jx pre W')) := by
  refine callsIn_of_wp Try.func78 rfl h78 ?_ hro
  simp only [Try.ntmps78, List.size_toArray, List.length_cons, List.length_nil, Nat.reduceAdd, Nat.reduceSub, Array.replicate_succ, Array.replicate_zero, List.push_toArray, List.append_toArray, List.nil_append, List.cons_append]
  gi_wp2
  gi_loopw [4] (fun p wr => ∃ k : Nat, k ≤ s.size + 1 - m ∧ p = .int .i64 (k : Int) ∧ wr.cell? ⟨Bl, 0, none⟩ = some (.int .i64 (m : Int)) ∧ wr.cell? ⟨Bs, 0, none⟩ = some (.string s) ∧ J (partsUp s hs m k) wr)
    (fun p wr => s.size + 1 - (intOf p).toNat)
  case atStart =>
    exact ⟨0, by omega, rfl, hBl, hBs, h0⟩
  case round =>
    obtain ⟨k, hk, rfl, hl, hb, hJs⟩ := hrel
    by_cases hlt : k + m ≤ s.size
    · obtain ⟨fn, tmps, assign, body, hy, hR⟩ := hY (partsUp s hs m k) (partAt s hs m k) wr hJs (by rw [partsUp_len]; omega)
      have hx : (partAt s hs m k).1 = s.extract k (k + m) := rfl
      rw [hx] at hy
      rw [← partsUp_snoc] at hR
      clear hx
      have f1 : IntKind.i64.wrap ((k : Int) + (m : Int)) = (k : Int) + (m : Int) := IntWalk.i64_in _ (by omega)
      have f2 : ((k : Int) + (m : Int)).toNat = k + m := by omega
      have f3 : (k : Int) + (m : Int) ≤ s.size := by omega
      gi_wp2
      refine hR.mono ?_
      rintro e W3 (⟨rfl, hJ3, hk3⟩ | ⟨rfl, hJx3⟩)
      · have hl3 := hk3.1.trans hl
        have hb3 := hk3.2.trans hb
        gi_wp2
        go_roundw
        case rel => exact ⟨k + 1, by omega, by go_num, hl3, hb3, hJ3⟩
        case measure => simp [intOf]; omega
      · gi_wp2
        refine bodyPost_ret (results_none rfl _ _ _) rfl ?_
        exact ⟨⟨_, rfl⟩, .inr ⟨_, partsUp_pre s hs m (k + 1) _ (by omega), hJx3⟩⟩
    · have hke : k = s.size + 1 - m := by omega
      have hke' := Lib.hid hke
      gi_wp2
      go_end0
      exact ⟨⟨_, rfl⟩, .inl ⟨_, by rw [hke'.out], hJs⟩⟩
end Go.Proofs.Ytbcoaiaocfommaa
