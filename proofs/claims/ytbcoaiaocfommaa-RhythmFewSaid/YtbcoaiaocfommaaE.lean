import Derived.Test.YtbcoaiaocfommaaD
import Derived.Deep.RegionWith
import Derived.Deep.CutRange
namespace Go.Proofs.Ytbcoaiaocfommaa
open Go.RowKit

/-- `v` holds the ints `xs` in memory that was made after block `B`, or is an empty slice without room. -/
def Own (w : World) (B : Nat) (v : Value) (xs : List Int) : Prop := Ints w B v xs ∨ (xs = [] ∧ ∃ ao, v = .slice ao 0 0)

theorem Own.below {B : Nat} {v : Value} {xs : List Int} {w w' : World} (h : Own w B v xs) (hb : Below w.heap.size w w') : Own w' B v xs := h.imp (·.below hb) id

theorem Own.reads {B : Nat} {v : Value} {xs : List Int} {w : World} (h : Own w B v xs) : Reads w v xs := by
  rcases h with h | ⟨rfl, ao, rfl⟩
  · exact h.shape
  · exact ⟨ao, 0, rfl, fun h => absurd rfl h⟩
/-- What a function that makes a list of ints returns, to be read. -/
def MadeR (w : World) (xs : List Int) (e : Ending) (w' : World) : Prop := ∃ v, e = .returned v ∧ Reads w' v xs ∧ Below w.heap.size w w'

theorem app_own {ops : Array Oper} {rest : List Oper} {o : Oper} {a : Act} {Q : Exit → Act → World → Prop} {w : World} {B : Nat} {v : Value} {xs : List Int} {y : Int}
    (hown : Own w B v xs) (hlen : xs.length ≤ 1000000000) (hB : B ≤ w.heap.size) (hgd : o.guard = none) (s x : Operand)
    (ho : o.op = .call { callee := .builtin .append, args := #[s, x], argTypes := #[23, 23] }) (hs : a.eval s = v) (hx : a.eval x = .slice (some ⟨w.heap.size, 0, none⟩) 1 1)
    (h : ∀ v' w', Ints w' B v' (xs ++ [y]) → Below B w w' → wpList Try.prog ops Q rest (a.put o.dst v') w') : wpList Try.prog ops Q (o :: rest) a (w.alloc (.cells #[.int .i64 y] 3)) := by
  rcases hown with hown | ⟨rfl, ao, rfl⟩
  · exact app_int hown hlen hB hgd s x ho hs hx h
  · obtain ⟨i0, hi, hz0, hz1, hz2⟩ := info_parts info3
    refine wpList_append_grows _ hgd s x 23 ho 3 i0 (.int .i64 0) 1 8 Try.underlying23 hi hz0 hz1 hz2 rfl (by decide) ao 0 0 [] hs (fun _ => ⟨rfl, rfl⟩) rfl (fun b _ j u hj => by simp at hj)
      ⟨w.heap.size, 0, none⟩ 1 1 [.int .i64 y] hx rfl (cell_one_new _ _ _) (fun u hu => by simp at hu; subst hu; rfl) (by omega) (by unfold maxLen; omega) (by omega) ?_
    intro v' w' h2 h3
    refine h v' w' (own_base h2 (by simp; omega)) ?_
    exact ((Below.refl B w).alloc hB _).grown h3 (by simp; omega) (fun k hk => by simp at hk)

theorem pers_head {l : List UInt8} (q : Nat) (hq : perB l q = true) (hr : ∀ r, 1 ≤ r → r < q → perB l r = false) (h1 : 1 ≤ q) : ∀ n, q ≤ n → ∃ t, pers l n = (q : Int) :: t := by
  have hz : ∀ n, n < q → pers l n = [] := by
    intro n
    induction n with
    | zero => intro _; rfl
    | succ n ih => intro h; rw [pers_no (hr (n + 1) (by omega) h)]; exact ih (by omega)
  intro n
  induction n with
  | zero => intro h; omega
  | succ n ih =>
    intro h
    by_cases e : q = n + 1
    · subst e; refine ⟨[], ?_⟩; rw [pers_yes hq, hz n (by omega)]; simp
    · obtain ⟨t, ht⟩ := ih (by omega)
      unfold pers
      split
      · rw [ht]; exact ⟨_, rfl⟩
      · rw [ht]; exact ⟨_, rfl⟩

theorem pers_first {l : List UInt8} (h : 1 ≤ l.length) : pers l l.length ≠ [] ∧ (pers l l.length).getD 0 0 = leastP l := by
  obtain ⟨h1, h2, h3, h4⟩ := leastP_spec h
  obtain ⟨t, ht⟩ := pers_head _ h3 h4 h1 l.length h2
  rw [ht]; simp

def FirstOf (w : World) (p : Nat) (e : Ending) (w' : World) : Prop :=
  ∃ g m c, e = .returned (.slice (some ⟨g, 0, none⟩) m c) ∧ 1 ≤ m ∧ w'.cell? ⟨g, 0, none⟩ = some (.int .i64 p) ∧ (w'.alloc (.cells #[] 3)).cell? ⟨g, 0, none⟩ = some (.int .i64 p) ∧ Below w.heap.size w w'

theorem first26 (s : ByteArray) (w : World) (h1 : 1 ≤ s.size) (hs : s.size ≤ 1000000) :
    Calls Try.prog 26 #[.string s] w (FirstOf w (leastP s.data.toList)) :=
  (periods26 s w hs).mono fun _ w' ⟨v, he, hv, hb⟩ => by
    have hf := pers_first (l := s.data.toList) (by rw [size_len]; exact h1)
    rw [size_len] at hf
    obtain ⟨ao, c, rfl, hsh⟩ := hv.shape
    obtain ⟨g, rfl, hg, _, hc⟩ := hsh hf.1
    have hl : 1 ≤ (pers s.data.toList s.size).length := by
      rcases Nat.eq_zero_or_pos (pers s.data.toList s.size).length with e | e
      · exact absurd (List.length_eq_zero_iff.1 e) hf.1
      · exact e
    have hcell : w'.cell? ⟨g, 0, none⟩ = some (.int .i64 (leastP s.data.toList)) := by rw [hc 0 hl, hf.2]
    exact ⟨g, _, c, he, hl, hcell, by rw [World.cell?_alloc_past _ _ _ hg]; exact hcell, hb⟩

theorem Ints.alloc {B : Nat} {v : Value} {xs : List Int} {w : World} (h : Ints w B v xs) (o : Obj) : Ints (w.alloc o) B v xs := World.ownsRow.alloc h o
theorem Ints.drew {B : Nat} {v : Value} {xs : List Int} {w : World} (h : Ints w B v xs) : Ints w.drew B v xs := h

/-- What the reference's Critical holds behind its first statement. -/
def CritHead (w : World) (l : List UInt8) (n : Nat) (o r p : Value) (wx : World) : Prop :=
  (∃ ao, o = .slice ao 0 0) ∧ Ints wx w.heap.size r (locs l (n - 1)) ∧ p = .int .i64 (leastP l) ∧ Below w.heap.size w wx

set_option maxHeartbeats 2000000 in
set_option maxRecDepth 100000 in
theorem critical34 (s : ByteArray) (w : World) (h1 : 1 ≤ s.size) (hs : s.size ≤ 1000000) :
    Calls Try.prog 34 #[.string s] w (MadeR w (crits s.data.toList (leastP s.data.toList) (s.size - 1))) := by
  go_enter Try.func34, Try.ntmps34
  go_upto_region 1 with fail
  go_cut [3, 4, 5] from 7 to 13 (fun o r p wx => CritHead w s.data.toList s.size o r p wx)
  case first =>
    go_region_with (first | (go_at_call 33; refine (locals33 _ _ h1 hs).mono ?_; rintro e w1 ⟨v, rfl, hv, hb1⟩) | (go_at_call 26; refine (first26 _ _ h1 hs).mono ?_; rintro e w2 ⟨g, m, c, rfl, hm, hc, hcc, hb2⟩; have hm2 : (0 : Int) < (m : Int) := (by omega)))
    all_goals
      go_wp2_with fail
      go_meet
      have s1 := hb1.size
      have s2 := hb2.size
      simp at s1 s2
      refine ⟨?_, ?_, rfl, ?_⟩
      · exact ⟨_, rfl⟩
      · repeat (first | with_reducible exact Ints.base hv (by simp) | (with_reducible refine Ints.drew ?_) | (with_reducible refine Ints.alloc ?_ _) | (with_reducible refine Ints.below ?_ hb2))
      · repeat (first | with_reducible exact Below.refl _ _ | (with_reducible refine Below.drew ?_) | (with_reducible refine Below.alloc ?_ (by first | omega | (simp <;> omega)) _) | (with_reducible refine below_seq ?_ hb2 (Nat.le_refl _)) | (with_reducible refine below_seq ?_ hb1 (Nat.le_refl _)))
  case rest =>
    obtain ⟨⟨bo, rfl⟩, hr, rfl, hb⟩ := hcut
    obtain ⟨p, hp⟩ : ∃ p, p = leastP s.data.toList := ⟨_, rfl⟩
    rw [← hp]
    have hp' := Lib.hid hp
    clear hp
    obtain ⟨ao, c, rfl, hsh⟩ := hr.shape
    rw [locs_len] at hsh ⊢
    obtain ⟨m, hm2⟩ : ∃ m, m = s.size - 1 := ⟨_, rfl⟩
    rw [← hm2] at hsh ⊢
    have hm1 : m + 1 = s.size := by omega
    have hm3 := Lib.hid hm2
    clear hm2 hr
    go_wp2_with fail
    go_loopw [3, 6] (fun v i wr => ∃ k : Nat, k ≤ m ∧ i = .int .i64 (k : Int) ∧ Own wr wc.heap.size v (crits s.data.toList p k) ∧ Below wc.heap.size wc wr) (fun _ i _ => s.size + 1 - (intOf i).toNat)
    case atStart => exact ⟨0, by omega, rfl, .inr ⟨rfl, _, rfl⟩, Below.refl _ _⟩
    case round =>
      obtain ⟨k, hk, rfl, hown, hbk2⟩ := hrel
      have hsz2 := hbk2.size
      have hsz3 := hb.size
      by_cases hlt : k < m
      · obtain ⟨g, rfl, hg, _, hcell⟩ := hsh (fun e => by have := locs_len s.data.toList m; rw [e] at this; simp at this; omega)
        have hc0 : wr.cell? ⟨g, k, none⟩ = some (.int .i64 (localP s.data.toList (k + 1))) := by rw [hbk2.cell hg, hcell k hlt, locs_get _ _ _ hlt]
        have hlen := crits_le s.data.toList p k
        obtain ⟨q, hq⟩ : ∃ q, q = localP s.data.toList (k + 1) := ⟨_, rfl⟩
        rw [← hq] at hc0
        have hq' := Lib.hid hq
        have hcell' := Lib.hid hcell
        clear hq hcell hsh
        by_cases hqp : q = p
        · have hqp' := Lib.hid hqp
          have ht : ((q : Int) == (p : Int)) = true := by simp [hqp]
          clear hqp
          go_wp2_with (first | (at_builtin; refine app_own hown (by omega) (by omega) rfl _ _ rfl rfl rfl ?_; intro v' w3 hown3 hb3))
          go_roundw
          case rel => exact ⟨k + 1, by omega, by go_num, by rw [crits_yes (by rw [← hq'.out]; exact hqp'.out)]; exact .inl hown3, hbk2.trans hb3⟩
          case measure => simp [intOf]; omega
        · have hqp' := Lib.hid hqp
          have ht : ((q : Int) == (p : Int)) = false := by simp; omega
          clear hqp
          go_wp2
          go_roundw
          case rel => exact ⟨k + 1, by omega, by go_num, by rw [crits_no (by rw [← hq'.out]; exact hqp'.out)]; exact hown, hbk2⟩
          case measure => simp [intOf]; omega
      · have hkl : m = k := by omega
        have hkl := Lib.hid hkl
        go_wp2
        go_ret
        refine ⟨_, rfl, ?_, below_seq hb hbk2 (Nat.le_refl _)⟩
        rw [← hp'.out, ← hm3.out, hkl.out]
        exact hown.reads
end Go.Proofs.Ytbcoaiaocfommaa
