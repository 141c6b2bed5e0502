import Derived.Test.YtbcoaiaocfommaaSe
namespace Go.Proofs.Ytbcoaiaocfommaa
open Go.RowKit Go.Shelf
attribute [local go_sem] Oper.semAt_some

/-! ## parts of one length -/
abbrev LtrM (m : Nat) := { x : ByteArray // x.size = m }
def partM (s : ByteArray) (m i : Nat) : LtrM m := if h : (s.extract i (i + m)).size = m then ⟨s.extract i (i + m), h⟩ else ⟨⟨(List.replicate m 0).toArray⟩, by show (List.replicate m 0).toArray.size = m; simp⟩
theorem partM_val (s : ByteArray) (m i : Nat) (h : i + m ≤ s.size) : (partM s m i).1 = s.extract i (i + m) := by
  unfold partM
  rw [dif_pos (by rw [ByteArray.size_extract]; omega)]
def partsM (s : ByteArray) (m k : Nat) : List (LtrM m) := (List.range k).map (partM s m)
theorem partsM_snoc (s : ByteArray) (m k : Nat) : partsM s m (k + 1) = partsM s m k ++ [partM s m k] := by unfold partsM; rw [List.range_succ]; simp
theorem partsM_len (s : ByteArray) (m k : Nat) : (partsM s m k).length = k := by unfold partsM; simp
theorem partsM_pre (s : ByteArray) (m k n : Nat) (h : k ≤ n) : partsM s m k <+: partsM s m n := by
  unfold partsM
  obtain ⟨d, rfl⟩ := Nat.exists_eq_add_of_le h
  rw [List.range_add, List.map_append]
  exact List.prefix_append _ _

set_option maxRecDepth 100000 in
set_option maxHeartbeats 1000000 in
theorem parts78m_in (F : Fence) (n : Nat) (h78 : F.fn 78) (hro : F.round = none) (hn : 1 ≤ n) (l Bl Bs : Nat) (s : ByteArray) (hs : s.size ≤ 1000) (m : Nat) (hm : 1 ≤ m) (hms : m ≤ s.size) (J Jx : List (LtrM m) → World → Prop)
    (hY : ∀ pre x W, J pre W → pre.length < s.size + 1 - m → YieldAt F (n - 1) Try.prog l #[.string x.1] W fun e W' =>
      (e = .returned (.bool true) ∧ J (pre ++ [x]) W' ∧ Keep2 Bl Bs W W') ∨ (e = .returned (.bool false) ∧ Jx (pre ++ [x]) W'))
    (W : World) (hBl : W.cell? ⟨Bl, 0, none⟩ = some (.int .i64 (m : Int))) (hBs : W.cell? ⟨Bs, 0, none⟩ = some (.string s)) (h0 : J [] W) :
    CallsIn F n Try.prog 78 #[.func (.yield l) #[] #[], .pointer (some ⟨Bl, 0, none⟩), .pointer (some ⟨Bs, 0, none⟩)] W fun e W' => (∃ v, e = .returned v) ∧
      ((∃ ys, ys = partsM s m (s.size + 1 - m) ∧ J ys W') ∨ (∃ pre, pre <+: partsM s m (s.size + 1 - m) ∧ Jx pre W')) := by
  refine callsIn_of_wp Try.func78 rfl h78 ?_ hro
  simp only [Try.ntmps78, List.size_toArray, List.length_cons, List.length_nil, Nat.reduceAdd, Nat.reduceSub, Array.replicate_succ, Array.replicate_zero, List.push_toArray, List.append_toArray, List.nil_append, List.cons_append]
  gi_wp2
  gi_loopw [4] (fun p wr => ∃ k : Nat, k ≤ s.size + 1 - m ∧ p = .int .i64 (k : Int) ∧ wr.cell? ⟨Bl, 0, none⟩ = some (.int .i64 (m : Int)) ∧ wr.cell? ⟨Bs, 0, none⟩ = some (.string s) ∧ J (partsM s m k) wr)
    (fun p wr => s.size + 1 - (intOf p).toNat)
  case atStart =>
    exact ⟨0, by omega, rfl, hBl, hBs, h0⟩
  case round =>
    obtain ⟨k, hk, rfl, hl, hb, hJs⟩ := hrel
    by_cases hlt : k + m ≤ s.size
    · obtain ⟨fn, tmps, assign, body, hy, hR⟩ := hY (partsM s m k) (partM s m k) wr hJs (by rw [partsM_len]; omega)
      have hx : (partM s m k).1 = s.extract k (k + m) := partM_val s m k hlt
      rw [hx] at hy
      rw [← partsM_snoc] at hR
      clear hx
      have f1 : IntKind.i64.wrap ((k : Int) + (m : Int)) = (k : Int) + (m : Int) := IntWalk.i64_in _ (by omega)
      have f2 : ((k : Int) + (m : Int)).toNat = k + m := by omega
      have f3 : (k : Int) + (m : Int) ≤ s.size := by omega
      gi_wp2
      refine hR.mono ?_
      rintro e W3 (⟨rfl, hJ3, hk3⟩ | ⟨rfl, hJx3⟩)
      · have hl3 := hk3.1.trans hl
        have hb3 := hk3.2.trans hb
        gi_wp2
        go_roundw
        case rel => exact ⟨k + 1, by omega, by go_num, hl3, hb3, hJ3⟩
        case measure => simp [intOf]; omega
      · gi_wp2
        refine bodyPost_ret (results_none rfl _ _ _) rfl ?_
        exact ⟨⟨_, rfl⟩, .inr ⟨_, partsM_pre s m (k + 1) _ (by omega), hJx3⟩⟩
    · have hke : k = s.size + 1 - m := by omega
      have hke' := Lib.hid hke
      gi_wp2
      go_end0
      exact ⟨⟨_, rfl⟩, .inl ⟨_, by rw [hke'.out], hJs⟩⟩

theorem parts78m_stops (F : Fence) (n : Nat) (h78 : F.fn 78) (hro : F.round = none) (hn : 1 ≤ n) (Bl Bs : Nat) (s : ByteArray) (hs : s.size ≤ 1000) (m : Nat) (hm : 1 ≤ m) (hms : m ≤ s.size) (w : World) (h1 : Bl < w.heap.size) (h2 : Bs < w.heap.size)
    (hBl : w.cell? ⟨Bl, 0, none⟩ = some (.int .i64 (m : Int))) (hBs : w.cell? ⟨Bs, 0, none⟩ = some (.string s)) :
    SeqStopsK F n Try.prog 78 #[.pointer (some ⟨Bl, 0, none⟩), .pointer (some ⟨Bs, 0, none⟩)] (fun x : LtrM m => #[Value.string x.1]) (Keep2 Bl Bs) (fun ys => ys = partsM s m (s.size + 1 - m)) (fun pre => pre <+: partsM s m (s.size + 1 - m)) (s.size + 1 - m) w := fun l J Jx W hW _ _ hY h0 =>
  parts78m_in F n h78 hro hn l Bl Bs s hs m hm hms J Jx hY W ((hW.cell (p := ⟨Bl, 0, none⟩) h1).trans hBl) ((hW.cell (p := ⟨Bs, 0, none⟩) h2).trans hBs) h0

/-! ## the squares among parts -/
def sqX {m : Nat} (h : Nat) (x : LtrM m) : Bool := x.1.data.toList.take h == x.1.data.toList.drop h
def keyM {m : Nat} (x : LtrM m) : Lit := .string x.1.data.toList
def sqKeys {m : Nat} (h : Nat) (pre : List (LtrM m)) : List Lit := (pre.filter (sqX h)).map keyM
def sqD (K0 : List Lit) {m : Nat} (h : Nat) (pre : List (LtrM m)) : DataW Unit := Maps.setOf (.lit (.bool true)) (K0 ++ sqKeys h pre)
theorem sqKeys_yes {m h : Nat} {pre : List (LtrM m)} {x : LtrM m} (hx : sqX h x = true) : sqKeys h (pre ++ [x]) = sqKeys h pre ++ [keyM x] := by unfold sqKeys; simp [List.filter_append, hx]
theorem sqKeys_no {m h : Nat} {pre : List (LtrM m)} {x : LtrM m} (hx : sqX h x = false) : sqKeys h (pre ++ [x]) = sqKeys h pre := by unfold sqKeys; simp [List.filter_append, hx]
theorem sqD_yes {K0 : List Lit} {m h : Nat} {pre : List (LtrM m)} {x : LtrM m} (hx : sqX h x = true) : sqD K0 h (pre ++ [x]) = (sqD K0 h pre).put (keyM x) (.lit (.bool true)) := by
  unfold sqD
  rw [sqKeys_yes hx, ← List.append_assoc]
  exact Maps.setOf_snoc _ _ _
theorem sqD_no {K0 : List Lit} {m h : Nat} {pre : List (LtrM m)} {x : LtrM m} (hx : sqX h x = false) : sqD K0 h (pre ++ [x]) = sqD K0 h pre := by unfold sqD; rw [sqKeys_no hx]
theorem key_ltrM {m : Nat} (hm : m ≤ 1000) (x : LtrM m) : keyOf Try.prog 9 (.string x.1) = some (keyM x) := by
  refine WideMaps.keyOf_string_mk Try.underlying9 ?_
  have := x.2
  unfold maxLen; omega
/-- The keys of all squares of halves up to `k`. -/
def keysTo (s : ByteArray) : Nat → List Lit
  | 0 => []
  | k + 1 => keysTo s k ++ sqKeys (k + 1) (partsM s (2 * (k + 1)) (s.size + 1 - 2 * (k + 1)))
end Go.Proofs.Ytbcoaiaocfommaa
