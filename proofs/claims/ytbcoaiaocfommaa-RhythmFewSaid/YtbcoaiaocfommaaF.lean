import Derived.Test.YtbcoaiaocfommaaC
import Derived.IntWalk
namespace Go.Proofs.Ytbcoaiaocfommaa
open Go.RowKit

theorem int_eq {k : IntKind} {a b : Int} (h : a = b) : Value.int k a = .int k b := by rw [h]
theorem byte_eq (s : ByteArray) (a b : Nat) (ha : a < s.size) (hb : b < s.size) : ((s[a].toNat : Int) == (s[b].toNat : Int)) = (s.data.toList.getD a 0 == s.data.toList.getD b 0) := by
  have e1 : s.data.toList.getD a 0 = s[a] := by rw [List.getD_eq_getElem?_getD, List.getElem?_eq_getElem (by simpa using ha)]; rfl
  have e2 : s.data.toList.getD b 0 = s[b] := by rw [List.getD_eq_getElem?_getD, List.getElem?_eq_getElem (by simpa using hb)]; rfl
  rw [e1, e2, Bool.eq_iff_iff, beq_iff_eq, beq_iff_eq]
  constructor
  · intro h; exact UInt8.toNat_inj.1 (by omega)
  · intro h; rw [h]

/-! ## runs -/
abbrev RunT := Nat × Nat × Nat
def rcells (rs : List RunT) : List Value := rs.flatMap fun r => [.int .i64 (r.1 : Int), .int .i64 (r.2.1 : Int), .int .i64 (r.2.2 : Int)]
theorem rcells_len (rs : List RunT) : (rcells rs).length = rs.length * 3 := by
  induction rs with
  | nil => rfl
  | cons r rs ih => unfold rcells at *; rw [List.flatMap_cons, List.length_append, ih, List.length_cons]; simp; omega
theorem rcells_append (a b : List RunT) : rcells (a ++ b) = rcells a ++ rcells b := by unfold rcells; rw [List.flatMap_append]

/-- `v` holds the runs `rs` in memory that was made after block `B`. -/
def Runs3 (w : World) (B : Nat) (v : Value) (rs : List RunT) : Prop := w.ownsRow B 62 3 v rs.length (rcells rs)
theorem Runs3.below {B : Nat} {v : Value} {xs : List RunT} {w w' : World} (h : Runs3 w B v xs) (hb : Below w.heap.size w w') : Runs3 w' B v xs := own_below h hb
theorem Runs3.base {B B' : Nat} {v : Value} {xs : List RunT} {w : World} (h : Runs3 w B v xs) (hb : B' ≤ B) : Runs3 w B' v xs := own_base h hb
theorem Runs3.nil (w : World) (B : Nat) : Runs3 w B (.slice none 0 0) [] := World.ownsRow_nil _ _ _ _

theorem info62 : (Try.prog.info? 62).map (fun i => (i.zero, i.size, i.bytes)) = some (some (.agg #[.int .i64 0, .int .i64 0, .int .i64 0]), 3, 24) := by kernel_rfl

theorem cell_three_new (w : World) (a b c : Value) (t : TypeId) : ∀ j u, [a, b, c][j]? = some u → (w.alloc (.cells #[a, b, c] t)).cell? ((⟨w.heap.size, 0, none⟩ : Addr).add j) = some u := by
  intro j u h
  match j, h with
  | 0, h => simp only [List.getElem?_cons_zero, Option.some.injEq] at h; subst h; show (w.alloc (.cells #[a, b, c] t)).cell? ⟨w.heap.size, 0, none⟩ = _; rw [World.cell?_alloc_at _ _ _ _ rfl]; rfl
  | 1, h => simp only [List.getElem?_cons_zero, List.getElem?_cons_succ, Option.some.injEq] at h; subst h; show (w.alloc (.cells #[a, b, c] t)).cell? ⟨w.heap.size, 1, none⟩ = _; rw [World.cell?_alloc_at _ _ _ _ rfl]; rfl
  | 2, h => simp only [List.getElem?_cons_zero, List.getElem?_cons_succ, Option.some.injEq] at h; subst h; show (w.alloc (.cells #[a, b, c] t)).cell? ⟨w.heap.size, 2, none⟩ = _; rw [World.cell?_alloc_at _ _ _ _ rfl]; rfl

/-- append(s, run) of one run. -/
theorem app_run {ops : Array Oper} {rest : List Oper} {o : Oper} {a : Act} {Q : Exit → Act → World → Prop} {w : World} {B : Nat} {v : Value} {xs : List RunT} {r : RunT}
    (hown : Runs3 w B v xs) (hlen : xs.length ≤ 1000000000) (hB : B ≤ w.heap.size) (hgd : o.guard = none) (s x : Operand)
    (ho : o.op = .call { callee := .builtin .append, args := #[s, x], argTypes := #[39, 39] }) (hs : a.eval s = v) (hx : a.eval x = .slice (some ⟨w.heap.size, 0, none⟩) 1 1)
    (h : ∀ v' w', Runs3 w' B v' (xs ++ [r]) → Below B w w' → wpList Try.prog ops Q rest (a.put o.dst v') w') : wpList Try.prog ops Q (o :: rest) a (w.alloc (.cells #[.int .i64 r.1, .int .i64 r.2.1, .int .i64 r.2.2] 62)) := by
  obtain ⟨i0, hi, hz0, hz1, hz2⟩ := info_parts info62
  refine wpList_append_own _ hgd s x 39 ho B 62 i0 (.agg #[.int .i64 0, .int .i64 0, .int .i64 0]) 3 24 Try.underlying39 hi hz0 hz1 hz2 rfl (by decide) v xs.length (rcells xs) hs (World.ownsRow.alloc hown _) ⟨w.heap.size, 0, none⟩ 1 1 [.int .i64 r.1, .int .i64 r.2.1, .int .i64 r.2.2] hx rfl ?_ ?_ ?_ ?_ ?_ ?_
  · exact cell_three_new _ _ _ _ _
  · intro u hu; simp at hu; rcases hu with rfl | rfl | rfl <;> rfl
  · unfold maxLen; omega
  · omega
  · simp; omega
  · intro v' w' h2 h3 _
    refine h v' w' ?_ ?_
    · unfold Runs3; rw [rcells_append, List.length_append]; exact h2
    · exact ((Below.refl B w).alloc hB _).grown h3 (by simp; omega) (fun k hk => (World.ownsRow.lt hown k hk).1)

def extB (l : List UInt8) (p t : Nat) : Bool := decide (t < l.length) && (l.getD t 0 == l.getD (t - p) 0)
def extTo (l : List UInt8) (p a : Nat) : Nat := lst (fun t => !extB l p t) a (l.length + 1 - a)
theorem extTo_spec {l : List UInt8} {p a : Nat} (h : a ≤ l.length) : a ≤ extTo l p a ∧ extTo l p a ≤ l.length ∧ extB l p (extTo l p a) = false ∧ ∀ r, a ≤ r → r < extTo l p a → extB l p r = true := by
  have := lst_spec (fun t => !extB l p t) (l.length + 1 - a) a ⟨l.length, h, by omega, by simp [extB]⟩
  unfold extTo
  refine ⟨this.1, by omega, by simpa using this.2.2.1, fun r h1 h2 => by simpa using this.2.2.2 r h1 h2⟩
theorem extTo_eq {l : List UInt8} {p a t : Nat} (h1 : a ≤ t) (h2 : t ≤ l.length) (ht : extB l p t = false) (hr : ∀ r, a ≤ r → r < t → extB l p r = true) : extTo l p a = t := by
  unfold extTo; exact lst_eq _ _ _ _ h1 (by omega) (by simp [ht]) (fun r h3 h4 => by simp [hr r h3 h4])

def sub (l : List UInt8) (i j : Nat) : List UInt8 := (l.drop i).take (j - i)
def runHere (l : List UInt8) (p a t : Nat) : Bool := decide (2 * p ≤ t - a) && (leastP (sub l a t) == p)
def runsL (l : List UInt8) (p : Nat) : Nat → Nat → List RunT
  | 0, _ => []
  | f + 1, a => if a + 2 * p ≤ l.length then (if runHere l p a (extTo l p (a + p)) then [(a, extTo l p (a + p), p)] else []) ++ runsL l p f (extTo l p (a + p) - p + 1) else []

theorem runsL_end (l : List UInt8) (p f a : Nat) (h : ¬ a + 2 * p ≤ l.length) : runsL l p f a = [] := by cases f <;> simp [runsL, h]
theorem runsL_yes {l : List UInt8} {p f a t : Nat} (h : a + 2 * p ≤ l.length) (ht : extTo l p (a + p) = t) (hr : runHere l p a t = true) : runsL l p (f + 1) a = (a, t, p) :: runsL l p f (t - p + 1) := by rw [runsL, if_pos h, ht, if_pos hr]; rfl
theorem runsL_no {l : List UInt8} {p f a t : Nat} (h : a + 2 * p ≤ l.length) (ht : extTo l p (a + p) = t) (hr : runHere l p a t = false) : runsL l p (f + 1) a = runsL l p f (t - p + 1) := by rw [runsL, if_pos h, ht, if_neg (by simp [hr])]; rfl

def MadeRuns (w : World) (xs : List RunT) (e : Ending) (w' : World) : Prop := ∃ v, e = .returned v ∧ Runs3 w' w.heap.size v xs ∧ Below w.heap.size w w'

/-- What the loop of runsOf holds. -/
def RunsRel (l : List UInt8) (p n : Nat) (w : World) (v i : Value) (wr : World) : Prop :=
  ∃ (a f : Nat) (rs : List RunT), a ≤ n + 1 ∧ n + 1 ≤ f + a ∧ rs.length ≤ a ∧ i = .int .i64 (a : Int) ∧ rs ++ runsL l p f a = runsL l p (n + 1) 0 ∧ Runs3 wr w.heap.size v rs ∧ Below w.heap.size w wr

set_option maxHeartbeats 2000000 in
set_option maxRecDepth 100000 in
theorem runsOf62 (s : ByteArray) (p : Nat) (w : World) (hs : s.size ≤ 1000000) (hp1 : 1 ≤ p) (hp2 : 2 * p ≤ s.size) :
    Calls Try.prog 62 #[.string s, .int .i64 p] w (MadeRuns w (runsL s.data.toList p (s.size + 1) 0)) := by
  go_enter Try.func62, Try.ntmps62
  go_wp2_with fail
  go_loopw [5, 6, 7] (fun v i _ wr => RunsRel s.data.toList p s.size w v i wr) (fun _ i _ _ => s.size + 1 - (intOf i).toNat)
  case atStart => exact ⟨0, s.size + 1, [], by omega, by omega, Nat.le_refl _, rfl, rfl, Runs3.nil _ _, Below.refl _ _⟩
  case round =>
    obtain ⟨a, f, rs, ha, hf, hrl, rfl, hrs, hown, hb⟩ := hrel
    obtain ⟨wo, rfl⟩ : ∃ wo : World, wo = wr := ⟨_, rfl⟩
    have hrs' := Lib.hid hrs
    clear hrs
    have hsz := hb.size
    by_cases hlt : (a : Int) + 2 * p ≤ s.size
    · have hdec : decide ((a : Int) + 2 * p ≤ s.size) = true := by simpa using hlt
      go_wp2_with fail
      go_loopw [7] (fun j wr => ∃ t : Nat, a + p ≤ t ∧ t ≤ s.size ∧ j = .int .i64 (t : Int) ∧ Hid (∀ r, a + p ≤ r → r < t → extB s.data.toList p r = true) ∧ Below wo.heap.size wo wr) (fun j _ => s.size - (intOf j).toNat)
      case atStart => exact ⟨a + p, by omega, by omega, int_eq (by omega), Lib.hid (fun r _ _ => by omega), Below.refl _ _⟩
      case round =>
        obtain ⟨t, ht1, ht2, rfl, hext, hbt⟩ := hrel
        have hszt := hbt.size
        by_cases hgo : t < s.size ∧ s.data.toList.getD t 0 = s.data.toList.getD (t - p) 0
        · obtain ⟨htn, hq⟩ := hgo
          have e1 : IntKind.i64.wrap ((t : Int) - (p : Int)) = (t : Int) - p := IntWalk.i64_in _ (by omega)
          have e3 : (t : Int) - p < s.size := by omega
          have e4 : (t : Int) < s.size := by omega
          have e5 : t - p < s.size := by omega
          have e6 : 0 ≤ (t : Int) - p := by omega
          have e2 : ((t : Int) - p).toNat = t - p := by omega
          have e7 : (p : Int) ≤ t := by omega
          have e8 : p ≤ t := by omega
          have hbe := byte_eq s t (t - p) htn e5
          have hq2 : ((s[t].toNat : Int) == (s[t - p].toNat : Int)) = true := by rw [hbe]; simpa using hq
          have hq' := Lib.hid hq
          clear hq hbe
          have hd : decide (t < s.size) = true := by simpa using htn
          go_wp2
          go_quiet (fail)
          go_wp2
          go_roundw
          case rel => exact ⟨t + 1, by omega, by omega, by go_num, Lib.hid (fun r h1 h2 => by
            by_cases e : r = t
            · rw [e]; unfold extB; rw [hq'.out, size_len]; simp [htn]
            · exact hext.out r h1 (by omega)), below_drewN hbt _⟩
          case measure => simp [intOf]; omega
        · have hto : extTo s.data.toList p (a + p) = t := extTo_eq ht1 (by rw [size_len]; exact ht2) (by
            unfold extB; rw [size_len]
            by_cases h : t < s.size
            · have : ¬ s.data.toList.getD t 0 = s.data.toList.getD (t - p) 0 := fun e => hgo ⟨h, e⟩
              rw [Bool.and_eq_false_iff]; right; simpa using this
            · simp [h]) hext.out
          have hto' := Lib.hid hto
          clear hto
          have hf1 : ∃ f', f = f' + 1 := ⟨f - 1, by omega⟩
          obtain ⟨f', rfl⟩ := hf1
          have hsub : (s.extract a t).data.toList = sub s.data.toList a t := by rw [Lib.extract_data]; rfl
          have hsub' := Lib.hid hsub
          clear hsub
          have hss : (s.extract a t).size = t - a := by simp; omega
          have hss' := Lib.hid hss
          clear hss
          have hal : a + 2 * p ≤ s.data.toList.length := by rw [size_len]; omega
          have hal' := Lib.hid hal
          clear hal
          by_cases htn : t < s.size
          · have e1 : IntKind.i64.wrap ((t : Int) - (p : Int)) = (t : Int) - p := IntWalk.i64_in _ (by omega)
            have e3 : (t : Int) - p < s.size := by omega
            have e4 : (t : Int) < s.size := by omega
            have e5 : t - p < s.size := by omega
            have e6 : 0 ≤ (t : Int) - p := by omega
            have e2 : ((t : Int) - p).toNat = t - p := by omega
            have e7 : (p : Int) ≤ t := by omega
            have e8 : p ≤ t := by omega
            have hbe := byte_eq s t (t - p) htn e5
            have hq2 : ((s[t].toNat : Int) == (s[t - p].toNat : Int)) = false := by rw [hbe]; simpa using fun e => hgo ⟨htn, e⟩
            have hgo' := Lib.hid hgo
            clear hbe hgo
            have hd : decide (t < s.size) = true := by simpa using htn
            go_wp2
            go_quiet (fail)
            generalize hwn : wr.drewN nq = wn
            have hbn : Below wr.heap.size wr wn := by rw [← hwn]; exact below_drewN (Below.refl _ _) _
            have hbb := below_seq (below_seq hb hbt (Nat.le_refl _)) hbn (Nat.le_refl _)
            clear hwn
            have hszn := hbb.size
            by_cases h2p : 2 * (p : Int) ≤ (t : Int) - a
            · have hd2 : decide (2 * (p : Int) ≤ (t : Int) - a) = true := by simpa using h2p
              have hb1' : 1 ≤ (s.extract a t).size := by rw [hss'.out]; omega
              have hb2' : (s.extract a t).size ≤ 1000000 := by rw [hss'.out]; omega
              obtain ⟨q, hq⟩ : ∃ q, q = leastP (s.extract a t).data.toList := ⟨_, rfl⟩
              have hq' := Lib.hid hq
              clear hq
              by_cases hqp : q = p
              · have hqp2 : ((q : Int) == (p : Int)) = true := by simp [hqp]
                have hrun : runHere s.data.toList p a t = true := by
                  unfold runHere
                  rw [← hsub'.out, ← hq'.out, hqp]
                  simp; omega
                have hrun' := Lib.hid hrun
                clear hqp hrun
                go_wp2_with (first | (go_at_call 60; refine (least60 _ _ hb1' hb2').mono ?_; rw [← hq'.out]; rintro e w1 ⟨rfl, hb1⟩) | (at_builtin; refine app_run (r := (a, t, p)) ((hown.below (below_seq hbt hbn (Nat.le_refl _))).below hb1) (by omega) (by have := hb1.size; omega) rfl _ _ rfl rfl rfl ?_; intro v' w2 hown2 hb2))
                go_roundw
                case rel => exact ⟨t - p + 1, f', rs ++ [(a, t, p)], by omega, by omega, by simp; omega, int_eq (by omega), by rw [← hrs'.out, runsL_yes hal'.out hto'.out hrun'.out]; simp, hown2, (below_seq hbb hb1 (Nat.le_refl _)).trans hb2⟩
                case measure => simp [intOf]; omega
              · have hqp2 : ((q : Int) == (p : Int)) = false := by simp; omega
                have hrun : runHere s.data.toList p a t = false := by
                  unfold runHere
                  rw [← hsub'.out, ← hq'.out, Bool.and_eq_false_iff]
                  right; simpa using hqp
                have hrun' := Lib.hid hrun
                clear hqp hrun
                go_wp2_with (first | (go_at_call 60; refine (least60 _ _ hb1' hb2').mono ?_; rw [← hq'.out]; rintro e w1 ⟨rfl, hb1⟩))
                go_roundw
                case rel => exact ⟨t - p + 1, f', rs, by omega, by omega, by omega, int_eq (by omega), by rw [← hrs'.out, runsL_no hal'.out hto'.out hrun'.out], (hown.below (below_seq hbt hbn (Nat.le_refl _))).below hb1, below_seq hbb hb1 (Nat.le_refl _)⟩
                case measure => simp [intOf]; omega
            · have hd2 : decide (2 * (p : Int) ≤ (t : Int) - a) = false := by simpa using h2p
              have hrun : runHere s.data.toList p a t = false := by
                unfold runHere
                rw [Bool.and_eq_false_iff]
                left; simp; omega
              have hrun' := Lib.hid hrun
              clear hrun
              go_wp2_with fail
              go_roundw
              case rel => exact ⟨t - p + 1, f', rs, by omega, by omega, by omega, int_eq (by omega), by rw [← hrs'.out, runsL_no hal'.out hto'.out hrun'.out], (hown.below (below_seq hbt hbn (Nat.le_refl _))), hbb⟩
              case measure => simp [intOf]; omega
          · have hd : decide (t < s.size) = false := by simpa using htn
            clear hgo
            go_wp2
            go_quiet (fail)
            generalize hwn : wr.drewN nq = wn
            have hbn : Below wr.heap.size wr wn := by rw [← hwn]; exact below_drewN (Below.refl _ _) _
            have hbb := below_seq (below_seq hb hbt (Nat.le_refl _)) hbn (Nat.le_refl _)
            clear hwn
            have hszn := hbb.size
            by_cases h2p : 2 * (p : Int) ≤ (t : Int) - a
            · have hd2 : decide (2 * (p : Int) ≤ (t : Int) - a) = true := by simpa using h2p
              have hb1' : 1 ≤ (s.extract a t).size := by rw [hss'.out]; omega
              have hb2' : (s.extract a t).size ≤ 1000000 := by rw [hss'.out]; omega
              obtain ⟨q, hq⟩ : ∃ q, q = leastP (s.extract a t).data.toList := ⟨_, rfl⟩
              have hq' := Lib.hid hq
              clear hq
              by_cases hqp : q = p
              · have hqp2 : ((q : Int) == (p : Int)) = true := by simp [hqp]
                have hrun : runHere s.data.toList p a t = true := by
                  unfold runHere
                  rw [← hsub'.out, ← hq'.out, hqp]
                  simp; omega
                have hrun' := Lib.hid hrun
                clear hqp hrun
                go_wp2_with (first | (go_at_call 60; refine (least60 _ _ hb1' hb2').mono ?_; rw [← hq'.out]; rintro e w1 ⟨rfl, hb1⟩) | (at_builtin; refine app_run (r := (a, t, p)) ((hown.below (below_seq hbt hbn (Nat.le_refl _))).below hb1) (by omega) (by have := hb1.size; omega) rfl _ _ rfl rfl rfl ?_; intro v' w2 hown2 hb2))
                go_roundw
                case rel => exact ⟨t - p + 1, f', rs ++ [(a, t, p)], by omega, by omega, by simp; omega, int_eq (by omega), by rw [← hrs'.out, runsL_yes hal'.out hto'.out hrun'.out]; simp, hown2, (below_seq hbb hb1 (Nat.le_refl _)).trans hb2⟩
                case measure => simp [intOf]; omega
              · have hqp2 : ((q : Int) == (p : Int)) = false := by simp; omega
                have hrun : runHere s.data.toList p a t = false := by
                  unfold runHere
                  rw [← hsub'.out, ← hq'.out, Bool.and_eq_false_iff]
                  right; simpa using hqp
                have hrun' := Lib.hid hrun
                clear hqp hrun
                go_wp2_with (first | (go_at_call 60; refine (least60 _ _ hb1' hb2').mono ?_; rw [← hq'.out]; rintro e w1 ⟨rfl, hb1⟩))
                go_roundw
                case rel => exact ⟨t - p + 1, f', rs, by omega, by omega, by omega, int_eq (by omega), by rw [← hrs'.out, runsL_no hal'.out hto'.out hrun'.out], (hown.below (below_seq hbt hbn (Nat.le_refl _))).below hb1, below_seq hbb hb1 (Nat.le_refl _)⟩
                case measure => simp [intOf]; omega
            · have hd2 : decide (2 * (p : Int) ≤ (t : Int) - a) = false := by simpa using h2p
              have hrun : runHere s.data.toList p a t = false := by
                unfold runHere
                rw [Bool.and_eq_false_iff]
                left; simp; omega
              have hrun' := Lib.hid hrun
              clear hrun
              go_wp2_with fail
              go_roundw
              case rel => exact ⟨t - p + 1, f', rs, by omega, by omega, by omega, int_eq (by omega), by rw [← hrs'.out, runsL_no hal'.out hto'.out hrun'.out], (hown.below (below_seq hbt hbn (Nat.le_refl _))), hbb⟩
              case measure => simp [intOf]; omega
    · go_wp2
      go_ret
      exact ⟨_, rfl, by rw [← hrs'.out, runsL_end _ _ _ _ (by rw [size_len]; omega), List.append_nil]; exact hown, hb⟩
end Go.Proofs.Ytbcoaiaocfommaa
