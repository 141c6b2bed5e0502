import Derived.Test.YtbemlfppekpmjaaZ
import Derived.Test.YtbemlfppekpmjaaB
import Derived.Test.YtbemlfppekpmjaaY
namespace Go.Proofs.Ytbemlfppekpmjaa
open Go.RowKit Rng
theorem info77 : (Try.prog.info? 77).map (fun i => (i.zero, i.size, i.bytes)) = some (some (.agg #[.pointer none, .slice none 0 0]), 2, 32) := by kernel_rfl
theorem info113 : (Try.prog.info? 113).map (fun i => (i.zero, i.size, i.bytes)) = some (some .nilIface, 1, 16) := by kernel_rfl
theorem ptr23 (b : Nat) (w : World) : (binOp .eql 23 (.pointer (some ⟨b, 0, none⟩)) (.pointer (some ⟨b, 0, none⟩))).run Try.prog w = .ok (.bool true) w := by
  obtain ⟨i0, hi, _⟩ := info_parts info77
  exact run_eql_ptr_same _ _ Try.underlying23 hi
theorem ptr23n (b : Nat) (w : World) : (binOp .eql 23 (.pointer none) (.pointer (some ⟨b, 0, none⟩))).run Try.prog w = .ok (.bool false) w := by
  have h : ∀ d : Nat, (Op.equalIn (d + 1) 23 (.pointer none) (.pointer (some ⟨b, 0, none⟩))).run Try.prog w = .ok false w := fun d => by
    simp [Op.equalIn, run_underlying Try.underlying23]
  simp only [binOp]
  simp [Op.equal, Op.maxDepth, h 9999]
set_option maxRecDepth 100000 in
theorem there55 {w : World} {b : Nat} (h : w.cell? ⟨b, 0, none⟩ = some (.pointer (some ⟨b, 0, none⟩))) : Calls Try.prog 55 #[.pointer (some ⟨b, 0, none⟩)] w fun e w' => e = .returned (.bool true) ∧ w = w' := by
  have hq := ptr23 b w
  go_enter Try.func55, Try.ntmps55
  go_wp2
  go_ret
  exact ⟨rfl, rfl⟩
set_option maxRecDepth 100000 in
theorem nobody55 {w : World} : Calls Try.prog 55 #[.pointer none] w fun e w' => e = .returned (.bool false) ∧ w = w' := by
  go_enter Try.func55, Try.ntmps55
  go_wp2
  refine bodyPost_ret (results_tmp rfl _ _ _) rfl ?_
  exact ⟨rfl, rfl⟩
set_option maxRecDepth 100000 in
theorem other55 {w : World} {b : Nat} (h : w.cell? ⟨b, 0, none⟩ = some (.pointer none)) : Calls Try.prog 55 #[.pointer (some ⟨b, 0, none⟩)] w fun e w' => e = .returned (.bool false) ∧ w = w' := by
  have hq := ptr23n b w
  go_enter Try.func55, Try.ntmps55
  go_wp2
  refine bodyPost_ret (results_tmp rfl _ _ _) rfl ?_
  exact ⟨rfl, rfl⟩

@[local go_sem] theorem base87 (b : Nat) (w : World) : (method 261 87 (.pointer (some ⟨b, 0, none⟩)) "bolster/ring.base").run Try.prog w = .ok (101, .pointer (some ⟨b, 0, none⟩)) w := by kernel_rfl
@[local go_sem] theorem base92 (b : Nat) (w : World) : (method 261 92 (.pointer (some ⟨b, 0, none⟩)) "bolster/ring.base").run Try.prog w = .ok (101, .pointer (some ⟨b, 0, none⟩)) w := by kernel_rfl
set_option maxRecDepth 100000 in
theorem base101 {w : World} (v : Value) : Calls Try.prog 101 #[v] w fun e w' => e = .returned v ∧ w = w' := by
  go_enter Try.func101, Try.ntmps101
  go_wp2
  go_ret
  exact ⟨rfl, rfl⟩
set_option maxRecDepth 100000 in
theorem has56 {w : World} {B b n : Nat} {pet : Bool} {rv : Value} {bs : Nat → Nat} {fvs : Nat → Value} {Ms : Nat → Mb} (h : RgAt w B b pet n rv bs fvs Ms) (i : Int) : Calls Try.prog 56 #[.pointer (some ⟨b, 0, none⟩), .int .i64 i] w fun e w' => e = .returned (.bool (inB i n)) ∧ w = w' := by
  have c1 := h.c1
  have ht := Lib.hid (there55 h.c0)
  obtain ⟨ao, c, rfl, hc, -⟩ := h.ms.val
  clear h
  by_cases h0 : 0 ≤ i
  · have h1 : decide (i ≥ 0) = true := by simpa using h0
    go_enter Try.func56, Try.ntmps56
    go_wp2_with (go_at_call 55; refine ht.out.mono ?_; rintro e wj ⟨rfl, rfl⟩)
    go_ret
    exact ⟨ret_b (by unfold inB; rw [decide_eq_true h0, Bool.true_and]), rfl⟩
  · have h1 : decide (i ≥ 0) = false := by simpa using h0
    go_enter Try.func56, Try.ntmps56
    go_wp2_with (go_at_call 55; refine ht.out.mono ?_; rintro e wj ⟨rfl, rfl⟩)
    go_ret
    exact ⟨ret_b (by unfold inB; rw [decide_eq_false (by omega), Bool.false_and]), rfl⟩
theorem nat_of {i : Int} {n : Nat} (h : inB i n = true) : ∃ j : Nat, i = j ∧ j < n := by
  have h1 : 0 ≤ i ∧ i < n := by simpa [inB] using h
  exact ⟨i.toNat, by omega, by omega⟩
set_option maxHeartbeats 2000000 in
set_option maxRecDepth 100000 in
theorem leader47 {w : World} {B b n : Nat} {pet : Bool} {rv : Value} {bs : Nat → Nat} {fvs : Nat → Value} {Ms : Nat → Mb} (h : RgAt w B b pet n rv bs fvs Ms) (i : Int) : Calls Try.prog 47 #[.pointer (some ⟨b, 0, none⟩), .int .i64 i] w fun e w' => e = .returned (.int .i64 (if inB i n then ((Ms i.toNat).ld : Int) else 0)) ∧ w = w' := by
  have hh := has56 h i
  by_cases h0 : inB i n = true
  · obtain ⟨j, rfl, hj⟩ := nat_of h0
    rw [if_pos h0, Int.toNat_natCast]
    rw [h0] at hh
    have c1 := h.c1
    have k1 := (h.ms.mem j hj).wr.c1
    obtain ⟨ao, c, rfl, hc, hcl⟩ := h.ms.val
    obtain ⟨g, rfl, hv⟩ := hcl j hj
    have hji : (j : Int) < (n : Int) := by omega
    have hh' := Lib.hid hh
    have hb := Lib.hid (base101 (w := w) (.pointer (some ⟨bs j, 0, none⟩)))
    clear hh h0 hcl h
    unfold mv at hv
    cases pet
    · rw [if_neg (by simp)] at hv
      go_enter Try.func47, Try.ntmps47
      go_wp2_with (first
        | (go_at_call 56; refine hh'.out.mono ?_; rintro e wj ⟨rfl, rfl⟩)
        | (go_at_call 101; refine hb.out.mono ?_; rintro e wj ⟨rfl, rfl⟩))
      go_ret
      exact ⟨rfl, rfl⟩
    · rw [if_pos rfl] at hv
      go_enter Try.func47, Try.ntmps47
      go_wp2_with (first
        | (go_at_call 56; refine hh'.out.mono ?_; rintro e wj ⟨rfl, rfl⟩)
        | (go_at_call 101; refine hb.out.mono ?_; rintro e wj ⟨rfl, rfl⟩))
      go_ret
      exact ⟨rfl, rfl⟩
  · have h1 : inB i n = false := by simpa using h0
    rw [if_neg h0]
    rw [h1] at hh
    have hh' := Lib.hid hh
    clear hh h0 h1 h
    go_enter Try.func47, Try.ntmps47
    go_wp2_with (go_at_call 56; refine hh'.out.mono ?_; rintro e wj ⟨rfl, rfl⟩)
    go_ret
    exact ⟨rfl, rfl⟩
/-- A ring is changed. -/
def RgEnd (w : World) (B b : Nat) (pet : Bool) (n : Nat) (rv : Value) (bs : Nat → Nat) (fvs : Nat → Value) (Ms : Nat → Mb) (ev : Value) (e : Ending) (w' : World) : Prop := e = .returned ev ∧ ∃ fvs', RgAt w' B b pet n rv bs fvs' Ms ∧ Frm (RgP b rv n bs fvs) (RgP b rv n bs fvs') w w'
def startE (Ms : Nat → Mb) (n : Nat) (i : Int) : Int × (Nat → Mb) := if inB i n = false then (1, Ms) else if (Ms i.toNat).bg = true then (5, Ms) else (0, up Ms i.toNat (Ms i.toNat).start)
@[local go_sem] theorem start87 (b : Nat) (w : World) : (method 261 87 (.pointer (some ⟨b, 0, none⟩)) "bolster/ring.start").run Try.prog w = .ok (104, .pointer (some ⟨b, 0, none⟩)) w := by kernel_rfl
@[local go_sem] theorem start92 (b : Nat) (w : World) : (method 261 92 (.pointer (some ⟨b, 0, none⟩)) "bolster/ring.start").run Try.prog w = .ok (113, .pointer (some ⟨b, 0, none⟩)) w := by kernel_rfl
@[local go_sem] theorem recv87 (b : Nat) (w : World) : (method 261 87 (.pointer (some ⟨b, 0, none⟩)) "bolster/ring.receive").run Try.prog w = .ok (103, .pointer (some ⟨b, 0, none⟩)) w := by kernel_rfl
@[local go_sem] theorem recv92 (b : Nat) (w : World) : (method 261 92 (.pointer (some ⟨b, 0, none⟩)) "bolster/ring.receive").run Try.prog w = .ok (112, .pointer (some ⟨b, 0, none⟩)) w := by kernel_rfl
set_option maxHeartbeats 2000000 in
set_option maxRecDepth 100000 in
theorem start22t {w : World} {B b n : Nat} {rv : Value} {bs : Nat → Nat} {fvs : Nat → Value} {Ms : Nat → Mb} (h : RgAt w B b true n rv bs fvs Ms) (hst : ∀ (W : World) (b : Nat) (fv : Value) (M : Mb), MbAt W B true b fv M → M.fl.length ≤ 90000 → M.st ≤ 90000 → Calls Try.prog 104 #[.pointer (some ⟨b, 0, none⟩)] W (MbEnd W B true b fv M.start (.tuple #[])))
    (hl : ∀ j, j < n → (Ms j).fl.length ≤ 90000 ∧ (Ms j).st ≤ 90000) (i : Int) :
    Calls Try.prog 22 #[.pointer (some ⟨b, 0, none⟩), .int .i64 i] w (RgEnd w B b true n rv bs fvs (startE Ms n i).2 (.int .i64 (startE Ms n i).1)) := by
  have hh := has56 h i
  have ht := Lib.hid (there55 h.c0)
  unfold startE
  by_cases h0 : inB i n = true
  · obtain ⟨j, rfl, hj⟩ := nat_of h0
    rw [if_neg (by rw [h0]; simp), Int.toNat_natCast]
    rw [h0] at hh
    have c1 := h.c1
    have k0 := (h.ms.mem j hj).wr.c0
    have h' := Lib.hid h
    have hs := Lib.hid (hst w (bs j) (fvs j) (Ms j) (h.ms.mem j hj) (hl j hj).1 (hl j hj).2)
    have hj' := Lib.hid hj
    obtain ⟨ao, c, rfl, hc, hcl⟩ := h.ms.val
    obtain ⟨g, rfl, hv⟩ := hcl j hj
    have hji : (j : Int) < (n : Int) := by omega
    have hh' := Lib.hid hh
    have hb := Lib.hid (base101 (w := w) (.pointer (some ⟨bs j, 0, none⟩)))
    clear hh h0 hcl h hst hl
    unfold mv at hv
    rw [if_pos rfl] at hv
    cases hbg : (Ms j).bg with
    | true =>
      rw [hbg] at k0
      rw [if_pos rfl]
      clear hs hbg
      go_enter Try.func22, Try.ntmps22
      go_wp2_with (first
        | (go_at_call 55; refine ht.out.mono ?_; rintro e wj ⟨rfl, rfl⟩)
        | (go_at_call 56; refine hh'.out.mono ?_; rintro e wj ⟨rfl, rfl⟩)
        | (go_at_call 101; refine hb.out.mono ?_; rintro e wj ⟨rfl, rfl⟩))
      go_ret
      exact ⟨rfl, fvs, h'.out, Frm.refl _ _⟩
    | false =>
      rw [hbg] at k0
      rw [if_neg (by simp)]
      clear hbg
      go_enter Try.func22, Try.ntmps22
      go_wp2_with (first
        | (go_at_call 55; refine ht.out.mono ?_; rintro e wj ⟨rfl, rfl⟩)
        | (go_at_call 56; refine hh'.out.mono ?_; rintro e wj ⟨rfl, rfl⟩)
        | (go_at_call 101; refine hb.out.mono ?_; rintro e wj ⟨rfl, rfl⟩)
        | (go_at_call 104; refine hs.out.mono ?_; rintro e wj ⟨rfl, fv1, km, fr⟩; have km' := Lib.hid km; have fr' := Lib.hid fr; clear km fr))
      go_ret
      obtain ⟨r1, r2⟩ := h'.out.upd hj'.out km'.out fr'.out
      exact ⟨rfl, _, r1, r2⟩
  · have h1 : inB i n = false := by simpa using h0
    rw [if_pos h1]
    rw [h1] at hh
    have hh' := Lib.hid hh
    have h' := Lib.hid h
    clear hh h0 h1 h hst hl
    go_enter Try.func22, Try.ntmps22
    go_wp2_with (first
      | (go_at_call 55; refine ht.out.mono ?_; rintro e wj ⟨rfl, rfl⟩)
      | (go_at_call 56; refine hh'.out.mono ?_; rintro e wj ⟨rfl, rfl⟩))
    go_ret
    exact ⟨rfl, fvs, h'.out, Frm.refl _ _⟩
set_option maxHeartbeats 2000000 in
set_option maxRecDepth 100000 in
theorem start22f {w : World} {B b n : Nat} {rv : Value} {bs : Nat → Nat} {fvs : Nat → Value} {Ms : Nat → Mb} (h : RgAt w B b false n rv bs fvs Ms) (hst : ∀ (W : World) (b : Nat) (fv : Value) (M : Mb), MbAt W B false b fv M → M.fl.length ≤ 90000 → M.st ≤ 90000 → Calls Try.prog 113 #[.pointer (some ⟨b, 0, none⟩)] W (MbEnd W B false b fv M.start (.tuple #[])))
    (hl : ∀ j, j < n → (Ms j).fl.length ≤ 90000 ∧ (Ms j).st ≤ 90000) (i : Int) :
    Calls Try.prog 22 #[.pointer (some ⟨b, 0, none⟩), .int .i64 i] w (RgEnd w B b false n rv bs fvs (startE Ms n i).2 (.int .i64 (startE Ms n i).1)) := by
  have hh := has56 h i
  have ht := Lib.hid (there55 h.c0)
  unfold startE
  by_cases h0 : inB i n = true
  · obtain ⟨j, rfl, hj⟩ := nat_of h0
    rw [if_neg (by rw [h0]; simp), Int.toNat_natCast]
    rw [h0] at hh
    have c1 := h.c1
    have k0 := (h.ms.mem j hj).wr.c0
    have h' := Lib.hid h
    have hs := Lib.hid (hst w (bs j) (fvs j) (Ms j) (h.ms.mem j hj) (hl j hj).1 (hl j hj).2)
    have hj' := Lib.hid hj
    obtain ⟨ao, c, rfl, hc, hcl⟩ := h.ms.val
    obtain ⟨g, rfl, hv⟩ := hcl j hj
    have hji : (j : Int) < (n : Int) := by omega
    have hh' := Lib.hid hh
    have hb := Lib.hid (base101 (w := w) (.pointer (some ⟨bs j, 0, none⟩)))
    clear hh h0 hcl h hst hl
    unfold mv at hv
    rw [if_neg (by simp)] at hv
    cases hbg : (Ms j).bg with
    | true =>
      rw [hbg] at k0
      rw [if_pos rfl]
      clear hs hbg
      go_enter Try.func22, Try.ntmps22
      go_wp2_with (first
        | (go_at_call 55; refine ht.out.mono ?_; rintro e wj ⟨rfl, rfl⟩)
        | (go_at_call 56; refine hh'.out.mono ?_; rintro e wj ⟨rfl, rfl⟩)
        | (go_at_call 101; refine hb.out.mono ?_; rintro e wj ⟨rfl, rfl⟩))
      go_ret
      exact ⟨rfl, fvs, h'.out, Frm.refl _ _⟩
    | false =>
      rw [hbg] at k0
      rw [if_neg (by simp)]
      clear hbg
      go_enter Try.func22, Try.ntmps22
      go_wp2_with (first
        | (go_at_call 55; refine ht.out.mono ?_; rintro e wj ⟨rfl, rfl⟩)
        | (go_at_call 56; refine hh'.out.mono ?_; rintro e wj ⟨rfl, rfl⟩)
        | (go_at_call 101; refine hb.out.mono ?_; rintro e wj ⟨rfl, rfl⟩)
        | (go_at_call 113; refine hs.out.mono ?_; rintro e wj ⟨rfl, fv1, km, fr⟩; have km' := Lib.hid km; have fr' := Lib.hid fr; clear km fr))
      go_ret
      obtain ⟨r1, r2⟩ := h'.out.upd hj'.out km'.out fr'.out
      exact ⟨rfl, _, r1, r2⟩
  · have h1 : inB i n = false := by simpa using h0
    rw [if_pos h1]
    rw [h1] at hh
    have hh' := Lib.hid hh
    have h' := Lib.hid h
    clear hh h0 h1 h hst hl
    go_enter Try.func22, Try.ntmps22
    go_wp2_with (first
      | (go_at_call 55; refine ht.out.mono ?_; rintro e wj ⟨rfl, rfl⟩)
      | (go_at_call 56; refine hh'.out.mono ?_; rintro e wj ⟨rfl, rfl⟩))
    go_ret
    exact ⟨rfl, fvs, h'.out, Frm.refl _ _⟩
end Go.Proofs.Ytbemlfppekpmjaa
