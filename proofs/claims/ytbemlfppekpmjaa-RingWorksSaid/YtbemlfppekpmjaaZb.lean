import Derived.Test.YtbemlfppekpmjaaZa
namespace Go.Proofs.Ytbemlfppekpmjaa
open Go.RowKit Rng
@[local go_sem] theorem base87' (b : Nat) (w : World) : (method 261 87 (.pointer (some ⟨b, 0, none⟩)) "bolster/ring.base").run Try.prog w = .ok (101, .pointer (some ⟨b, 0, none⟩)) w := base87 b w
@[local go_sem] theorem base92' (b : Nat) (w : World) : (method 261 92 (.pointer (some ⟨b, 0, none⟩)) "bolster/ring.base").run Try.prog w = .ok (101, .pointer (some ⟨b, 0, none⟩)) w := base92 b w
@[local go_sem] theorem recv87' (b : Nat) (w : World) : (method 261 87 (.pointer (some ⟨b, 0, none⟩)) "bolster/ring.receive").run Try.prog w = .ok (103, .pointer (some ⟨b, 0, none⟩)) w := recv87 b w
@[local go_sem] theorem recv92' (b : Nat) (w : World) : (method 261 92 (.pointer (some ⟨b, 0, none⟩)) "bolster/ring.receive").run Try.prog w = .ok (112, .pointer (some ⟨b, 0, none⟩)) w := recv92 b w
def dlvR (pet : Bool) (Ms : Nat → Mb) (n j : Nat) (x : Nt) : Nat → Mb := up (up Ms j (Mb.pop (Ms j))) ((j + 1) % n) ((up Ms j (Mb.pop (Ms j)) ((j + 1) % n)).recv pet x)
theorem RgAt.rv_at {w : World} {B b n : Nat} {pet : Bool} {rv : Value} {bs : Nat → Nat} {fvs : Nat → Value} {Ms : Nat → Mb} {g c j : Nat} (h : RgAt w B b pet n rv bs fvs Ms) (hrv : rv = .slice (some ⟨g, 0, none⟩) n c) (hj : j < n) : w.cell? ⟨g, j, none⟩ = some (mv pet (bs j)) := by
  obtain ⟨ao, c', e, _, hcl⟩ := h.ms.val
  obtain ⟨g', e2, h3⟩ := hcl j hj
  rw [hrv] at e
  injection e with e _ _
  rw [← e] at e2
  obtain rfl : g = g' := by injection e2 with e2; injection e2
  exact h3
set_option maxHeartbeats 2000000 in
set_option maxRecDepth 100000 in
theorem dlvBad25 {w : World} {B b n : Nat} {pet : Bool} {rv : Value} {bs : Nat → Nat} {fvs : Nat → Value} {Ms : Nat → Mb} (h : RgAt w B b pet n rv bs fvs Ms) (i : Int) (h1 : inB i n = false) :
    Calls Try.prog 25 #[.pointer (some ⟨b, 0, none⟩), .int .i64 i] w (RgEnd w B b pet n rv bs fvs Ms (.int .i64 1)) := by
  have hh := has56 h i
  have ht := Lib.hid (there55 h.c0)
  rw [h1] at hh
  have hh' := Lib.hid hh
  have h' := Lib.hid h
  clear hh h1 h
  go_enter Try.func25, Try.ntmps25
  go_wp2_with (first
    | (go_at_call 55; refine ht.out.mono ?_; rintro e wj ⟨rfl, rfl⟩)
    | (go_at_call 56; refine hh'.out.mono ?_; rintro e wj ⟨rfl, rfl⟩))
  go_ret
  exact ⟨rfl, fvs, h'.out, Frm.refl _ _⟩
set_option maxHeartbeats 2000000 in
set_option maxRecDepth 100000 in
theorem dlvNone25t {w : World} {B b n : Nat} {rv : Value} {bs : Nat → Nat} {fvs : Nat → Value} {Ms : Nat → Mb} (h : RgAt w B b true n rv bs fvs Ms) {j : Nat} (hj : j < n) (he : (Ms j).fl = []) :
    Calls Try.prog 25 #[.pointer (some ⟨b, 0, none⟩), .int .i64 j] w (RgEnd w B b true n rv bs fvs Ms (.int .i64 5)) := by
  have hh := has56 h (j : Int)
  rw [show inB (j : Int) n = true by simp [inB]; omega] at hh
  have ht := Lib.hid (there55 h.c0)
  have c1 := h.c1
  have h' := Lib.hid h
  have hol := Lib.hid (oldest58n (h.ms.mem j hj).wr he)
  obtain ⟨ao, c, rfl, hc, hcl⟩ := h.ms.val
  obtain ⟨g, rfl, hv⟩ := hcl j hj
  have hji : (j : Int) < (n : Int) := by omega
  have hh' := Lib.hid hh
  have hb := Lib.hid (base101 (w := w) (.pointer (some ⟨bs j, 0, none⟩)))
  clear hh hcl h he
  unfold mv at hv
  rw [if_pos rfl] at hv
  go_enter Try.func25, Try.ntmps25
  go_wp2_with (first
    | (go_at_call 55; refine ht.out.mono ?_; rintro e wj ⟨rfl, rfl⟩)
    | (go_at_call 56; refine hh'.out.mono ?_; rintro e wj ⟨rfl, rfl⟩)
    | (go_at_call 101; refine hb.out.mono ?_; rintro e wj ⟨rfl, rfl⟩)
    | (go_at_call 58; refine hol.out.mono ?_; rintro e w1 ⟨rfl, hb1⟩; have hb1' := Lib.hid hb1; clear hb1))
  go_ret
  have hb2 := below_call hb1'.out (below_alloc1 w1 (.cells #[.int .i64 0, .int .i64 0] 108))
  exact ⟨rfl, fvs, h'.out.below hb2, Frm.of_below hb2⟩
set_option maxHeartbeats 2000000 in
set_option maxRecDepth 100000 in
theorem dlv25t {w : World} {B b n : Nat} {rv : Value} {bs : Nat → Nat} {fvs : Nat → Value} {Ms : Nat → Mb} (h : RgAt w B b true n rv bs fvs Ms) (hrc : ∀ (W : World) (b : Nat) (fv : Value) (M : Mb) (kd nm : Nat), MbAt W B true b fv M → M.fl.length ≤ 90000 → M.st ≤ 90000 → Calls Try.prog 103 #[.pointer (some ⟨b, 0, none⟩), .agg #[.int .i64 kd, .int .i64 nm]] W (MbEnd W B true b fv (M.recv true ⟨kd, nm⟩) (.tuple #[])))
    (hl : ∀ j, j < n → (Ms j).fl.length ≤ 1000 ∧ (Ms j).st ≤ 90000) (hn10 : n ≤ 10) {j : Nat} (hj : j < n) {kd nm : Nat} {tl : List Nt} (he : (Ms j).fl = ⟨kd, nm⟩ :: tl) :
    Calls Try.prog 25 #[.pointer (some ⟨b, 0, none⟩), .int .i64 j] w (RgEnd w B b true n rv bs fvs (dlvR true Ms n j ⟨kd, nm⟩) (.int .i64 0)) := by
  have hh := has56 h (j : Int)
  rw [show inB (j : Int) n = true by simp [inB]; omega] at hh
  have ht := Lib.hid (there55 h.c0)
  have c1 := h.c1
  have h' := Lib.hid h
  have hol := Lib.hid (oldest58 (h.ms.mem j hj).wr (hl j hj).1 he)
  obtain ⟨ao, c, rfl, hc, hcl⟩ := h.ms.val
  obtain ⟨g, rfl, hv⟩ := hcl j hj
  have hji : (j : Int) < (n : Int) := by omega
  have hh' := Lib.hid hh
  have hb := Lib.hid (base101 (w := w) (.pointer (some ⟨bs j, 0, none⟩)))
  obtain ⟨k, hk⟩ : ∃ k, k = (j + 1) % n := ⟨_, rfl⟩
  have hkn : k < n := by rw [hk]; exact Nat.mod_lt _ (by omega)
  have hki : (k : Int) < (n : Int) := by omega
  have hmod : ((j : Int) + 1).tmod (n : Int) = (k : Int) := by rw [hk]; rw [show ((j : Int) + 1) = ((j + 1 : Nat) : Int) by omega]; rfl
  have hlen := Lib.hid (fun a (ha : a < n) => show (up Ms j (Mb.pop (Ms j)) a).fl.length ≤ 90000 ∧ (up Ms j (Mb.pop (Ms j)) a).st ≤ 90000 from by
    by_cases e : a = j
    · subst e; rw [up_same]
      exact ⟨by show (Ms a).fl.tail.length ≤ 90000; rw [List.length_tail]; have := (hl a ha).1; omega, (hl a ha).2⟩
    · rw [up_other _ _ e]; exact ⟨Nat.le_trans (hl a ha).1 (by omega), (hl a ha).2⟩)
  have hk' := Lib.hid hk
  have hj' := Lib.hid hj
  have hkn' := Lib.hid hkn
  have hrc' := Lib.hid hrc
  clear hh hcl h he hl hk hrc
  unfold mv at hv
  rw [if_pos rfl] at hv
  have hn0 : ¬ (n : Int) = 0 := by omega
  go_enter Try.func25, Try.ntmps25
  go_wp2_with (first
    | (go_at_call 55; refine ht.out.mono ?_; rintro e wj ⟨rfl, rfl⟩)
    | (go_at_call 56; refine hh'.out.mono ?_; rintro e wj ⟨rfl, rfl⟩)
    | (go_at_call 101; refine hb.out.mono ?_; rintro e wj ⟨rfl, rfl⟩)
    | (go_at_call 58; refine hol.out.mono ?_; rintro e w1 ⟨rfl, fv1, kw, kc, fr⟩
       have hup := h'.out.upd hj'.out ((h'.out.ms.mem j hj'.out).ofWr kw kc ⟨rfl, rfl, rfl⟩) fr
       have hr1 := Lib.hid hup.1
       have hf1 := Lib.hid hup.2
       have hbA := Lib.hid (below_alloc1 w1 (.cells #[.int .i64 kd, .int .i64 nm] 108))
       have hr2 := Lib.hid (hr1.out.below hbA.out)
       have d1 := hup.1.c1
       have d2 := hr2.out.c1
       clear kw kc fr hup hol))
  obtain ⟨V, hV⟩ : ∃ V, V = w1.alloc (.cells #[.int .i64 kd, .int .i64 nm] 108) := ⟨_, rfl⟩
  have hz := heap_alloc_new w1 (.cells #[.int .i64 kd, .int .i64 nm] 108)
  rw [← hV] at hr2 d2 hbA hz ⊢
  have n0 := cell_of_row _ _ 0 _ _ _ hz
  have n1 := cell_of_row _ _ 1 _ _ _ hz
  have hvk := hr2.out.rv_at rfl hkn'.out
  unfold mv at hvk
  rw [if_pos rfl] at hvk
  have hrD := Lib.hid (hr2.out.below (Below.refl _ V).drew)
  have hrec := Lib.hid (hrc'.out V.drew (bs k) _ _ kd nm (hrD.out.ms.mem k hkn'.out) (hlen.out k hkn'.out).1 (hlen.out k hkn'.out).2)
  have hnc : n ≤ c := hc
  clear hV hz d1 hrc'
  refine wp_region_still_tail 8 (by kernel_rfl) (by kernel_rfl) ?_
  simp only [List.take_succ_cons, List.take_zero, List.drop_succ_cons, List.drop_zero]
  iterate 8 still_step
  refine wpStill_nil ?_
  go_wp2_with (go_at_call 103; refine hrec.out.mono ?_; rintro e wj ⟨rfl, fv2, km, fr⟩; have km' := Lib.hid km; have fr' := Lib.hid fr; clear km fr)
  go_ret
  obtain ⟨r1, r2⟩ := hrD.out.upd hkn'.out km'.out fr'.out
  rw [hk'.out] at r1 r2
  exact ⟨rfl, _, r1, (hf1.out.trans (Frm.of_below (hbA.out.drew))).trans r2⟩
end Go.Proofs.Ytbemlfppekpmjaa
