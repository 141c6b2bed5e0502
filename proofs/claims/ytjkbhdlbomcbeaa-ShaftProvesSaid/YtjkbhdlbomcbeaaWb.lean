import Derived.Test.YtjkbhdlbomcbeaaWa
namespace Go.Proofs.Ytjkbhdlbomcbeaa
open Go.RowKit Go.Shelf Shf

/-- The least end, found. -/
def LeastEnd (s : Sh) (m : Nat) : Prop := m ≤ 24 ∧ (∃ S, Sched (ending s m) S) ∧ ∀ y : Nat, y < m → ¬ ∃ S, Sched (ending s y) S
def LeastEnd44 (w : World) (s : Sh) (e : Ending) (w' : World) : Prop := ∃ m : Nat, e = .returned (.int .i64 m) ∧ LeastEnd s m ∧ Below w.heap.size w w'
theorem cbd_end {s : Sh} (hs : Loose s) (m : Nat) : cbd (ending s m) = true ↔ ∃ S, Sched (ending s m) S := cbd_iff (loose_ending hs (by omega))
theorem end_mono {s : Sh} (hs : Loose s) {a b : Nat} (hab : a ≤ b) (h : cbd (ending s a) = true) : cbd (ending s b) = true := by
  obtain ⟨S, hS⟩ := (cbd_end hs a).1 h
  obtain ⟨h1, h2⟩ := (sched_ending hs.orders S).1 hS
  exact (cbd_end hs b).2 ⟨S, (sched_ending hs.orders S).2 ⟨h1, fun i hi => by have := h2 i hi; omega⟩⟩
theorem end_found {s : Sh} (hs : Loose s) (hsome : ∃ S, Sched s S) {m : Nat} (h : Least (fun e => cbd (ending s (e : Nat))) 24 m) : LeastEnd s m := by
  obtain ⟨h1, h2, h3⟩ := h
  refine ⟨h1, ?_, fun y hy he => ?_⟩
  · by_cases e : m < 24
    · exact (cbd_end hs m).1 (h3 e)
    · obtain ⟨S, hS⟩ := hsome
      refine ⟨S, (sched_ending hs.orders S).2 ⟨hS, fun i hi => ?_⟩⟩
      have a := hS.range i hi
      have b := hs.jobs i hi
      unfold lat at a
      omega
  · have := h2 y hy
    dsimp only at this
    rw [(cbd_end hs y).2 he] at this
    cases this
set_option maxHeartbeats 4000000 in
set_option maxRecDepth 100000 in
theorem leastEnd44 {w : World} {v : Value} {s : Sh} (hs : Loose s) (h : ShV w v s.P s.js (osI s)) (hsome : ∃ S, Sched s S) : Calls Try.prog 44 #[v] w (LeastEnd44 w s) := by
  obtain ⟨jv, ov, rfl, rj, ro⟩ := h
  obtain ⟨ja, n, jc, rfl⟩ : ∃ a n c, jv = .slice a n c := by obtain ⟨a, c, e, _⟩ := rj; exact ⟨_, _, _, e⟩
  obtain ⟨oa, m, oc, rfl⟩ : ∃ a n c, ov = .slice a n c := by obtain ⟨a, c, e, _⟩ := ro; exact ⟨_, _, _, e⟩
  have hb0 := Lib.hid (below_alloc1 w (.cells #[.int .i64 s.P, .slice ja n jc, .slice oa m oc] 81))
  have ht0 := Lib.hid (Three.new w (.int .i64 s.P) (.slice ja n jc) (.slice oa m oc) 81)
  obtain ⟨W, hW⟩ : ∃ W, W = w.alloc (.cells #[.int .i64 s.P, .slice ja n jc, .slice oa m oc] 81) := ⟨_, rfl⟩
  have hws : w.heap.size < W.heap.size := by rw [hW]; simp
  have hsr := Lib.hid (show Calls Try.prog 59 #[.int .i64 24, .func (.func 62) #[] #[.pointer (some ⟨w.heap.size, 0, none⟩)]] W (Srchd (fun e => cbd (ending s (e : Nat))) 24 W) from
    search59 (w := W) (N := 24) (by omega) 62 #[.pointer (some ⟨w.heap.size, 0, none⟩)] (enters_of Try.func62 (by kernel_rfl) rfl) (fun e => cbd (ending s (e : Nat))) (fun a b hab h => end_mono hs hab h)
      (fun W' h hb' hh => by
        have hT := ht0.out
        rw [← hW] at hT
        have hT' := hT.keep hb' hws
        have hbb := hb0.out
        rw [← hW] at hbb
        exact leastEnd62 (w := W') (i := h) hs hT'.1.1 hT'.1.2.1 hT'.1.2.2 ((rj.below hbb).below hb') ((ro.below hbb).below hb') (by omega)))
  have hef := Lib.hid (fun (m : Nat) (h : Least (fun e => cbd (ending s (e : Nat))) 24 m) => end_found hs hsome h)
  have hb1 := Lib.hid (show Below w.heap.size w W by rw [hW]; exact hb0.out)
  have hW' := Lib.hid hW
  clear hW hws ht0 hb0 rj ro hs hsome
  go_enter Try.func44, Try.ntmps44
  go_wp2_with fail
  rw [← hW'.out]
  refine hsr.out.mono ?_
  rintro e w1 ⟨k, rfl, hk, hb⟩
  have hk' := Lib.hid hk
  have hb' := Lib.hid (below_call hb1.out hb)
  clear hk hb
  go_wp2_with fail
  go_ret
  exact ⟨k, rfl, hef.out k hk'.out, hb'.out⟩
end Go.Proofs.Ytjkbhdlbomcbeaa
