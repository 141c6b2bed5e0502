import Derived.Test.YtjkbhdlbomcbeaaPb
namespace Go.Proofs.Ytjkbhdlbomcbeaa
open Go.RowKit Go.Shelf Shf

theorem till_n (s : Sh) (i : Nat) (x : Int) : (till s i x).n = s.n := by simp [till, Sh.put, Sh.n]
theorem later_n (s : Sh) (i : Nat) (x : Int) : (later s i x).n = s.n := by simp [later, Sh.put, Sh.n]
theorem refT : ∀ (t : Tr) {s : Sh}, Loose s → WfT s.n s.os.length t → ∀ (w : World) (v : Value), ShV w v s.P s.js (osI s) →
    Calls Try.prog (fnT t) #[t.arg, v] w (RefEnd (rf t s) w) := by
  intro t
  induction t with
  | split j a l r ihl ihr =>
    intro s hs hwf w v hv
    obtain ⟨h0, h1, h2, h3⟩ := hwf
    obtain ⟨J, rfl⟩ : ∃ J : Nat, j = (J : Int) := ⟨j.toNat, by omega⟩
    have hJ : J < s.n := by omega
    show Calls Try.prog 95 #[.agg #[.int .i64 (J : Int), .int .i64 a, l.val, r.val], v] w _
    rw [val_is l, val_is r]
    refine split95 hs hv hJ (methT l) (methT r) (callT l) (callT r) (dl := rf l (till s J a)) (dr := rf r (later s J a)) (fun e1 e2 W u hu => ?_) (fun e1 e2 W u hu => ?_) rfl
    · exact ihl (loose_till hs hJ e1 (Int.le_of_lt e2)) (by rw [till_n]; exact h2) W u hu
    · exact ihr (loose_later hs hJ e1 e2) (by rw [later_n]; exact h3) W u hu
  | energy a b =>
    intro s hs hwf w v hv
    exact energy96 hs hv hwf rfl
  | late k =>
    intro s hs hwf w v hv
    obtain ⟨h0, h1⟩ := hwf
    obtain ⟨K, rfl⟩ : ∃ K : Nat, k = (K : Int) := ⟨k.toNat, by omega⟩
    exact late76 hs hv (k := K) (by omega) rfl
theorem pz_wf (ns : List Nd) (nj no : Nat) : ∀ (f i : Nat) (sn : Nat → Bool) (t : Tr), (pz ns nj no f i sn).1 = some t → WfT nj no t := by
  intro f
  induction f with
  | zero => intro i sn t h; rw [pz] at h; cases h
  | succ f ih =>
    intro i sn t h
    rw [pz] at h
    split at h
    · cases h
    · simp only at h
      split at h
      · split at h
        · rename_i hok
          simp only at h
          unfold spOk at hok
          simp only [Bool.and_eq_true, decide_eq_true_eq] at hok
          split at h
          · rename_i x y hx hy
            cases h
            exact ⟨hok.1, hok.2.1, ih _ _ _ hx, ih _ _ _ hy⟩
          · cases h
        · cases h
      · split at h
        · split at h
          · rename_i hi
            cases h
            exact hi
          · cases h
        · split at h
          · split at h
            · rename_i hl
              simp only [Bool.and_eq_true, decide_eq_true_eq] at hl
              cases h
              exact hl
            · cases h
          · cases h
/-- What a proof says. -/
def prO (s : Sh) (o : Option Tr) : Bool := match o with | some t => rf t s | none => false
def prB (s : Sh) (nj no : Nat) (ns : List Nd) : Bool := prO s (pz ns nj no (ns.length + 1) 0 fun _ => false).1
def provesE (P : Int) (js : List J) (os : List (Int × Int)) (ns : List Nd) : Int := if validB P js os then (if 20000 < ns.length then 3 else 0) else 1
def provesB (P : Int) (js : List J) (os : List (Int × Int)) (ns : List Nd) : Bool := validB P js os && (decide (ns.length ≤ 20000) && prB (shOf P js os) js.length os.length ns)
set_option maxHeartbeats 4000000 in
set_option maxRecDepth 100000 in
theorem proves32 {w : World} {v pv : Value} {P : Int} {js : List J} {os : List (Int × Int)} {ns : List Nd} (h : ShV w v P js os) (h7 : js.length ≤ 7) (h21 : os.length ≤ 21) (hp : ReadsNd w pv ns) :
    Calls Try.prog 32 #[v, pv] w fun e w' => e = .returned (.tuple #[.bool (provesB P js os ns), .int .i64 (provesE P js os ns)]) ∧ Below w.heap.size w w' := by
  obtain ⟨A, hA⟩ : ∃ A, A = provesB P js os ns := ⟨_, rfl⟩
  obtain ⟨E, hE⟩ : ∃ E, E = provesE P js os ns := ⟨_, rfl⟩
  rw [← hA, ← hE]
  unfold provesB at hA
  unfold provesE at hE
  obtain ⟨jv, ov, rfl, rj, ro⟩ := h
  obtain ⟨ja, jc, rfl, -⟩ := rj.at
  obtain ⟨oa, oc, rfl, -⟩ := ro.at
  have hpr := Lib.hid (fun (W : World) (hb : Below w.heap.size w W) => hp.below hb)
  obtain ⟨pa, pc, rfl, -⟩ := hp
  have hb0 := Lib.hid (below_alloc1 w (.cells #[.int .i64 P, .slice ja js.length jc, .slice oa os.length oc] 25))
  have hsh := Lib.hid (fun (W : World) (hb : Below w.heap.size w W) => (show ShV W (.agg #[.int .i64 P, .slice ja js.length jc, .slice oa os.length oc]) P js os from ⟨_, _, rfl, rj.below hb, ro.below hb⟩))
  cases hv : validB P js os with
  | false =>
    rw [hv] at hA hE
    simp only [Bool.false_and, Bool.false_eq_true, if_false] at hA hE
    have hn := Lib.hid (new37' (rj.below hb0.out) (ro.below hb0.out) h7 h21 hv)
    obtain ⟨m, hm⟩ : ∃ m, m = os.length := ⟨_, rfl⟩
    obtain ⟨n, hn2⟩ : ∃ n, n = js.length := ⟨_, rfl⟩
    obtain ⟨q, hq⟩ : ∃ q, q = ns.length := ⟨_, rfl⟩
    rw [← hm, ← hn2] at hn hb0
    rw [← hm, ← hn2, ← hq]
    subst hA hE
    clear hv rj ro hsh hpr hm hn2 hq h7 h21
    go_enter Try.func32, Try.ntmps32
    go_wp2_with (
      go_at_call 37; refine (hn.out).mono ?_; rintro e w1 ⟨rfl, hb1⟩
      have hb1' := Lib.hid (below_call (below_call hb0.out hb1) (below_alloc1 _ (.cells #[.int .i64 0, .slice none 0 0, .slice none 0 0] 81)))
      clear hb1)
    go_ret2
    exact ⟨rfl, hb1'.out⟩
  | true =>
    rw [hv] at hA hE
    simp only [Bool.true_and, if_true] at hA hE
    have hn := Lib.hid (new37' (rj.below hb0.out) (ro.below hb0.out) h7 h21 hv)
    obtain ⟨hV, hos⟩ := valid_sh hv
    by_cases hq : 20000 < ns.length
    · rw [if_pos hq] at hE
      rw [show decide (ns.length ≤ 20000) = false from by simp; omega] at hA
      simp only [Bool.false_and] at hA
      have hd1 : decide (20000 < ns.length) = true := by simpa using hq
      have hd2 : decide ((20000 : Int) < (ns.length : Int)) = true := by simp; omega
      obtain ⟨m, hm⟩ : ∃ m, m = os.length := ⟨_, rfl⟩
      obtain ⟨n, hn2⟩ : ∃ n, n = js.length := ⟨_, rfl⟩
      obtain ⟨q, hq2⟩ : ∃ q, q = ns.length := ⟨_, rfl⟩
      rw [← hm, ← hn2] at hn hb0
      rw [← hq2] at hd1 hd2 hq
      rw [← hm, ← hn2, ← hq2]
      subst hA hE
      clear hv rj ro hsh hpr hm hn2 hq2 h7 h21 hV hos
      go_enter Try.func32, Try.ntmps32
      go_wp2_with (
        go_at_call 37; refine (hn.out).mono ?_; rintro e w1 ⟨rfl, hb1⟩
        have hb1' := Lib.hid (below_call (below_call hb0.out hb1) (below_alloc1 _ (.cells #[.int .i64 P, .slice ja n jc, .slice oa m oc] 81)))
        clear hb1)
      go_ret2
      exact ⟨rfl, hb1'.out⟩
    · rw [if_neg hq] at hE
      rw [show decide (ns.length ≤ 20000) = true from by simp; omega] at hA
      simp only [Bool.true_and] at hA
      have hd1 : decide (20000 < ns.length) = false := by simpa using hq
      have hd2 : decide ((20000 : Int) < (ns.length : Int)) = false := by simp; omega
      unfold prB at hA
      have hwf := pz_wf ns js.length os.length (ns.length + 1) 0 (fun _ => false)
      have hps := Lib.hid (fun (W : World) (hb : Below w.heap.size w W) => parse53 (w := W) (P := P) (ja := ja) (oa := oa) (pa := pa) (n := js.length) (jc := jc) (m := os.length) (oc := oc) (q := ns.length) (pc := pc) (r := valO (pz ns js.length os.length (ns.length + 1) 0 fun _ => false).1) (by omega)
        (fun W3 b ge hR => (node71 (hpr.out W hb) ns.length 0 W3 (fun _ => false) (by omega) hR).mono (fun e w' he => ⟨he.1, he.2.1.below⟩)))
      obtain ⟨o, ho⟩ : ∃ o, o = (pz ns js.length os.length (ns.length + 1) 0 fun _ => false).1 := ⟨_, rfl⟩
      rw [← ho] at hA hps hwf
      have hosl : (shOf P js os).os.length = os.length := by simp [shOf]
      have hjsl : (shOf P js os).n = js.length := rfl
      rcases val_form o with ⟨e1, e2⟩ | ⟨t, ty, tv, e1, e2, e3⟩
      · rw [e1] at hA
        rw [e2] at hps
        simp only [prO] at hA
        obtain ⟨m, hm⟩ : ∃ m, m = os.length := ⟨_, rfl⟩
        obtain ⟨n, hn2⟩ : ∃ n, n = js.length := ⟨_, rfl⟩
        obtain ⟨q, hq2⟩ : ∃ q, q = ns.length := ⟨_, rfl⟩
        rw [← hm, ← hn2] at hn hb0 hps
        rw [← hq2] at hd1 hd2 hps
        rw [← hm, ← hn2, ← hq2]
        subst hA hE
        clear hv rj ro hsh hpr hm hn2 hq2 h7 h21 hV hos hq hwf ho hosl hjsl e1 e2
        go_enter Try.func32, Try.ntmps32
        go_wp2_with (
          first
          | (go_at_call 37; refine (hn.out).mono ?_; rintro e w1 ⟨rfl, hb1⟩
             have hT1 := Lib.hid (Three.new w1 (.int .i64 P) (.slice ja n jc) (.slice oa m oc) 81)
             have hs1 := Lib.hid (show w1.heap.size < (w1.alloc (.cells #[.int .i64 P, .slice ja n jc, .slice oa m oc] 81)).heap.size by simp)
             have hb1' := Lib.hid (below_call (below_call hb0.out hb1) (below_alloc1 _ (.cells #[.int .i64 P, .slice ja n jc, .slice oa m oc] 81)))
             have hc1 := Lib.hid (hps.out _ hb1'.out)
             clear hb1)
          | (go_at_call 53; refine (hc1.out).mono ?_; rintro e w2 ⟨rfl, hb2⟩
             have hb2' := Lib.hid (below_call hb1'.out hb2)
             obtain ⟨⟨z0, z1, z2⟩, -⟩ := hT1.out.keep hb2 hs1.out
             clear hb2))
        go_ret2
        exact ⟨rfl, hb2'.out⟩
      · rw [e1] at hA
        have hw := hwf t e1
        have hrf := Lib.hid (fun (W : World) (hb : Below w.heap.size w W) => refT t (s := shOf P js os) hV.loose (by rw [hosl]; exact hw) W _ (by rw [hos]; exact hsh.out W hb))
        have e4 : (Value.iface ty tv) = .iface (tyT t) t.arg := by rw [← e3, val_is]
        have e5 : ty = tyT t := by cases e4; rfl
        have e6 : tv = t.arg := by cases e4; rfl
        rw [e5, e6] at e2
        clear e3 e4 e5 e6
        rw [e2] at hps
        simp only [prO] at hA
        have hme := methT t
        have hca := callT t
        obtain ⟨y, hy⟩ : ∃ y, y = tyT t := ⟨_, rfl⟩
        obtain ⟨g, hg⟩ : ∃ g, g = t.arg := ⟨_, rfl⟩
        obtain ⟨f, hf⟩ : ∃ f, f = fnT t := ⟨_, rfl⟩
        obtain ⟨d, hd⟩ : ∃ d, d = rf t (shOf P js os) := ⟨_, rfl⟩
        rw [← hy, ← hg, ← hf] at hme
        rw [← hf] at hca
        rw [← hf, ← hg, ← hd] at hrf
        rw [← hy, ← hg] at hps
        rw [← hd] at hA
        obtain ⟨m, hm⟩ : ∃ m, m = os.length := ⟨_, rfl⟩
        obtain ⟨n, hn2⟩ : ∃ n, n = js.length := ⟨_, rfl⟩
        obtain ⟨q, hq2⟩ : ∃ q, q = ns.length := ⟨_, rfl⟩
        rw [← hm, ← hn2] at hn hb0 hps hrf
        rw [← hq2] at hd1 hd2 hps
        rw [← hm, ← hn2, ← hq2]
        subst hA hE
        clear hv rj ro hsh hpr hm hn2 hq2 h7 h21 hV hos hq hwf ho hosl hjsl e1 e2 hw hy hg hf hd
        go_enter Try.func32, Try.ntmps32
        go_wp2_with (
          first
          | (go_at_call 37; refine (hn.out).mono ?_; rintro e w1 ⟨rfl, hb1⟩
             have hT1 := Lib.hid (Three.new w1 (.int .i64 P) (.slice ja n jc) (.slice oa m oc) 81)
             have hs1 := Lib.hid (show w1.heap.size < (w1.alloc (.cells #[.int .i64 P, .slice ja n jc, .slice oa m oc] 81)).heap.size by simp)
             have hb1' := Lib.hid (below_call (below_call hb0.out hb1) (below_alloc1 _ (.cells #[.int .i64 P, .slice ja n jc, .slice oa m oc] 81)))
             have hc1 := Lib.hid (hps.out _ hb1'.out)
             clear hb1)
          | (go_at_call 53; refine (hc1.out).mono ?_; rintro e w2 ⟨rfl, hb2⟩
             have hb2' := Lib.hid (below_call hb1'.out hb2)
             obtain ⟨⟨z0, z1, z2⟩, -⟩ := hT1.out.keep hb2 hs1.out
             have hl2 := Lib.hid (hrf.out _ hb2'.out)
             clear hb2 hc1)
          | (refine (hl2.out).mono ?_; rintro e w3 ⟨rfl, hb3⟩
             have hb3' := Lib.hid (below_call hb2'.out hb3)
             clear hb3 hl2))
        go_ret2
        exact ⟨rfl, hb3'.out⟩
end Go.Proofs.Ytjkbhdlbomcbeaa
