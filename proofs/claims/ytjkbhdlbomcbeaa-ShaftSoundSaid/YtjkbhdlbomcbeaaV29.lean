import Derived.Test.YtjkbhdlbomcbeaaV27
import Derived.Test.YtjkbhdlbomcbeaaV28
import Derived.Test.YtjkbhdlbomcbeaaV31
import Derived.Test.YtjkbhdlbomcbeaaV30
namespace Go.Proofs.Ytjkbhdlbomcbeaa
open Go.RowKit Go.Shelf Shf

def FirstE (w : World) (P : Int) (js : List J) (os : List (Int × Int)) (e : Ending) (w' : World) : Prop := ∃ u err, e = .returned (.tuple #[u, .int .i64 err]) ∧ ((¬ ∃ S, Sched (shOf P js os) S) → err = 5) ∧ Below w.heap.size w w'
theorem firstE {w : World} {v : Value} {P : Int} {js : List J} {os : List (Int × Int)} (h : ShV w v P js os) (hv : validB P js os = true) (h7 : js.length ≤ 7) (h21 : os.length ≤ 21) : Calls Try.prog 21 #[v] w (FirstE w P js os) := by
  refine (first21 h h7 h21).mono ?_
  rintro e w' ⟨u, xs, err, rfl, hI, hb, hA⟩
  refine ⟨u, err, rfl, fun hn => ?_, hb⟩
  rcases hA with ⟨g, _⟩ | ⟨_, ⟨_, _, g⟩ | ⟨_, g, _⟩⟩
  · rw [hv] at g; cases g
  · exact g
  · exact absurd ⟨_, g.is⟩ hn
theorem os_len {P : Int} {js : List J} {os : List (Int × Int)} : (shOf P js os).os.length = os.length := List.length_map ..
theorem sound_nodes {P : Int} {js : List J} {os : List (Int × Int)} {ns : List Nd} (hv : validB P js os = true) (hd : prB (shOf P js os) (shOf P js os).n (shOf P js os).os.length ns = true) : ¬ ∃ S, Sched (shOf P js os) S := by
  unfold prB at hd
  cases ht : (pz ns (shOf P js os).n (shOf P js os).os.length (ns.length + 1) 0 fun _ => false).1 with
  | none => rw [ht] at hd; cases hd
  | some t =>
    rw [ht] at hd
    exact rf_sound t (valid_sh hv).1.loose (pz_wf _ _ _ _ _ _ _ ht) hd
theorem proves32r {w : World} {v pv : Value} {P : Int} {js : List J} {os : List (Int × Int)} {ns : List Nd} (h : ShV w v P js os) (hv : validB P js os = true) (h7 : js.length ≤ 7) (h21 : os.length ≤ 21) (hp : ReadsNd w pv ns) (h5 : ns.length ≤ 20000) {d : Bool} (hd : prB (shOf P js os) (shOf P js os).n (shOf P js os).os.length ns = d) :
    Calls Try.prog 32 #[v, pv] w fun e w' => e = .returned (.tuple #[.bool d, .int .i64 0]) ∧ Below w.heap.size w w' := by
  have := proves32 h h7 h21 hp
  have e1 : provesB P js os ns = d := by
    unfold provesB
    rw [hv, ← hd, os_len]
    simp [h5]
    rfl
  have e2 : provesE P js os ns = 0 := by
    unfold provesE
    rw [hv, if_pos rfl, if_neg (by omega)]
  rw [e1, e2] at this
  exact this
theorem own_flatR {w : World} {B e z n : Nat} {v : Value} {xs : List Value} (h : w.ownsRow B e z v n xs) : FlatR w z v n xs := by
  refine ⟨h.1, ?_⟩
  rcases h.2 with ⟨rfl, h0⟩ | ⟨g, cap, cur, rfl, hB, hg, hn, _⟩
  · exact ⟨none, 0, by rw [h0], by omega, fun _ => rfl, fun hne => absurd h0 hne⟩
  · obtain ⟨ao, c, e, hc, hcl⟩ := own_cells h
    cases e
    exact ⟨_, _, rfl, hc, fun e => (by cases e), fun hne => by obtain ⟨g', e', _, hg', hcell⟩ := hcl hne; cases e'; exact ⟨g, 0, rfl, hg', fun j u hj => by rw [Nat.zero_add]; exact hcell j u hj⟩⟩
theorem cells3 {w W : World} {aa : Option Addr} {n ac i : Nat} {xs : List (Nat × Nat × Nat)} (h : FlatR w 3 (.slice aa n ac) n (flat enc3 xs)) (hn : n = xs.length) (h8 : ∀ x ∈ xs, x.1 < 256 ∧ x.2.1 < 256 ∧ x.2.2 < 256) (hb : Below w.heap.size w W) (hi : i < n) :
    ∃ x0 x1 x2 : Nat, x0 < 256 ∧ x1 < 256 ∧ x2 < 256 ∧ ∃ g o, aa = some ⟨g, o, none⟩ ∧ W.cell? ⟨g, o + i * 3, none⟩ = some (.int .u8 x0) ∧ W.cell? ⟨g, o + i * 3 + 1, none⟩ = some (.int .u8 x1) ∧ W.cell? ⟨g, o + i * 3 + 2, none⟩ = some (.int .u8 x2) := by
  obtain ⟨-, ao, c, e, -, -, hcl⟩ := h
  obtain ⟨g, o, rfl, hg, hcell⟩ := hcl (by omega)
  have hi' : i < xs.length := by omega
  obtain ⟨g0, g1, g2⟩ := h8 _ (List.getElem_mem hi')
  have key : ∀ k (u : Value), k < 3 → (enc3 xs[i])[k]? = some u → W.cell? ⟨g, o + i * 3 + k, none⟩ = some u := fun k u hk hu => by
    have h1 := hcell (i * 3 + k) u ((flat_at (enc := enc3) (fun _ => rfl) xs i k hi' hk).trans hu)
    rw [← Nat.add_assoc] at h1
    exact (hb.cell (p := ⟨g, o + i * 3 + k, none⟩) hg).trans h1
  exact ⟨_, _, _, g0, g1, g2, g, o, by injection e, key 0 _ (by decide) rfl, key 1 _ (by decide) rfl, key 2 _ (by decide) rfl⟩
theorem own_cellN {W : World} {B g n c : Nat} {ms : List Nd} (h : OwnN W B (.slice (some ⟨g, 0, none⟩) n c) ms) {i : Nat} (hi : i < ms.length) (k : Nat) (hk : k < 4) (x : Int) : ∃ ms' : List Nd, ms'.length = ms.length ∧ OwnN (W.setCell ⟨g, i * 6 + k, none⟩ (.int .i64 x)) B (.slice (some ⟨g, 0, none⟩) n c) ms' := by
  unfold OwnN at h
  obtain ⟨_, _, e, _⟩ := own_cells h
  obtain rfl : n = ms.length := by injection e
  have h1 := (h.stored (i * 6 + k) (.int .i64 x)).1
  obtain ⟨⟨k0, j, a, b, l, r⟩, hm⟩ : ∃ m, m = ms[i] := ⟨_, rfl⟩
  have hget : ∀ y, ms[i]? = some y → y = ⟨k0, j, a, b, l, r⟩ := fun y hy => by rw [List.getElem?_eq_getElem hi] at hy; cases hy; exact hm.symm
  obtain ⟨m', hm'⟩ : ∃ m' : Nd, ∀ y, ms[i]? = some y → encN m' = (encN y).set k (.int .i64 x) := by
    rcases k with _ | _ | _ | _ | k
    · exact ⟨⟨x, j, a, b, l, r⟩, fun y hy => by rw [hget y hy]; rfl⟩
    · exact ⟨⟨k0, x, a, b, l, r⟩, fun y hy => by rw [hget y hy]; rfl⟩
    · exact ⟨⟨k0, j, x, b, l, r⟩, fun y hy => by rw [hget y hy]; rfl⟩
    · exact ⟨⟨k0, j, a, x, l, r⟩, fun y hy => by rw [hget y hy]; rfl⟩
    · omega
  refine ⟨ms.set i m', List.length_set .., ?_⟩
  rw [flat_set encN_len ms i k m' _ hi (by omega) hm'] at h1
  unfold OwnN
  rw [List.length_set]
  exact h1
theorem three_set0 {W : World} {g : Nat} {a b c x : Value} (h : Three W g a b c) : Three (W.setCell ⟨g, 0, none⟩ x) g x b c := by
  refine ⟨⟨World.cell?_setCell_same' _ _ _ (by rw [h.1.1]; rfl), ?_, ?_⟩, fun j => by rw [World.frozen?_setCell]; exact h.2 j⟩
  · rw [World.cell?_setCell_other _ _ _ _ (by simp)]; exact h.1.2.1
  · rw [World.cell?_setCell_other _ _ _ _ (by simp)]; exact h.1.2.2
theorem valid_less {P P' : Int} {js : List J} {os : List (Int × Int)} (h : validB P js os = true) (hP : 1 ≤ P' ∧ P' ≤ P) : validB P' js os = true := by
  unfold validB at h ⊢
  simp only [Bool.and_eq_true, List.all_eq_true, inB, decide_eq_true_eq] at h ⊢
  obtain ⟨h1, h2, ⟨h3, h4⟩, ⟨h5, h6⟩, h7⟩ := h
  exact ⟨h1, h2, ⟨hP.1, by omega⟩, ⟨h5, h6⟩, h7⟩
theorem valid_pow {P : Int} {js : List J} {os : List (Int × Int)} (h : validB P js os = true) : 1 ≤ P ∧ P ≤ 20 := by
  unfold validB at h
  simp only [Bool.and_eq_true, List.all_eq_true, inB, decide_eq_true_eq] at h
  exact h.2.2.1
def RefE (w : World) (e : Ending) (w' : World) : Prop := ∃ v ns err, e = .returned (.tuple #[v, .int .i64 err]) ∧ OwnN w' w.heap.size v ns ∧ ns.length ≤ 20000 ∧ (err = 0 ∨ err = 5 ∨ err = 4) ∧ Below w.heap.size w w'
theorem refE {w : World} {v : Value} {P : Int} {js : List J} {os : List (Int × Int)} (h : ShV w v P js os) (hv : validB P js os = true) (h7 : js.length ≤ 7) (h21 : os.length ≤ 21) : Calls Try.prog 30 #[v] w (RefE w) := by
  refine (refuse30 h77 h h7 h21).mono ?_
  rintro e w' ⟨v, ns, err, rfl, hO, hI, hb⟩
  rcases hI with ⟨h1, _⟩ | ⟨_, ⟨_, rfl, rfl⟩ | ⟨_, ⟨rfl, rfl, _⟩ | ⟨rfl, h4, _⟩⟩⟩
  · rw [hv] at h1; cases h1
  · exact ⟨v, _, 5, rfl, hO, Nat.zero_le _, .inr (.inl rfl), hb⟩
  · exact ⟨v, _, 4, rfl, hO, Nat.zero_le _, .inr (.inr rfl), hb⟩
  · exact ⟨v, _, 0, rfl, hO, h4, .inl rfl, hb⟩
set_option maxHeartbeats 8000000 in
set_option maxRecDepth 100000 in
theorem walk10 {w : World} {v u : Value} {p : Nat} {xs : List (Nat × Nat × Nat × Nat)} {bs : List (Nat × Nat)} {ts : List (Nat × Nat × Nat)} (h : InWork w v p xs bs) (ht : InTri w u ts) :
    Calls Try.prog 10 #[v, u] w fun e w' => e = .returned (.bool true) ∧ Below w.heap.size w w' := by
  have hm0 := fun (W : World) (hb : Below w.heap.size w W) => made35 (h.below hb)
  obtain ⟨av, bv, rfl, -, ha, hb, -⟩ := h
  obtain ⟨aa, an, ac, rfl⟩ : ∃ a n c, av = .slice a n c := by obtain ⟨_, a, c, e, _⟩ := ha; exact ⟨_, _, _, e⟩
  obtain ⟨ba, bn, bc, rfl⟩ : ∃ a n c, bv = .slice a n c := by obtain ⟨_, a, c, e, _⟩ := hb; exact ⟨_, _, _, e⟩
  clear ha hb
  obtain ⟨htf, htm, ht8⟩ := ht
  obtain ⟨n, hn⟩ : ∃ n, n = ts.length := ⟨_, rfl⟩
  rw [← hn] at htf htm
  unfold maxLen at htm
  obtain ⟨ua, uc, rfl⟩ : ∃ a c, u = .slice a n c := by obtain ⟨_, a, c, e, _⟩ := htf; exact ⟨_, _, e⟩
  have htf' := Lib.hid htf
  have ht8' := Lib.hid ht8
  have hn' := Lib.hid hn
  obtain ⟨F, hF⟩ : ∃ F : Nat, F = n % 3 := ⟨_, rfl⟩
  have e1 : (n : Int) % 3 = (F : Int) := by omega
  have hF2 : F < 3 := by omega
  clear htf ht8 hn hF
  have hb0 := Lib.hid (below_alloc1 w (.cells #[.int .u8 (p : Int), .slice aa an ac, .slice ba bn bc] 64))
  have hm := Lib.hid (hm0 _ hb0.out)
  clear hm0
  go_enter Try.func10, Try.ntmps10
  go_upto_region 2 with (go_at_call 35; refine (hm.out).mono ?_; rintro e w1 ⟨P, jv, ov, js, os, rfl, oj, oo, hv, hb1⟩; obtain ⟨ja, jl, jc, rfl, hjl⟩ := own_len oj; obtain ⟨oa, ol, oc, rfl, hol⟩ := own_len oo; have hjl' := Lib.hid hjl; have hol' := Lib.hid hol; have hv' := Lib.hid hv; clear hjl hol hv)
  obtain ⟨W4, hW4⟩ : ∃ W4, W4 = w1.alloc (Obj.cells #[Value.int IntKind.i64 P, Value.slice ja jl jc, Value.slice oa ol oc] 25) := ⟨_, rfl⟩
  have hT := Lib.hid (show Three W4 w1.heap.size (.int .i64 P) (.slice ja jl jc) (.slice oa ol oc) by rw [hW4]; exact Three.new w1 _ _ _ 25)
  have hz := Lib.hid (show w1.heap.size < W4.heap.size by rw [hW4]; simp)
  have hb1W := (show Below w1.heap.size w1 W4 by rw [hW4]; exact below_alloc1 w1 _)
  have hbW := Lib.hid (below_call (below_call hb0.out hb1) hb1W)
  have hsh := Lib.hid (fun (W : World) (hb : Below W4.heap.size W4 W) => (show ShV W (.agg #[.int .i64 P, .slice ja jl jc, .slice oa ol oc]) P js os from ⟨_, _, rfl, oj.reads.below (below_call hb1W hb), oo.reads.below (below_call hb1W hb)⟩))
  have hshL := Lib.hid (fun (Q : Int) (W : World) (hb : Below W4.heap.size W4 W) => (show ShV W (.agg #[.int .i64 Q, .slice ja jl jc, .slice oa ol oc]) Q js os from ⟨_, _, rfl, oj.reads.below (below_call hb1W hb), oo.reads.below (below_call hb1W hb)⟩))
  have hoj := Lib.hid (fun (W : World) (hb : Below W4.heap.size W4 W) => oj.below (below_call hb1W hb))
  have hoo := Lib.hid (fun (W : World) (hb : Below W4.heap.size W4 W) => own_below oo (below_call hb1W hb))
  rw [← hW4]
  obtain ⟨⟨y0, y1, y2⟩, -⟩ := hT.out
  clear hW4 hb1 hb1W oj oo
  have hV := Lib.hid (valid_sh hv'.out)
  have h7 := Lib.hid (show js.length ≤ 7 from by have := hV.out.1.loose.num.2; exact Nat.le_succ_of_le this)
  have h21 := Lib.hid (show os.length ≤ 21 from by have := hV.out.1.loose.few; rw [show (shOf P js os).os.length = os.length from List.length_map ..] at this; exact Nat.le_succ_of_le this)
  have hFi := Lib.hid (firstE (hsh.out W4 (Below.refl _ _)) hv'.out h7.out h21.out)
  go_upto_region 4 with (
    go_at_call 21; refine (hFi.out).mono ?_; rintro e w5 ⟨fu, fe, rfl, hfe, hb5⟩
    have hb5' := Lib.hid hb5
    have hfe' := Lib.hid hfe
    obtain ⟨⟨y0, y1, y2⟩, -⟩ := hT.out.keep hb5'.out hz.out
    clear hb5 hfe)
  obtain ⟨W6, hW6⟩ : ∃ W, W = w5.alloc (Obj.cells #[Value.int IntKind.i64 P, Value.slice ja jl jc, Value.slice oa ol oc] 25) := ⟨_, rfl⟩
  have hb6 := Lib.hid (show Below w5.heap.size w5 W6 by rw [hW6]; exact below_alloc1 w5 _)
  have hT8 := Lib.hid (show Three W6 w5.heap.size (.int .i64 P) (.slice ja jl jc) (.slice oa ol oc) by rw [hW6]; exact Three.new w5 _ _ _ 25)
  have hz8 := Lib.hid (show w5.heap.size < W6.heap.size by rw [hW6]; simp)
  have hT6 := Lib.hid (hT.out.keep (below_call hb5'.out hb6.out) hz.out)
  rw [← hW6]
  clear hW6 y0 y1 y2
  obtain ⟨⟨y0, y1, y2⟩, -⟩ := hT6.out
  obtain ⟨⟨x0, x1, x2⟩, xf⟩ := hT8.out
  have xf0 := xf 0
  clear xf
  have hpw := valid_pow hv'.out
  obtain ⟨Q, hQ⟩ : ∃ Q, Q = max 1 (P - (F : Int)) := ⟨_, rfl⟩
  have hQb := Lib.hid (show 1 ≤ Q ∧ Q ≤ P by omega)
  have hmx := fun (W : World) => run_max2h (P := Try.prog) (w := W) #[3, 3] 3 1 (P - (F : Int)) Q hQ
  have hs1 : IntKind.i64.wrap (P - (F : Int)) = P - (F : Int) := IntWalk.i64_in _ (by omega)
  clear hQ
  go_upto_region 5 with fail
  obtain ⟨W7, hW7⟩ : ∃ W, W = W6.setCell ⟨w5.heap.size, 0, none⟩ (.int .i64 Q) := ⟨_, rfl⟩
  have hTQ := Lib.hid (show Three W7 w5.heap.size (.int .i64 Q) (.slice ja jl jc) (.slice oa ol oc) by rw [hW7]; exact three_set0 hT8.out)
  have hb7 := Lib.hid (show Below w5.heap.size w5 W7 by rw [hW7]; exact below_set hb6.out (Nat.le_refl _))
  have h15 := Lib.hid (show w1.heap.size < w5.heap.size from Nat.lt_of_lt_of_le hz.out hb5'.out.size)
  have hT7 := Lib.hid (show Three W7 w1.heap.size (.int .i64 P) (.slice ja jl jc) (.slice oa ol oc) by rw [hW7]; exact hT6.out.other (by have := h15.out; omega))
  have hb47 := Lib.hid (below_call hb5'.out hb7.out)
  rw [← hW7]
  clear hW7 y0 y1 y2 x0 x1 x2 xf0 hmx hs1 e1
  obtain ⟨⟨y0, y1, y2⟩, -⟩ := hT7.out
  obtain ⟨⟨x0, x1, x2⟩, -⟩ := hTQ.out
  have hz7 := Lib.hid (show w1.heap.size < W7.heap.size from Nat.lt_of_lt_of_le h15.out hb7.out.size)
  have hRe := Lib.hid (refE (hshL.out Q W7 hb47.out) (valid_less hv'.out hQb.out) h7.out h21.out)
  go_upto_region 6 with (
    go_at_call 30; refine (hRe.out).mono ?_; rintro e w8 ⟨pv, ns, re, rfl, oN, hnl, hre, hb8⟩
    have oN' := Lib.hid oN
    have hnl' := Lib.hid hnl
    have hre' := Lib.hid hre
    have hb8' := Lib.hid hb8
    obtain ⟨⟨y0, y1, y2⟩, -⟩ := hT7.out.keep hb8'.out hz7.out
    clear hb8 oN hnl hre)
  clear x0 x1 x2
  obtain ⟨pa, pc, rfl, -⟩ := own_cells oN'.out
  obtain ⟨nl, hnl0⟩ : ∃ x, x = ns.length := ⟨_, rfl⟩
  have hnl0' := Lib.hid hnl0
  obtain ⟨i0, hi, hi0, hi1, hi2⟩ := info_parts info72
  rw [← hnl0]
  clear hnl0
  have hLv := Lib.hid (lives18 (w := w8))
  rcases hre'.out with rfl | rfl | rfl
  all_goals
    go_upto_region 8 with (
      go_at_call 18; refine (hLv.out).mono ?_; rintro e w9 ⟨rfl, hb9⟩
      have hb9' := Lib.hid (below_call hb8'.out hb9)
      have hb89 := Lib.hid hb9
      obtain ⟨⟨y0, y1, y2⟩, -⟩ := hT7.out.keep hb9'.out hz7.out
      clear hb9)
    have hlit := Lib.hid (lit_own w9 w9.heap.size w9.heap.size 6 72 (Nat.le_refl _) rfl)
    have hpf := Lib.hid (show FlatR (w9.alloc (.cells #[] 72)) 6 (.slice pa nl pc) nl (flat encN ns) from by
      have := (own_flatR oN'.out).below (below_call hb89.out (below_alloc1 w9 (.cells #[] 72)))
      rw [← hnl0'.out] at this
      exact this)
    have hlen := Lib.hid (show 0 + nl ≤ 1000000 from by have := hnl'.out; have := hnl0'.out; omega)
    have hle := Lib.hid (show w9.heap.size ≤ (w9.alloc (.cells #[] 72)).heap.size from by rw [World.size_alloc]; omega)
    go_upto_region 9 with (
      at_builtin; refine app_flatK Try.underlying52 hi hi0 hi1 hi2 rfl (by decide) (by decide) hlit.out hpf.out (one_flatN _) hlen.out hle.out rfl _ _ rfl rfl rfl ?_; intro v' wk hown hbk hkp
      have hbk' := Lib.hid (show Below w9.heap.size w9 wk from ((Below.refl _ _).alloc (Nat.le_refl _) _).trans hbk)
      have hOk := Lib.hid (show OwnN wk w9.heap.size v' ns from by unfold OwnN; rw [← hnl0'.out]; simpa only [Nat.zero_add, List.nil_append] using hown)
      obtain ⟨qa, qc, rfl, -⟩ := own_cells hown
      clear hown hbk hkp)
    clear hlit hpf hle
    rw [Nat.zero_add] at hOk
    have hnl2 := hlen.out
    rw [Nat.zero_add] at hnl2
    clear y0 y1 y2
    go_wp2_with fail
    go_loopw [12] (fun iv wr => ∃ (i : Nat) (ms : List Nd), i ≤ 4 ∧ iv = .int .i64 i ∧ ms.length = nl ∧ Hid (OwnN wr w9.heap.size (.slice qa nl qc) ms) ∧ Hid (Below w9.heap.size w9 wr)) (fun iv _ => 4 - (intOf iv).toNat)
    case atStart => exact ⟨0, ns, by omega, rfl, hnl0'.out.symm, hOk, hbk'⟩
    case round =>
      obtain ⟨i, ms, hi4, rfl, hml, hO, hB⟩ := hrel
      obtain ⟨wo, rfl⟩ : ∃ wo : World, wo = wr := ⟨_, rfl⟩
      clear hOk hbk'
      by_cases hl : i < n ∧ i < 4 ∧ 0 < nl
      · obtain ⟨hl1, hl2, hl3⟩ := hl
        have hl1' : (i : Int) < (n : Int) := by omega
        have hl2' : decide ((i : Int) < 4) = true := by simp; omega
        have hl3' : (0 : Int) < (nl : Int) := by omega
        obtain ⟨x0, x1, x2, g0, g1, g2, g, o, rfl, c0, c1, c2⟩ := cells3 htf'.out hn'.out ht8'.out (below_call hbW.out (below_call hb47.out (below_call hb9'.out hB.out))) hl1
        obtain ⟨h, rfl, hBh⟩ : ∃ h, qa = some ⟨h, 0, none⟩ ∧ w9.heap.size ≤ h := by
          obtain ⟨ao, c, e, _, hcl⟩ := own_cells hO.out
          obtain ⟨h, e2, hBh, _⟩ := hcl (by omega)
          cases e
          exact ⟨h, e2, hBh⟩
        obtain ⟨K, hK⟩ : ∃ K : Nat, K = (x0 + 256 * x1) % nl := ⟨_, rfl⟩
        have hKl : K < nl := by rw [hK]; exact Nat.mod_lt _ hl3
        have eK : ((x0 : Int) + 256 * (x1 : Int)) % (nl : Int) = (K : Int) := by rw [hK]; simp
        obtain ⟨V, hVv⟩ : ∃ V : Nat, V = x2 % 16 := ⟨_, rfl⟩
        have eV : (x2 : Int) % 16 = (V : Int) := by omega
        have hV16 : V < 16 := by omega
        obtain ⟨D, hD⟩ : ∃ D : Nat, D = x2 / 16 % 5 := ⟨_, rfl⟩
        have eD : (x2 : Int) / 16 % 5 = (D : Int) := by omega
        have hD5 : D < 5 := by omega
        have eK' := Lib.hid eK
        have eV' := Lib.hid eV
        have eD' := Lib.hid eD
        have hB' := Lib.hid hBh
        have hO' := Lib.hid hO
        have hBb := Lib.hid hB
        have hml' := Lib.hid hml
        clear hK hVv hD hBh hO hB hml
        go_upto_region 12 with fail
        go_quiet (fail)
        rw [eK'.out]
        obtain ⟨Wd, hWd⟩ : ∃ W, W = wo.drewN nq := ⟨_, rfl⟩
        have k0 : Wd.cell? ⟨g, o + i * 3, none⟩ = some (.int .u8 x0) := by rw [hWd]; exact c0
        have k2 : Wd.cell? ⟨g, o + i * 3 + 2, none⟩ = some (.int .u8 x2) := by rw [hWd]; exact c2
        have hOd := Lib.hid (show OwnN Wd w9.heap.size (.slice (some ⟨h, 0, none⟩) nl qc) ms from by rw [hWd]; exact own_below hO'.out (below_drewN (Below.refl _ _) nq))
        have hBd := Lib.hid (show Below w9.heap.size w9 Wd from by rw [hWd]; exact below_drewN hBb.out nq)
        rw [← hWd]
        clear hWd c0 c1 c2
        have hKm := Lib.hid (show K < ms.length from by rw [hml'.out]; exact hKl)
        have hKI : (K : Int) < (nl : Int) := by omega
        obtain ⟨p0, p1, p2, p3, p4, p5⟩ := OwnN.cells hOd.out hKm.out
        have f0 := OwnN.frozenAt hOd.out (K * 6)
        have f1 := OwnN.frozenAt hOd.out (K * 6 + 1)
        have f2 := OwnN.frozenAt hOd.out (K * 6 + 2)
        have f3 := OwnN.frozenAt hOd.out (K * 6 + 3)
        have f4 := OwnN.frozenAt hOd.out (K * 6 + 4)
        have f5 := OwnN.frozenAt hOd.out (K * 6 + 5)
        have hD' : D = 0 ∨ D = 1 ∨ D = 2 ∨ D = 3 ∨ D = 4 := by omega
        rcases hD' with rfl | rfl | rfl | rfl | rfl
        · have eDD : (x2 : Int) / 16 % 5 = 0 := eD'.out
          have eVV := eV'.out
          go_wp2_with fail
          go_roundw
          case rel =>
            obtain ⟨ms2, hm2, hO2⟩ := own_cellN hOd.out hKm.out 2 (by decide) (V : Int)
            exact ⟨i + 1, ms2, by omega, by go_num, hm2.trans hml'.out, Lib.hid hO2, Lib.hid (below_set hBd.out hB'.out)⟩
          case measure => simp [intOf]; omega
        · have eDD : (x2 : Int) / 16 % 5 = 1 := eD'.out
          have eVV := eV'.out
          go_wp2_with fail
          go_roundw
          case rel =>
            obtain ⟨ms2, hm2, hO2⟩ := own_cellN hOd.out hKm.out 3 (by decide) (V : Int)
            exact ⟨i + 1, ms2, by omega, by go_num, hm2.trans hml'.out, Lib.hid hO2, Lib.hid (below_set hBd.out hB'.out)⟩
          case measure => simp [intOf]; omega
        · have eDD : (x2 : Int) / 16 % 5 = 2 := eD'.out
          have eVV := eV'.out
          go_wp2_with fail
          go_roundw
          case rel =>
            obtain ⟨ms2, hm2, hO2⟩ := own_cellN hOd.out hKm.out 1 (by decide) ((V : Int) % 6)
            exact ⟨i + 1, ms2, by omega, by go_num, hm2.trans hml'.out, Lib.hid hO2, Lib.hid (below_set hBd.out hB'.out)⟩
          case measure => simp [intOf]; omega
        · have eDD : (x2 : Int) / 16 % 5 = 3 := eD'.out
          have eVV := eV'.out
          go_wp2_with fail
          go_roundw
          case rel =>
            obtain ⟨ms2, hm2, hO2⟩ := own_cellN hOd.out hKm.out 0 (by decide) ((V : Int) % 4)
            exact ⟨i + 1, ms2, by omega, by go_num, hm2.trans hml'.out, Lib.hid hO2, Lib.hid (below_set hBd.out hB'.out)⟩
          case measure => simp [intOf]; omega
        · have eDD : (x2 : Int) / 16 % 5 = 4 := eD'.out
          have eVV := eV'.out
          go_wp2_with fail
          go_roundw
          case rel =>
            have hO2 := own_sixAt (m' := ⟨2, 0, (V : Int), (V : Int) + 1 + (x0 : Int) % 6, 0, 0⟩) hOd.out hKm.out
            exact ⟨i + 1, _, by omega, by go_num, (List.length_set ..).trans hml'.out, Lib.hid hO2, Lib.hid (six_below (o := K * 6) (m := ⟨2, 0, (V : Int), (V : Int) + 1 + (x0 : Int) % 6, 0, 0⟩) hBd.out hB'.out)⟩
          case measure => simp [intOf]; omega
      · have hq : (¬ (i : Int) < (n : Int)) ∨ ((i : Int) < (n : Int) ∧ decide ((i : Int) < 4) = false) ∨ ((i : Int) < (n : Int) ∧ decide ((i : Int) < 4) = true ∧ ¬ (0 : Int) < (nl : Int)) := by
          by_cases h1 : i < n
          · by_cases h2 : i < 4
            · refine .inr (.inr ⟨by omega, by simp; omega, by omega⟩)
            · refine .inr (.inl ⟨by omega, by simp; omega⟩)
          · exact .inl (by omega)
        clear hl
        have hb1o := Lib.hid (below_call hb9'.out hB.out)
        obtain ⟨⟨y0, y1, y2⟩, -⟩ := hT7.out.keep hb1o.out hz7.out
        have hb4o := Lib.hid (below_call hb47.out hb1o.out)
        obtain ⟨d0, hd⟩ : ∃ d0, d0 = prB (shOf P js os) (shOf P js os).n (shOf P js os).os.length ms := ⟨_, rfl⟩
        have h20 : ms.length ≤ 20000 := by rw [hml, hnl0'.out]; exact hnl'.out
        have hfin : d0 = true → fe = 5 := fun h => hfe'.out (sound_nodes hv'.out (hd.symm.trans h))
        have hPr := Lib.hid (proves32r (hsh.out _ hb4o.out) hv'.out h7.out h21.out hO.out.reads h20 hd.symm)
        have hPf := Lib.hid (fun (W : World) (hb : Below wo.heap.size wo W) => refProves31r (w := W) (B := 0) hv'.out (show OwnJ W 0 (.slice ja jl jc) js from own_base (hoj.out _ (below_call hb4o.out hb)) (Nat.zero_le _)) (own_base (hoo.out _ (below_call hb4o.out hb)) (Nat.zero_le _)) (own_base (own_below hO.out hb) (Nat.zero_le _)) h20 hd.symm)
        clear hd
        rcases hq with hq1 | ⟨hq1, hq2⟩ | ⟨hq1, hq2, hq3⟩
        all_goals
          cases d0
          all_goals
            (try obtain rfl := hfin rfl)
            go_wp2_with (
              first
              | (go_at_call 32; refine (hPr.out).mono ?_; rintro e w10 ⟨rfl, hb10⟩
                 have hb10' := Lib.hid hb10
                 obtain ⟨⟨y0, y1, y2⟩, -⟩ := hT7.out.keep (below_call hb1o.out hb10) hz7.out
                 have hPf' := Lib.hid (hPf.out _ hb10)
                 clear hb10)
              | (go_at_call 31; refine (hPf'.out).mono ?_; rintro e w11 ⟨rfl, hb11⟩
                 have hb11' := Lib.hid (below_call hb10'.out hb11)
                 clear hb11))
            go_ret
            exact ⟨rfl, below_call hbW.out (below_call hb4o.out hb11'.out)⟩
end Go.Proofs.Ytjkbhdlbomcbeaa
