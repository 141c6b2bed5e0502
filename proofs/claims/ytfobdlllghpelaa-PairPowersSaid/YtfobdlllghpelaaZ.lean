import Derived.Test.YtfobdlllghpelaaV
namespace Go.Proofs.Ytfobdlllghpelaa
open Go.RowKit Go.Shelf Pair
attribute [local go_sem] Oper.semAt_some

theorem OwnG.one {w : World} {B : Nat} {u : Value} {xs : List Int} (h : Ints w B u xs) (hB : B ≤ w.heap.size) : OwnG (w.alloc (.cells #[u] 24)) B (.slice (some ⟨w.heap.size, 0, none⟩) 1 1) [xs] := by
  refine ⟨[u], ⟨by simp, .inr ⟨w.heap.size, 1, #[u], rfl, hB, heap_alloc_new w _, Nat.le_refl _, by unfold maxLen; omega, by simp, by simp⟩⟩, rfl, fun j hj => ?_⟩
  simp at hj
  subst hj
  exact h.alloc _
theorem OwnG.nil_or {w : World} {B : Nat} {u : Value} {xss : List (List Int)} (h : OwnG w B u xss) : (u = .slice none 0 0 ∧ xss = []) ∨ ∃ g cap, u = .slice (some ⟨g, 0, none⟩) xss.length cap := by
  obtain ⟨vs, h1, h2, h3⟩ := h
  rcases h1.2 with ⟨rfl, h0⟩ | ⟨g, cap, cur, rfl, _⟩
  · exact .inl ⟨rfl, List.length_eq_zero_iff.1 (by omega)⟩
  · exact .inr ⟨g, cap, by rw [h2]⟩

/-- append(s, rows...) of rows of ints, at the model's operation. -/
theorem app_rows {ops : Array Oper} {rest : List Oper} {o : Oper} {a : Act} {Q : Exit → Act → World → Prop} {w : World} {B : Nat} {v u : Value} {xss yss : List (List Int)}
    (hown : OwnG w B v xss) (hu : OwnG w B u yss) (hlen : xss.length + yss.length ≤ 1000000) (hB : B ≤ w.heap.size) (hgd : o.guard = none) (s x : Operand)
    (ho : o.op = .call { callee := .builtin .append, args := #[s, x], argTypes := #[22, 22] }) (hs : a.eval s = v) (hx : a.eval x = u)
    (h : ∀ v' w', OwnG w' B v' (xss ++ yss) → Below B w w' → wpList Try.prog ops Q rest (a.put o.dst v') w') : wpList Try.prog ops Q (o :: rest) a w := by
  obtain ⟨i0, hi, hz0, hz1, hz2⟩ := info_parts info24
  obtain ⟨vs, hv, hvl, hin⟩ := hown
  have hu' := hu
  rcases hu'.nil_or with ⟨rfl, rfl⟩ | ⟨g, cap, rfl⟩
  · refine wpList_append_own_none hgd s x 22 ho B 24 i0 1 Try.underlying22 hi v vs.length vs hs hv hx ?_
    exact h v w ⟨vs, hv, by simpa using hvl, fun j hj => by simpa using hin j hj⟩ (Below.refl _ _)
  · obtain ⟨us, hu1, hul, huin⟩ := hu
    have hone : ∀ z ∈ us, z.oneCell' = true := fun z hz => by
      obtain ⟨j, hj, e⟩ := List.mem_iff_getElem.1 hz
      have := huin j hj
      rw [List.getD_eq_getElem?_getD, List.getElem?_eq_getElem hj, e] at this
      obtain ⟨ao, c, hh, _⟩ := this.shape
      simp only [Option.getD_some] at hh
      rw [hh]; rfl
    rw [← hul] at hu1 hx
    refine wpList_append_own _ hgd s x 22 ho B 24 i0 (.slice none 0 0) 1 24 Try.underlying22 hi hz0 hz1 hz2 rfl (by decide) v vs.length vs hs hv ⟨g, 0, none⟩ us.length cap us hx (by simp) ?_ hone ?_ ?_ hB ?_
    · intro j z hj
      obtain ⟨hj1, _⟩ := List.getElem?_eq_some_iff.1 hj
      rw [show (⟨g, 0, none⟩ : Addr).add j = ⟨g, j, none⟩ from by simp [Addr.add]; exact fun e => e.symm, hu1.cellAt j (by omega), hj]
    · unfold maxLen; omega
    · omega
    · intro v' w' h2 h3 _
      have hkeep : ∀ u' zs, Ints w B u' zs → Ints w' B u' zs := by
        intro u' zs hz
        refine World.ownsRow.kept hz h3 ?_
        rcases hz.2 with ⟨rfl, _⟩ | ⟨g, cap, cur, rfl, _, hg, _⟩
        · exact .inl rfl
        · right
          intro e
          rcases hv.2 with ⟨rfl, _⟩ | ⟨g', cap', cur', rfl, _, hg', _⟩
          · simp [Value.ownBlock] at e
          · simp only [Value.ownBlock, Option.some.injEq] at e
            subst e
            rw [hg] at hg'
            simp at hg'
      refine h v' w' ⟨vs ++ us, by simpa using h2, by simp [hvl, hul], fun j hj => ?_⟩ ?_
      · simp at hj
        by_cases e : j < vs.length
        · have := hkeep _ _ (hin j e)
          rw [List.getD_eq_getElem?_getD, List.getElem?_append_left e, ← List.getD_eq_getElem?_getD, List.getD_eq_getElem?_getD (l := xss ++ yss), List.getElem?_append_left (by omega), ← List.getD_eq_getElem?_getD]
          exact this
        · have := hkeep _ _ (huin (j - vs.length) (by omega))
          rw [List.getD_eq_getElem?_getD, List.getElem?_append_right (by omega), ← List.getD_eq_getElem?_getD, List.getD_eq_getElem?_getD (l := xss ++ yss), List.getElem?_append_right (by omega), ← List.getD_eq_getElem?_getD, ← hvl]
          exact this
      · exact (Below.refl B w).grown h3 hB (fun k hk => (World.ownsRow.lt hv k hk).1)

set_option maxHeartbeats 2000000 in
set_option maxRecDepth 100000 in
theorem has69 {w : World} {u : Value} {xs : List Int} (x : Int) (hu : Reads w u xs) (hl : xs.length ≤ 1000000) :
    Calls Try.prog 69 #[u, .int .i64 x] w fun e w' => e = .returned (.bool (decide (x ∈ xs))) ∧ w = w' := by
  obtain ⟨ao, c, rfl, _, h1⟩ := hu
  obtain ⟨n, hn⟩ : ∃ n, n = xs.length := ⟨_, rfl⟩
  rw [← hn] at hl ⊢
  have hn' := Lib.hid hn
  have h1' := Lib.hid h1
  clear hn h1
  go_enter Try.func69, Try.ntmps69
  go_wp2
  go_loop [5] (fun i => ∃ k : Nat, k ≤ n ∧ i = .int .i64 k ∧ Hid (decide (x ∈ xs) = decide (x ∈ xs.drop k))) (fun i => n - (intOf i).toNat)
  case atStart => exact ⟨0, Nat.zero_le _, rfl, Lib.hid rfl⟩
  case round =>
    obtain ⟨k, hk, rfl, hj⟩ := hrel
    by_cases hlt : k < n
    · have e1 := hn'.out
      obtain ⟨g, o, rfl, hg, hc1⟩ := h1'.out (fun e => by rw [e] at e1; simp at e1; omega)
      have c1 := hc1 k (by omega)
      have hd := Lib.hid (drop_cons xs k (by omega))
      clear hc1 e1
      obtain ⟨y, hy⟩ : ∃ y, y = xs.getD k 0 := ⟨_, rfl⟩
      rw [← hy] at c1 hd
      clear hy
      by_cases hxy : y = x
      · have hf := Lib.hid (show decide (x ∈ xs) = true by rw [hj.out, hd.out, hxy]; simp)
        have ht : (y == x) = true := by simp [hxy]
        clear hxy
        go_wp2
        go_ret
        exact ⟨ret_b hf.out.symm, rfl⟩
      · have hf := Lib.hid (show decide (x ∈ xs) = decide (x ∈ xs.drop (k + 1)) by
          rw [hj.out, hd.out]
          have : x ≠ y := fun e => hxy e.symm
          simp [this])
        have ht : (y == x) = false := by simp [hxy]
        clear hxy
        go_wp2
        go_round
        case rel => exact ⟨k + 1, by omega, by go_num, hf⟩
        case measure => simp [intOf]; omega
    · have hf := Lib.hid (show decide (x ∈ xs) = false by rw [hj.out, drop_end xs k (by rw [← hn'.out]; omega)]; simp)
      go_wp2
      go_ret
      exact ⟨ret_b hf.out.symm, rfl⟩
theorem natI_has (f : List Nat) (j : Nat) : decide ((j : Int) ∈ natI f) = decide (j ∈ f) := by
  rw [decide_eq_decide]
  unfold natI
  rw [List.mem_map]
  constructor
  · rintro ⟨a, ha, e⟩
    have : a = j := Int.ofNat.inj e
    exact this ▸ ha
  · exact fun h => ⟨j, h, rfl⟩

/-- The pairings that begin with `f` and one of the first columns. -/
def allT (n k : Nat) (f : List Nat) (j : Nat) : List (List Nat) := (List.range j).flatMap fun j => if j ∈ f then [] else allP n k (f ++ [j])
theorem allT_succ (n k : Nat) (f : List Nat) (j : Nat) : allT n k f (j + 1) = allT n k f j ++ (if j ∈ f then [] else allP n k (f ++ [j])) := by
  unfold allT
  rw [List.range_succ, List.flatMap_append]
  simp
theorem allT_len {n k : Nat} {f : List Nat} {b : Nat} (h : ∀ g, (allP n k g).length ≤ b) : ∀ j, (allT n k f j).length ≤ j * b
  | 0 => by simp [allT]
  | j + 1 => by
    rw [allT_succ, List.length_append]
    have h1 := allT_len (f := f) h j
    have h2 : (if j ∈ f then [] else allP n k (f ++ [j])).length ≤ b := by
      split
      · simp
      · exact h _
    rw [Nat.add_mul]; omega
theorem allP_len (n : Nat) : ∀ k f, (allP n k f).length ≤ n ^ k
  | 0, f => by simp [allP]
  | k + 1, f => by
    have := allT_len (f := f) (allP_len n k) n
    rw [Nat.pow_succ, Nat.mul_comm]
    exact this
theorem pow66 : ∀ n : Nat, n ≤ 6 → ∀ k : Nat, k ≤ 6 → n ^ k ≤ 46656 := by decide +kernel
theorem allP_bd {n k : Nat} (hn : n ≤ 6) (hk : k ≤ n) (f : List Nat) : (allP n k f).length ≤ 46656 := Nat.le_trans (allP_len n k f) (pow66 n hn k (by omega))
theorem allT_bd {n k : Nat} (hn : n ≤ 6) (hk : k ≤ n) (f : List Nat) {j : Nat} (hj : j ≤ n) : (allT n k f j).length ≤ 279936 := by
  have h1 := allT_len (f := f) (fun g => allP_bd hn hk g) j
  have : j * 46656 ≤ 6 * 46656 := Nat.mul_le_mul_right _ (by omega)
  omega

def AllEnd (w : World) (ls : List (List Nat)) (e : Ending) (w' : World) : Prop := ∃ v', e = .returned v' ∧ OwnG w' w.heap.size v' (ls.map natI) ∧ Below w.heap.size w w'
set_option maxHeartbeats 4000000 in
set_option maxRecDepth 100000 in
theorem all54 {n : Nat} (hn6 : n ≤ 6) : ∀ (k : Nat) (f : List Nat) (w : World) (u : Value), Reads w u (natI f) → (u = .slice none 0 0 ∨ ∃ ad l c, u = .slice (some ad) l c) → f.length + k = n →
    Calls Try.prog 54 #[u, .int .i64 n] w (AllEnd w (allP n k f)) := by
  intro k
  induction k with
  | zero =>
    intro f w u hu hs hk
    obtain ⟨ao, c, rfl, hcl⟩ := hu.len
    have hu' := Lib.hid hu
    rw [natI_len] at hcl hu' hs ⊢
    obtain rfl : f.length = n := by omega
    have hlit := Lib.hid (Ints.lit w w.heap.size (Nat.le_refl _))
    have hb1 := Lib.hid (below_alloc1 w (.cells #[] 3))
    have hrd := Lib.hid (hu'.out.below hb1.out)
    have hlen := Lib.hid (show ([] : List Int).length + (natI f).length ≤ 1000000000 by rw [natI_len]; simp; omega)
    have hs' := Lib.hid hs
    have hnf := Lib.hid (show (natI f).length = f.length from natI_len f)
    obtain ⟨m, hm⟩ : ∃ m, m = f.length := ⟨_, rfl⟩
    rw [← hm] at hrd hs' ⊢
    clear hu hu' hs hcl hm hk
    go_enter Try.func54, Try.ntmps54
    go_wp2_with (first | (at_builtin; refine app_ints hlit.out hrd.out hs'.out hlen.out (by simp) rfl _ _ rfl rfl rfl ?_; intro v' w2 hown2 hb2; obtain ⟨ao2, c2, rfl, _⟩ := hown2.shape))
    go_ret
    have hsz : w.heap.size ≤ w2.heap.size := (hb1.out.trans hb2).size
    have h2 : Ints w2 w.heap.size (.slice ao2 (natI f).length c2) (natI f) := hown2
    exact ⟨_, rfl, OwnG.one h2 hsz, (hb1.out.trans hb2).alloc hsz _⟩
  | succ k ih =>
    intro f w u hu hs hk
    obtain ⟨ao, c, rfl, hcl⟩ := hu.len
    have hu' := Lib.hid hu
    have hh := Lib.hid (fun (w' : World) (j : Nat) (hb : Below w.heap.size w w') => has69 (j : Int) (hu'.out.below hb) (by rw [natI_len]; omega))
    rw [natI_len] at hcl hu' hs hh ⊢
    have hs' := Lib.hid hs
    have hfl : f.length < n := by omega
    have hnf := Lib.hid (show (natI f).length = f.length from natI_len f)
    have hP := Lib.hid (show allP n (k + 1) f = allT n k f n from rfl)
    have hkn : k ≤ n := by omega
    have hk' := Lib.hid hk
    obtain ⟨m, hm⟩ : ∃ m, m = f.length := ⟨_, rfl⟩
    rw [← hm] at hu' hs' hfl hnf hk' hcl hh ⊢
    have hm' := Lib.hid hm
    clear hu hs hm hk
    have hne : ((m : Int) == (n : Int)) = false := by simp; omega
    have hg0 := Lib.hid (OwnG.lit w w.heap.size (Nat.le_refl _))
    have hb0 := Lib.hid (below_alloc1 w (.cells #[] 24))
    go_enter Try.func54, Try.ntmps54
    go_wp2_with fail
    go_loopw [5, 6] (fun p iv wr => ∃ j : Nat, j ≤ n ∧ iv = .int .i64 j ∧ Hid (OwnG wr w.heap.size p ((allT n k f j).map natI)) ∧ Hid (Below w.heap.size w wr)) (fun _ iv _ => n - (intOf iv).toNat)
    case atStart => exact ⟨0, Nat.zero_le _, rfl, Lib.hid (by simpa [allT] using hg0.out), hb0⟩
    case round =>
      obtain ⟨j, hj, rfl, hown, hb⟩ := hrel
      by_cases hjn : j < n
      · have hhj := Lib.hid (hh.out wr j hb.out)
        have hsc := Lib.hid (allT_succ n k f j)
        rw [natI_has] at hhj
        by_cases hjf : j ∈ f
        · have hsc' := Lib.hid (show allT n k f (j + 1) = allT n k f j by rw [hsc.out, if_pos hjf]; simp)
          rw [decide_eq_true hjf] at hhj
          clear hjf
          go_wp2_with fail
          refine (hhj.out).mono ?_
          rintro e w2 ⟨rfl, rfl⟩
          go_wp2_with fail
          go_roundw
          case rel => exact ⟨j + 1, by omega, by go_num, Lib.hid (by rw [hsc'.out]; exact hown.out), hb⟩
          case measure => simp [intOf]; omega
        · have hsc' := Lib.hid (show (allT n k f (j + 1)).map natI = (allT n k f j).map natI ++ (allP n k (f ++ [j])).map natI by rw [hsc.out, if_neg hjf, List.map_append])
          rw [decide_eq_false hjf] at hhj
          clear hjf
          have hlit := Lib.hid (Ints.lit wr wr.heap.size (Nat.le_refl _))
          have hb1 := Lib.hid (below_alloc1 wr (.cells #[] 3))
          have hrd := Lib.hid ((hu'.out.below hb.out).below hb1.out)
          have hlen := Lib.hid (show ([] : List Int).length + (natI f).length ≤ 1000000000 by rw [hnf.out]; simp; omega)
          have hlen2 := Lib.hid (show ([] ++ natI f).length ≤ 1000000000 by rw [List.nil_append, hnf.out]; omega)
          have hlen3 := Lib.hid (show ((allT n k f j).map natI).length + ((allP n k (f ++ [j])).map natI).length ≤ 1000000 by
            rw [List.length_map, List.length_map]
            have h1 := allT_bd (n := n) (k := k) hn6 hkn f hj
            have h2 := allP_bd (n := n) (k := k) hn6 hkn (f ++ [j])
            omega)
          go_wp2_with fail
          refine (hhj.out).mono ?_
          rintro e w2 ⟨rfl, rfl⟩
          go_wp2_with (first
            | (at_builtin; refine app_ints hlit.out hrd.out hs'.out hlen.out (by simp) rfl _ _ rfl rfl rfl ?_; intro v2 w2 hown2 hb2; obtain ⟨ao2, c2, rfl, _⟩ := hown2.shape; have hsz2 := (hb1.out.trans hb2).size)
            | (at_builtin; refine app_int hown2 hlen2.out hsz2 rfl _ _ rfl rfl rfl ?_; intro v3 w3 hown3 hb3; obtain ⟨ao3, c3, rfl, _⟩ := hown3.shape))
          have e1 : ([] ++ natI f) ++ [(j : Int)] = natI (f ++ [j]) := by simp [natI]
          have e2 : (natI (f ++ [j])).length = (natI f).length + 1 := by simp [natI]
          have hr3 := hown3.shape
          rw [e1, e2] at hr3
          obtain ⟨_, _, e3, _, hsome⟩ := hown3.shape
          obtain ⟨g3, o3, e4, _⟩ := hsome (by simp)
          obtain ⟨rfl, _⟩ : ao3 = some ⟨g3, o3, none⟩ ∧ True := ⟨by rw [← e4]; injection e3, trivial⟩
          have hb3' := (hb1.out.trans hb2).trans hb3
          refine (ih (f ++ [j]) w3 _ hr3 (.inr ⟨_, _, _, rfl⟩) (by rw [List.length_append, ← hm'.out]; simp; have := hk'.out; omega)).mono ?_
          rintro e w4 ⟨v4, rfl, hv4, hb4⟩
          have hs34 := hb3'.size
          have hT := hb3'.trans (hb4.mono hs34)
          have hown4 := Lib.hid (hown.out.below hT)
          have hsb := hb.out.size
          have hv4' := Lib.hid (hv4.base (B' := w.heap.size) (by omega))
          have hbT := Lib.hid (below_call hb.out hT)
          have hs4 := hbT.out.size
          have hshape := hv4.nil_or
          obtain ⟨ao4, n4, c4, rfl⟩ : ∃ ao n c, v4 = .slice ao n c := by
            rcases hshape with ⟨rfl, _⟩ | ⟨g, c, rfl⟩
            · exact ⟨_, _, _, rfl⟩
            · exact ⟨_, _, _, rfl⟩
          clear hshape hv4 hb4 hT hb3' hr3 e1 e2 e3 e4 hsome hown3 hb3 hown2 hb2 hown
          go_wp2_with (first
            | (at_builtin; refine app_rows hown4.out hv4'.out hlen3.out hs4 rfl _ _ rfl rfl rfl ?_; intro v5 w5 hown5 hb5))
          go_roundw
          case rel => exact ⟨j + 1, by omega, by go_num, Lib.hid (by rw [hsc'.out]; exact hown5), Lib.hid (hbT.out.trans hb5)⟩
          case measure => simp [intOf]; omega
      · obtain rfl : j = n := by omega
        go_wp2_with fail
        go_ret
        exact ⟨_, rfl, by rw [hP.out]; exact hown.out, hb.out⟩
end Go.Proofs.Ytfobdlllghpelaa
