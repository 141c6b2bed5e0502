import Derived.Test.YtpcjigdmfchbdaaDoorW
namespace Go.Proofs.YtpcjigdmfchbdaaDoor
open Go.RowKit Go.Shelf Cl Go.Sort

theorem len8_0 : Lib.len8 0 = 0 := by kernel_rfl
theorem len89_none (w : World) : Calls Tryd.prog 89 #[.int .u64 0] w fun e w' => e = .returned (.int .i64 0) ∧ w = w' := by
  go_enter Tryd.func89, Tryd.ntmps89
  go_wp2
  go_ret
  exact ⟨by simp [len8_0, wrap64], rfl⟩
theorem ins93_none (fv : Value) (a : Option Addr) (c : Nat) (w : World) :
    Calls Tryd.prog 93 #[.slice a 0 c, .int .i64 0, .int .i64 0, fv] w fun e w' => e = .returned (.tuple #[]) ∧ w = w' := by
  go_enter Tryd.func93, Tryd.ntmps93
  go_wp2
  refine wp_loop_rounds 1 ?_
  rw [rounds_succ]
  go_wp2
  go_end0
  exact ⟨rfl, rfl⟩
theorem pdq88_none (fv : Value) (a : Option Addr) (c : Nat) (w : World) :
    Calls Tryd.prog 88 #[.slice a 0 c, .int .i64 0, .int .i64 0, .int .i64 0, fv] w fun e w' => e = .returned (.tuple #[]) ∧ w = w' := by
  go_enter Tryd.func88, Tryd.ntmps88
  go_wp2_with fail
  refine wp_loop_rounds 1 ?_
  rw [rounds_succ]
  go_wp2_with (first | (go_at_call 93; refine (ins93_none _ _ _ _).mono ?_; rintro e w1 ⟨rfl, rfl⟩))
  exact bodyPost_ret (results_none rfl _ _ _) rfl ⟨rfl, rfl⟩
theorem sort76_none (fv : Value) (a : Option Addr) (c : Nat) (w : World) :
    Calls Tryd.prog 76 #[.slice a 0 c, fv] w fun e w' => e = .returned (.tuple #[]) ∧ w = w' := by
  go_enter Tryd.func76, Tryd.ntmps76
  go_wp2_with (first
    | (go_at_call 89; refine (len89_none _).mono ?_; rintro e w1 ⟨rfl, rfl⟩)
    | (go_at_call 88; refine (pdq88_none _ _ _ _).mono ?_; rintro e w1 ⟨rfl, rfl⟩))
  go_end0
  exact ⟨rfl, rfl⟩
theorem own_grow {w : World} {B : Nat} {e : TypeId} {sz n : Nat} {v : Value} {xs : List Value} (h : w.ownsRow B e sz v n xs) (os : Array Obj) : (Sort.grow w os).ownsRow B e sz v n xs := by
  refine ⟨h.1, ?_⟩
  rcases h.2 with hn | ⟨g, cap, cur, rfl, hB, hg, rest⟩
  · exact .inl hn
  · refine .inr ⟨g, cap, cur, rfl, hB, ?_, rest⟩
    rw [heap_grow_old _ _ (Array.getElem?_eq_some_iff.1 hg).1]; exact hg
/-- The block of the sorted row alone turns. -/
theorem sortWorld_block {α : Type} [Inhabited α] {enc : α → Value} {w : World} {blk m : Nat} {dk : Array α} {os : Array Obj} {k : Nat} (hk : k ≠ blk) (hl : k < w.heap.size) : (sortWorld enc w blk 0 m dk os).heap[k]? = w.heap[k]? := by
  unfold sortWorld
  rw [heap_grow_old _ _ (by simpa [putRow, mapBlock, Sort.ahead] using hl)]
  have h' : ¬ blk = k := fun h => hk h.symm
  simp [putRow, mapBlock, Sort.ahead, Array.getElem?_modify, h']
theorem ints_move {w w' : World} {B g : Nat} {v : Value} {xs : List Int} {vs : List Value} {n c : Nat} (h : Ints w B v xs) (hr : w.ownsRow B 24 1 (.slice (some ⟨g, 0, none⟩) n c) n vs) (hb : ∀ k, k ≠ g → k < w.heap.size → w'.heap[k]? = w.heap[k]?) : Ints w' B v xs := by
  refine own_block h fun k hk => hb k (fun e => ?_) (World.ownsRow.lt h k hk).2
  subst e
  rcases h.2 with ⟨rfl, _⟩ | ⟨g1, cap1, cur1, rfl, _, hg1, _⟩
  · simp [Value.ownBlock] at hk
  · simp only [Value.ownBlock, Option.some.injEq] at hk
    subst hk
    rcases hr.2 with ⟨e, _⟩ | ⟨g2, cap2, cur2, e, _, hg2, _⟩
    · cases e
    · injection e with e1 _ _
      injection e1 with e1
      injection e1 with e1
      subst e1
      rw [hg1] at hg2
      simp at hg2
theorem sort76 {w : World} {B : Nat} {v : Value} {xss : List (List Int)} (h : OwnG w B v xss) (hl : xss.length < 1000000) (hrow : ∀ j, (xss.getD j []).length ≤ 1000000) :
    Calls Tryd.prog 76 #[v, .func (.func 77) #[] #[]] w fun e w' => e = .returned (.tuple #[]) ∧ OwnG w' B v (srt xss) ∧ Below B w w' := by
  have hh := h
  obtain ⟨vs, h1, h2, h3⟩ := h
  by_cases hv : v = .slice none 0 0
  · subst hv
    have h0 : vs.length = 0 := by
      rcases h1.2 with ⟨_, e⟩ | ⟨_, _, _, e, _⟩
      · exact e
      · cases e
    have hx : xss = [] := List.length_eq_zero_iff.1 (by omega)
    subst hx
    refine (sort76_none _ none 0 w).mono ?_
    rintro e w' ⟨rfl, rfl⟩
    exact ⟨rfl, hh, Below.refl _ _⟩
  · obtain ⟨N, hN⟩ : ∃ N, N = vs.length := ⟨_, rfl⟩
    rw [← hN] at h1 h2 h3
    obtain ⟨enc, henc⟩ : ∃ enc : Nat → Value, enc = fun i => vs.getD i (.slice none 0 0) := ⟨_, rfl⟩
    have hen : ∀ i, enc i = vs.getD i (.slice none 0 0) := fun i => by rw [henc]
    have hmap : vs = (List.range N).map enc := by
      apply List.ext_getElem (by simp [hN])
      intro i hi1 hi2
      simp [hen, List.getD_eq_getElem?_getD, hi1]
    rw [hmap] at h1
    have hR : ∀ i, ∃ u, enc i = u ∧ Ints w B u (xss.getD i []) := fun i => by
      refine ⟨_, rfl, ?_⟩
      by_cases hi : i < N
      · have := h3 i hi
        rw [hen]
        have e : vs.getD i (.slice none 0 0) = vs.getD i undef := by
          rw [List.getD_eq_getElem?_getD, List.getD_eq_getElem?_getD, List.getElem?_eq_getElem (by rw [← hN]; exact hi)]; rfl
        rw [e]; exact this
      · have e1 : xss.getD i [] = [] := by rw [List.getD_eq_getElem?_getD, List.getElem?_eq_none (by omega)]; rfl
        have e2 : enc i = .slice none 0 0 := by rw [hen, List.getD_eq_getElem?_getD, List.getElem?_eq_none (by omega)]; rfl
        rw [e1, e2]; exact Ints.nil _ _
    obtain ⟨g, cap, rfl, hB, hgl, hnc, hcm, _, hH⟩ := Lib.holds_of_ownsRow (enc := enc) h1 hv
    have hmv : ∀ (w' : World), (∀ k, k ≠ g → k < w.heap.size → w'.heap[k]? = w.heap[k]?) → ∀ i, Ints w' B (enc i) (xss.getD i []) := fun w' hb i => by
      obtain ⟨u, rfl, hu⟩ := hR i
      exact ints_move hu h1 hb
    have hone : OneCell enc := fun i => by
      obtain ⟨u, hu, hi⟩ := hR i
      obtain ⟨ao, c, e, _⟩ := hi.shape
      rw [hu, e]; rfl
    have hcmp : CmpLays1 Tryd.prog 77 #[] enc (fun i j => cmpL (xss.getD i []) (xss.getD j [])) g 0 N w := fun m os dk _ x y => by
      have hm := hmv (sortWorld enc w g 0 m dk os) (fun k hk hkl => sortWorld_block hk hkl)
      refine (compare77 (hm x).shape (hm y).shape (hrow x)).mono ?_
      rintro e w' ⟨rfl, rfl⟩
      exact ⟨rfl, 0, #[], by rw [grow_empty]; rfl⟩
    have hswo : SWO (ltOf fun i j : Nat => cmpL (xss.getD i []) (xss.getD j [])) := by
      refine ⟨fun x => ?_, fun x y z h1 h2 => ?_, fun x y z h1 h2 => ?_⟩
      · show decide (cmpL _ _ < 0) = false
        rw [cmpL_self]; rfl
      · unfold ltOf at *
        simp only [decide_eq_true_eq] at *
        exact (cmpL_trans (by omega) (by omega)).2 (.inl h1)
      · unfold ltOf at *
        simp only [decide_eq_false_iff_not] at *
        have e1 := cmpL_neg (xss.getD x []) (xss.getD y [])
        have e2 := cmpL_neg (xss.getD y []) (xss.getD z [])
        have e3 := cmpL_neg (xss.getD x []) (xss.getD z [])
        have := (cmpL_trans (a := xss.getD z []) (b := xss.getD y []) (c := xss.getD x []) (by omega) (by omega)).1
        omega
    have eg : ∀ args w, (callFunc 77 args).run Tryd.prog w = .ok (.enter 77 args) w := enters_of Tryd.func77 (by kernel_rfl) rfl
    have hsz : (List.range N).toArray.size = N := by simp
    have hcon := Any.slices_SortFunc Tryd.sortRows enc hone (fun i j => cmpL (xss.getD i []) (xss.getD j [])) hswo 77 #[] g 0 cap (List.range N).toArray w eg (by rw [hsz]; exact hcmp) hH hgl (by rw [hsz]; omega)
    rw [hsz] at hcon
    refine hcon.mono ?_
    rintro e w' ⟨rfl, d', m, os, ⟨hs1, _, hp⟩, hso, rfl⟩
    have hd : d'.size = N := by rw [hs1]; simp
    have hperm : d'.toList.Perm (List.range N) := by
      have e1 : (d'.extract 0 N).toList = d'.toList := by rw [← hd]; simp
      have e2 : ((List.range N).toArray.extract 0 N).toList = List.range N := by simp
      rw [e1, e2] at hp
      exact hp
    have hsort : d'.toList.map (fun i => xss.getD i []) = srt xss := by
      apply srt_unique
      · have := hperm.map (fun i => xss.getD i [])
        refine this.trans ?_
        have e : (List.range N).map (fun i => xss.getD i []) = xss := by
          apply List.ext_getElem (by simp [h2])
          intro i hi1 hi2
          simp [List.getD_eq_getElem?_getD, hi2]
        rw [e]
      · rw [List.pairwise_map]
        rw [List.pairwise_iff_getElem]
        intro i j hi hj hij
        have hj' : j < d'.size := by simpa using hj
        have := hso i j (Nat.zero_le _) hij (by omega)
        rw [getElem!_pos d' j hj', getElem!_pos d' i (show i < d'.size by omega)] at this
        unfold ltOf at this
        simp only [decide_eq_false_iff_not] at this
        have e := cmpL_neg (xss.getD d'[i] []) (xss.getD d'[j] [])
        unfold LeL
        simp only [Array.getElem_toList]
        omega
    have hb : Below B w (sortWorld enc w g 0 m d' os) := by
      have hb := Lib.below_putRow (enc := enc) (q := m) (d := d') (Below.refl B w) hB
      refine ⟨hb.os, hb.tape, hb.output, Nat.le_trans hb.size (by simp [sortWorld, Sort.grow]), fun k hk => ?_⟩
      rw [← hb.block k hk]
      unfold sortWorld
      exact heap_grow_old _ _ (Nat.lt_of_lt_of_le hk (by rcases Nat.lt_or_ge k w.heap.size with h | h <;> have := hb.size <;> omega))
    refine ⟨rfl, ⟨d'.toList.map enc, ?_, ?_, fun j hj => ?_⟩, hb⟩
    · have h4 := own_grow (Lib.ownsRow_putRow (q := m) (ys := d'.toList) h1 (by simpa using hd) (Nat.le_refl N)) os
      rw [List.take_of_length_le (by simp [hd])] at h4
      unfold sortWorld
      simpa [hd] using h4
    · rw [← hsort]; simp
    · have hj' : j < d'.size := by simpa using hj
      have hm := hmv (sortWorld enc w g 0 m d' os) (fun k hk hkl => sortWorld_block hk hkl) d'[j]
      rw [← hsort]
      have e1 : (d'.toList.map enc).getD j undef = enc d'[j] := by simp [List.getD_eq_getElem?_getD, hj']
      have e2 : (d'.toList.map fun i => xss.getD i []).getD j [] = xss.getD d'[j] [] := by
        rw [List.getD_eq_getElem?_getD, List.getElem?_map, Array.getElem?_toList, Array.getElem?_eq_getElem hj']; rfl
      rw [e1, e2]; exact hm
end Go.Proofs.YtpcjigdmfchbdaaDoor
