import Derived.Test.YtbemlfppekpmjaaZc
namespace Go.Proofs.Ytbemlfppekpmjaa
open Go.RowKit Rng
def okN (xs : List Int) (i : Nat) : Prop := 1 ≤ xs.getD i 0 ∧ xs.getD i 0 ≤ 1000 ∧ xs.getD i 0 ∉ xs.take i
def validL (xs : List Int) : Prop := 1 ≤ xs.length ∧ xs.length ≤ 10 ∧ ∀ i, i < xs.length → okN xs i
def ValAns (xs : List Int) (d : Bool) : Prop := d = true ↔ validL xs
def ValEnd (w : World) (xs : List Int) (e : Ending) (w' : World) : Prop := ∃ d : Bool, e = .returned (.bool d) ∧ w = w' ∧ ValAns xs d
set_option maxHeartbeats 2000000 in
set_option maxRecDepth 100000 in
theorem areValid49 {w : World} {v : Value} {xs : List Int} (h : Reads w v xs) (hl : xs.length ≤ 100000) : Calls Try.prog 49 #[v] w (ValEnd w xs) := by
  have h' := Lib.hid h
  obtain ⟨ao, c, rfl, hc, -⟩ := h
  obtain ⟨n, hn⟩ : ∃ n, n = xs.length := ⟨_, rfl⟩
  rw [← hn] at hc hl h' ⊢
  have hn' := Lib.hid hn
  have hcon := Lib.hid (fun (ao : Option Addr) (k c : Nat) (h : Reads w (.slice ao k c) (xs.take k)) (hk : k ≤ 100000) (x : Int) => contains75 h (by rw [List.length_take]; omega) x)
  clear hn
  by_cases h1 : n < 1
  · go_enter Try.func49, Try.ntmps49
    go_wp2
    go_ret
    refine ⟨false, rfl, rfl, ?_⟩
    unfold ValAns validL
    have := hn'.out
    constructor
    · intro e; cases e
    · rintro ⟨a, _⟩; omega
  by_cases h2 : 10 < n
  · go_enter Try.func49, Try.ntmps49
    go_wp2
    go_ret
    refine ⟨false, rfl, rfl, ?_⟩
    unfold ValAns validL
    have := hn'.out
    constructor
    · intro e; cases e
    · rintro ⟨_, a, _⟩; omega
  have hn1 : 1 ≤ n := by omega
  have hn10 : n ≤ 10 := by omega
  have hbad : Hid (∀ k, k < n → ¬ okN xs k → ValAns xs false) := Lib.hid fun k hk hb => by
    unfold ValAns validL
    have := hn'.out
    constructor
    · intro e; cases e
    · rintro ⟨_, _, a⟩; exact absurd (a k (by omega)) hb
  clear h1 h2
  go_enter Try.func49, Try.ntmps49
  go_wp2_with fail
  go_loopw [15] (fun iv wr => ∃ k : Nat, k ≤ n ∧ iv = .int .i64 k ∧ Hid (∀ j, j < k → okN xs j) ∧ Hid (Same w wr)) (fun iv _ => n - (intOf iv).toNat)
  case atStart => exact ⟨0, Nat.zero_le _, rfl, Lib.hid (fun j hj => by omega), Lib.hid (show Same _ _ from rfl)⟩
  case round =>
    obtain ⟨k, hk, rfl, hok, hw⟩ := hrel
    obtain rfl := hw.out
    by_cases hlt : k < n
    · obtain ⟨g, o, rfl, -, hcl⟩ := h'.out.at hn'.out.symm hlt
      have k1 := hcl k hlt
      have hcx := Lib.hid (hcon.out _ k c (h'.out.take hn'.out.symm (by omega)) (by omega) (xs.getD k 0))
      obtain ⟨y, hy⟩ : ∃ y, y = xs.getD k 0 := ⟨_, rfl⟩
      rw [← hy] at k1 hcx
      have hki : (k : Int) < (n : Int) := by omega
      have hy' := Lib.hid hy
      have hkc : k ≤ c := by omega
      clear hcl hy hcon
      by_cases e1 : y < 1
      · go_wp2_with fail
        go_ret
        exact ⟨false, rfl, rfl, hbad.out k hlt (fun h => by unfold okN at h; rw [← hy'.out] at h; omega)⟩
      · by_cases e2 : 1000 < y
        · go_wp2_with fail
          go_ret
          exact ⟨false, rfl, rfl, hbad.out k hlt (fun h => by unfold okN at h; rw [← hy'.out] at h; omega)⟩
        · by_cases e3 : y ∈ xs.take k
          · have hcx2 := Lib.hid (show Calls Try.prog 75 #[.slice (some ⟨g, o, none⟩) k c, .int .i64 y] w fun e w' => e = .returned (.bool true) ∧ w = w' by have := hcx.out; rw [decide_eq_true e3] at this; exact this)
            have e3' := Lib.hid e3
            clear hcx e3
            go_wp2_with (go_at_call 75; refine hcx2.out.mono ?_; rintro e wj ⟨rfl, rfl⟩)
            go_ret
            exact ⟨false, rfl, rfl, hbad.out k hlt (fun h => by unfold okN at h; rw [← hy'.out] at h; exact h.2.2 e3'.out)⟩
          · have hcx2 := Lib.hid (show Calls Try.prog 75 #[.slice (some ⟨g, o, none⟩) k c, .int .i64 y] w fun e w' => e = .returned (.bool false) ∧ w = w' by have := hcx.out; rw [decide_eq_false e3] at this; exact this)
            have e3' := Lib.hid (show okN xs k by unfold okN; rw [← hy'.out]; exact ⟨by omega, by omega, e3⟩)
            clear hcx e3
            go_wp2_with (go_at_call 75; refine hcx2.out.mono ?_; rintro e wj ⟨rfl, rfl⟩)
            go_roundw
            case rel =>
              refine ⟨k + 1, by omega, by go_num, Lib.hid (fun j hj => ?_), Lib.hid (show Same _ _ from rfl)⟩
              by_cases e : j = k
              · subst e; exact e3'.out
              · exact hok.out j (by omega)
            case measure => simp [intOf]; omega
    · obtain rfl : k = n := by omega
      go_wp2_with fail
      go_ret
      refine ⟨true, rfl, rfl, ?_⟩
      unfold ValAns validL
      have := hn'.out
      exact ⟨fun _ => ⟨by omega, by omega, fun i hi => hok.out i (by omega)⟩, fun _ => rfl⟩
set_option maxHeartbeats 2000000 in
set_option maxRecDepth 100000 in
theorem newRing50 {w : World} {B n : Nat} {pet : Bool} {rv : Value} {bs : Nat → Nat} {fvs : Nat → Value} {Ms : Nat → Mb} (h : MsAt w B pet rv n bs fvs Ms) (hB : B ≤ w.heap.size) :
    Calls Try.prog 50 #[rv] w (fun e w' => e = .returned (.pointer (some ⟨w.heap.size, 0, none⟩)) ∧ RgAt w' B w.heap.size pet n rv bs fvs Ms ∧ Below w.heap.size w w') := by
  have h' := Lib.hid h
  obtain ⟨ao, c, rfl, -, -⟩ := h.val
  clear h
  go_enter Try.func50, Try.ntmps50
  go_wp2
  go_ret
  have hbl := below_alloc1 w (.cells #[.pointer (some ⟨w.heap.size, 0, none⟩), .slice ao n c] 77)
  have hg := heap_alloc_new w (.cells #[.pointer (some ⟨w.heap.size, 0, none⟩), .slice ao n c] 77)
  refine ⟨rfl, ⟨hB, by simp, cell_of_row _ _ 0 _ _ _ hg, cell_of_row _ _ 1 _ _ _ hg, h'.out.below hbl, fun e => ?_, fun j hj hx => ?_⟩, hbl⟩
  · have := (World.ownsRow.lt h'.out.row _ e).2; omega
  · have := ((h'.out.mem j hj).wr.pos _ hx).2; omega
theorem up_self {α : Type} (f : Nat → α) (i : Nat) : up f i (f i) = f := by
  funext j; unfold up; split
  · rename_i e; rw [e]
  · rfl
/-- A new worker. -/
theorem mb_new91 {w : World} {B : Nat} (x : Nat) (hB : B ≤ w.heap.size) : MbAt (w.alloc (.cells #[.bool false, .int .i64 0, .int .i64 0, .slice none 0 0, .int .i64 x, .int .i64 0, .bool false] 91)) B true w.heap.size (.slice none 0 0) (Mb.new x) := by
  have hg := heap_alloc_new w (.cells #[.bool false, .int .i64 0, .int .i64 0, .slice none 0 0, .int .i64 x, .int .i64 0, .bool false] 91)
  exact ⟨⟨hB, by simp, cell_of_row _ _ 0 _ _ _ hg, cell_of_row _ _ 1 _ _ _ hg, cell_of_row _ _ 2 _ _ _ hg, cell_of_row _ _ 3 _ _ _ hg, fun j => frozen_of_row _ _ j _ _ hg, World.ownsRow_nil _ _ _ _, (fun e => by cases e)⟩, cell_of_row _ _ 4 _ _ _ hg, (fun _ => cell_of_row _ _ 5 _ _ _ hg), (fun _ => cell_of_row _ _ 6 _ _ _ hg)⟩
theorem mb_new94 {w : World} {B : Nat} (x : Nat) (hB : B ≤ w.heap.size) : MbAt (w.alloc (.cells #[.bool false, .int .i64 0, .int .i64 0, .slice none 0 0, .int .i64 x] 94)) B false w.heap.size (.slice none 0 0) (Mb.new x) := by
  have hg := heap_alloc_new w (.cells #[.bool false, .int .i64 0, .int .i64 0, .slice none 0 0, .int .i64 x] 94)
  exact ⟨⟨hB, by simp, cell_of_row _ _ 0 _ _ _ hg, cell_of_row _ _ 1 _ _ _ hg, cell_of_row _ _ 2 _ _ _ hg, cell_of_row _ _ 3 _ _ _ hg, fun j => frozen_of_row _ _ j _ _ hg, World.ownsRow_nil _ _ _ _, (fun e => by cases e)⟩, cell_of_row _ _ 4 _ _ _ hg, (fun e => by cases e), (fun e => by cases e)⟩
def newMs (xs : List Int) (j : Nat) : Mb := Mb.new (xs.getD j 0).toNat
def nilF (_ : Nat) : Value := .slice none 0 0
/-- What New answers. -/
def NewR (w : World) (pet : Bool) (xs : List Int) (e : Ending) (w' : World) : Prop :=
  (¬ validL xs ∧ e = .returned (.tuple #[.pointer none, .int .i64 1]) ∧ w = w') ∨ (validL xs ∧ ∃ b rv bs, e = .returned (.tuple #[.pointer (some ⟨b, 0, none⟩), .int .i64 0]) ∧ RgAt w' w.heap.size b pet xs.length rv bs nilF (newMs xs) ∧ Below w.heap.size w w')
set_option maxHeartbeats 2000000 in
set_option maxRecDepth 100000 in
theorem new14t {w : World} {v : Value} {xs : List Int} (h : Reads w v xs) (hl : xs.length ≤ 100000) : Calls Try.prog 14 #[v, .bool true] w (NewR w true xs) := by
  have hv := Lib.hid (areValid49 h hl)
  have h' := Lib.hid h
  obtain ⟨i0, hi, hz0, hz1, hz2⟩ := info_parts info113
  obtain ⟨ao, c, rfl, hc, -⟩ := h
  obtain ⟨n, hn⟩ : ∃ n, n = xs.length := ⟨_, rfl⟩
  rw [← hn] at hc hl h' hv ⊢
  have hn' := Lib.hid hn
  by_cases hval : validL xs
  · have hv2 := Lib.hid (show Calls Try.prog 49 #[.slice ao n c] w fun e w' => e = .returned (.bool true) ∧ w = w' from hv.out.mono (by rintro e w' ⟨d, rfl, rfl, hd⟩; rw [hd.2 hval]; exact ⟨rfl, rfl⟩))
    have hval' := Lib.hid hval
    have hn10 : n ≤ 10 := by rw [hn]; exact hval.2.1
    clear hn hv hval
    go_enter Try.func14, Try.ntmps14
    go_wp2_with (go_at_call 49; refine hv2.out.mono ?_; rintro e wj ⟨rfl, rfl⟩)
    go_loopw [14, 6] (fun iv rv wr => ∃ k : Nat, k ≤ n ∧ iv = .int .i64 k ∧ Hid (Below w.heap.size w wr) ∧ ∃ bs, Hid (MsAt wr w.heap.size true rv k bs nilF (newMs xs))) (fun iv _ _ => n - (intOf iv).toNat)
    case atStart => exact ⟨0, Nat.zero_le _, rfl, Lib.hid (Below.refl _ _), fun _ => 0, Lib.hid ⟨World.ownsRow_nil _ _ _ _, fun j hj => by omega, fun i j hi => by omega, fun j hj => by omega⟩⟩
    case round =>
      obtain ⟨k, hk, rfl, hb, bs, hM⟩ := hrel
      by_cases hlt : k < n
      · obtain ⟨g, o, rfl, hgw, hcl⟩ := h'.out.at hn'.out.symm hlt
        have k1 := (hb.out.cell (p := ⟨g, o + k, none⟩) hgw).trans (hcl k hlt)
        obtain ⟨y, hy⟩ : ∃ y : Nat, (y : Int) = xs.getD k 0 := ⟨(xs.getD k 0).toNat, by have := (hval'.out.2.2 k (by have := hn'.out; omega)).1; omega⟩
        rw [← hy] at k1
        have hki : (k : Int) < (n : Int) := by omega
        have hy' := Lib.hid hy
        obtain ⟨ra, rc, rfl, -, -⟩ := hM.out.val
        have hsz := Lib.hid hb.out.size
        have hA := Lib.hid (below_alloc1 wr (.cells #[.bool false, .int .i64 0, .int .i64 0, .slice none 0 0, .int .i64 y, .int .i64 0, .bool false] 91))
        have hMb := Lib.hid (mb_new91 (w := wr) (B := w.heap.size) y hsz.out)
        have hM2 := Lib.hid (hM.out.below hA.out)
        have hszA := Lib.hid (show (wr.alloc (.cells #[.bool false, .int .i64 0, .int .i64 0, .slice none 0 0, .int .i64 y, .int .i64 0, .bool false] 91)).heap.size = wr.heap.size + 1 from World.size_alloc _ _)
        clear hcl hy
        go_wp2_with (
          at_builtin; refine app_one (w := wr.alloc (.cells #[.bool false, .int .i64 0, .int .i64 0, .slice none 0 0, .int .i64 y, .int .i64 0, .bool false] 91)) (y := #[mv true wr.heap.size]) (v := .slice ra k rc) (n := k) Try.underlying75 hi hz0 hz1 hz2 rfl (by decide) (by decide) hM2.out.row rfl (by intro u hu; simp at hu; subst hu; rfl) (by omega) (B := w.heap.size) (by rw [hszA.out]; have := hsz.out; omega) rfl _ _ rfl rfl (by rw [hszA.out]; rfl) ?_; intro v1 w1 hO1 hb1 hk1 ho1 hs1
          have hpush := hM2.out.push hMb.out (fun x hx => by
            have hx' : x = wr.heap.size := by
              rcases hx with e | e
              · exact e
              · cases e
            refine ⟨fun e => ?_, fun j hj hw => ?_⟩
            · have := (World.ownsRow.lt hM.out.row _ e).2; omega
            · have := ((hM.out.mem j hj).wr.pos _ hw).2; omega) hO1 hs1 hk1 ho1
          have hpush' := Lib.hid hpush
          have hb2 := Lib.hid ((hb.out.trans (hA.out.mono hb.out.size)).trans hb1)
          clear hO1 hb1 hk1 ho1 hs1 hpush)
        go_roundw
        case rel =>
          refine ⟨k + 1, by omega, by go_num, hb2, up bs k wr.heap.size, Lib.hid ?_⟩
          have := hpush'.out
          rw [show up nilF k (.slice none 0 0) = nilF from up_self nilF k, show up (newMs xs) k (Mb.new y) = newMs xs by
            have e : Mb.new y = newMs xs k := by unfold newMs; rw [← hy'.out]; rfl
            rw [e, up_self]] at this
          exact this
        case measure => simp [intOf]; omega
      · obtain rfl : k = n := by omega
        obtain ⟨ra, rc, rfl, -, -⟩ := hM.out.val
        have hnr := Lib.hid (newRing50 hM.out hb.out.size)
        go_wp2_with (go_at_call 50; refine hnr.out.mono ?_; rintro e w2 ⟨rfl, hr, hb2⟩; have hr' := Lib.hid hr; have hb2' := Lib.hid hb2; clear hr hb2)
        go_ret2
        refine .inr ⟨hval'.out, wr.heap.size, .slice ra k rc, bs, rfl, ?_, hb.out.trans (hb2'.out.mono hb.out.size)⟩
        rw [← hn'.out]; exact hr'.out
  · have hv2 := Lib.hid (show Calls Try.prog 49 #[.slice ao n c] w fun e w' => e = .returned (.bool false) ∧ w = w' from hv.out.mono (by
      rintro e w' ⟨d, rfl, rfl, hd⟩
      cases d
      · exact ⟨rfl, rfl⟩
      · exact absurd (hd.1 rfl) hval))
    have hval' := Lib.hid hval
    clear hn hv hval
    go_enter Try.func14, Try.ntmps14
    go_wp2_with (go_at_call 49; refine hv2.out.mono ?_; rintro e wj ⟨rfl, rfl⟩)
    go_ret2
    exact .inl ⟨hval'.out, rfl, rfl⟩
set_option maxHeartbeats 2000000 in
set_option maxRecDepth 100000 in
theorem new14f {w : World} {v : Value} {xs : List Int} (h : Reads w v xs) (hl : xs.length ≤ 100000) : Calls Try.prog 14 #[v, .bool false] w (NewR w false xs) := by
  have hv := Lib.hid (areValid49 h hl)
  have h' := Lib.hid h
  obtain ⟨i0, hi, hz0, hz1, hz2⟩ := info_parts info113
  obtain ⟨ao, c, rfl, hc, -⟩ := h
  obtain ⟨n, hn⟩ : ∃ n, n = xs.length := ⟨_, rfl⟩
  rw [← hn] at hc hl h' hv ⊢
  have hn' := Lib.hid hn
  by_cases hval : validL xs
  · have hv2 := Lib.hid (show Calls Try.prog 49 #[.slice ao n c] w fun e w' => e = .returned (.bool true) ∧ w = w' from hv.out.mono (by rintro e w' ⟨d, rfl, rfl, hd⟩; rw [hd.2 hval]; exact ⟨rfl, rfl⟩))
    have hval' := Lib.hid hval
    have hn10 : n ≤ 10 := by rw [hn]; exact hval.2.1
    clear hn hv hval
    go_enter Try.func14, Try.ntmps14
    go_wp2_with (go_at_call 49; refine hv2.out.mono ?_; rintro e wj ⟨rfl, rfl⟩)
    go_loopw [14, 6] (fun iv rv wr => ∃ k : Nat, k ≤ n ∧ iv = .int .i64 k ∧ Hid (Below w.heap.size w wr) ∧ ∃ bs, Hid (MsAt wr w.heap.size false rv k bs nilF (newMs xs))) (fun iv _ _ => n - (intOf iv).toNat)
    case atStart => exact ⟨0, Nat.zero_le _, rfl, Lib.hid (Below.refl _ _), fun _ => 0, Lib.hid ⟨World.ownsRow_nil _ _ _ _, fun j hj => by omega, fun i j hi => by omega, fun j hj => by omega⟩⟩
    case round =>
      obtain ⟨k, hk, rfl, hb, bs, hM⟩ := hrel
      by_cases hlt : k < n
      · obtain ⟨g, o, rfl, hgw, hcl⟩ := h'.out.at hn'.out.symm hlt
        have k1 := (hb.out.cell (p := ⟨g, o + k, none⟩) hgw).trans (hcl k hlt)
        obtain ⟨y, hy⟩ : ∃ y : Nat, (y : Int) = xs.getD k 0 := ⟨(xs.getD k 0).toNat, by have := (hval'.out.2.2 k (by have := hn'.out; omega)).1; omega⟩
        rw [← hy] at k1
        have hki : (k : Int) < (n : Int) := by omega
        have hy' := Lib.hid hy
        obtain ⟨ra, rc, rfl, -, -⟩ := hM.out.val
        have hsz := Lib.hid hb.out.size
        have hA := Lib.hid (below_alloc1 wr (.cells #[.bool false, .int .i64 0, .int .i64 0, .slice none 0 0, .int .i64 y] 94))
        have hMb := Lib.hid (mb_new94 (w := wr) (B := w.heap.size) y hsz.out)
        have hM2 := Lib.hid (hM.out.below hA.out)
        have hszA := Lib.hid (show (wr.alloc (.cells #[.bool false, .int .i64 0, .int .i64 0, .slice none 0 0, .int .i64 y] 94)).heap.size = wr.heap.size + 1 from World.size_alloc _ _)
        clear hcl hy
        go_wp2_with (
          at_builtin; refine app_one (w := wr.alloc (.cells #[.bool false, .int .i64 0, .int .i64 0, .slice none 0 0, .int .i64 y] 94)) (y := #[mv false wr.heap.size]) (v := .slice ra k rc) (n := k) Try.underlying75 hi hz0 hz1 hz2 rfl (by decide) (by decide) hM2.out.row rfl (by intro u hu; simp at hu; subst hu; rfl) (by omega) (B := w.heap.size) (by rw [hszA.out]; have := hsz.out; omega) rfl _ _ rfl rfl (by rw [hszA.out]; rfl) ?_; intro v1 w1 hO1 hb1 hk1 ho1 hs1
          have hpush := hM2.out.push hMb.out (fun x hx => by
            have hx' : x = wr.heap.size := by
              rcases hx with e | e
              · exact e
              · cases e
            refine ⟨fun e => ?_, fun j hj hw => ?_⟩
            · have := (World.ownsRow.lt hM.out.row _ e).2; omega
            · have := ((hM.out.mem j hj).wr.pos _ hw).2; omega) hO1 hs1 hk1 ho1
          have hpush' := Lib.hid hpush
          have hb2 := Lib.hid ((hb.out.trans (hA.out.mono hb.out.size)).trans hb1)
          clear hO1 hb1 hk1 ho1 hs1 hpush)
        go_roundw
        case rel =>
          refine ⟨k + 1, by omega, by go_num, hb2, up bs k wr.heap.size, Lib.hid ?_⟩
          have := hpush'.out
          rw [show up nilF k (.slice none 0 0) = nilF from up_self nilF k, show up (newMs xs) k (Mb.new y) = newMs xs by
            have e : Mb.new y = newMs xs k := by unfold newMs; rw [← hy'.out]; rfl
            rw [e, up_self]] at this
          exact this
        case measure => simp [intOf]; omega
      · obtain rfl : k = n := by omega
        obtain ⟨ra, rc, rfl, -, -⟩ := hM.out.val
        have hnr := Lib.hid (newRing50 hM.out hb.out.size)
        go_wp2_with (go_at_call 50; refine hnr.out.mono ?_; rintro e w2 ⟨rfl, hr, hb2⟩; have hr' := Lib.hid hr; have hb2' := Lib.hid hb2; clear hr hb2)
        go_ret2
        refine .inr ⟨hval'.out, wr.heap.size, .slice ra k rc, bs, rfl, ?_, hb.out.trans (hb2'.out.mono hb.out.size)⟩
        rw [← hn'.out]; exact hr'.out
  · have hv2 := Lib.hid (show Calls Try.prog 49 #[.slice ao n c] w fun e w' => e = .returned (.bool false) ∧ w = w' from hv.out.mono (by
      rintro e w' ⟨d, rfl, rfl, hd⟩
      cases d
      · exact ⟨rfl, rfl⟩
      · exact absurd (hd.1 rfl) hval))
    have hval' := Lib.hid hval
    clear hn hv hval
    go_enter Try.func14, Try.ntmps14
    go_wp2_with (go_at_call 49; refine hv2.out.mono ?_; rintro e wj ⟨rfl, rfl⟩)
    go_ret2
    exact .inl ⟨hval'.out, rfl, rfl⟩
end Go.Proofs.Ytbemlfppekpmjaa
