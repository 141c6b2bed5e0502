import Derived.Test.YtfobdlllghpelaaJ
import Derived.Deep.LoopGhost
import Derived.WalkMore
namespace Go.Proofs.Ytfobdlllghpelaa
open Go.RowKit Go.Shelf Pair

set_option maxRecDepth 100000 in
theorem count71 {w : World} {B gA gC n N : Nat} {xs : List Int} (hr : Row w B gC N xs) (hN : 1 ≤ N) (hN2 : N ≤ 1000000) :
    Calls Try.prog 71 #[.agg #[.slice (some ⟨gA, 0, none⟩) n n, .slice (some ⟨gC, 0, none⟩) N N]] w fun e w' => e = .returned (.int .i64 (xs.getD (N - 1) 0)) ∧ Below w.heap.size w w' := by
  have hb := below_alloc1 w (.cells #[.slice (some ⟨gA, 0, none⟩) n n, .slice (some ⟨gC, 0, none⟩) N N] 98)
  have c := (hr.below hb).cell (j := N - 1) (by omega)
  have hb' := Lib.hid hb
  clear hb
  go_enter Try.func71, Try.ntmps71
  go_wp2
  go_ret
  exact ⟨rfl, hb'.out⟩

/-- What was made since `B` stays. -/
def Stays (B : Nat) (W W' : World) : Prop := W.heap.size ≤ W'.heap.size ∧ ∀ g, B ≤ g → g < W.heap.size → W'.heap[g]? = W.heap[g]?
theorem Row.stays {w w' : World} {B g n : Nat} {xs : List Int} (h : Row w B g n xs) (hs : Stays B w w') : Row w' B g n xs := by
  have hl := h.lt
  refine ⟨⟨h.1.1, ?_⟩, h.2⟩
  rcases h.1.2 with hn | ⟨b, cap, cur, e, hB, hb, rest⟩
  · exact .inl hn
  · have e2 : g = b := by simp only [Value.slice.injEq, Option.some.injEq, Addr.mk.injEq, and_true, true_and] at e; exact e.1
    subst e2
    exact .inr ⟨g, cap, cur, e, hB, by rw [hs.2 g hl.1 hl.2]; exact hb, rest⟩
theorem clr_ne_tab : ∀ S : Nat, S < 256 → ∀ j : Nat, j < 8 → (((clr S j : Nat) : Int) != (S : Int)) = S.testBit j := by decide +kernel
theorem range'_cons (q n : Nat) (h : q < n) : List.range' q (n - q) = q :: List.range' (q + 1) (n - (q + 1)) := by
  rw [show n - q = (n - (q + 1)) + 1 by omega, List.range'_succ]

/-- Numbers as ints. -/
def natI (l : List Nat) : List Int := l.map Int.ofNat
theorem natI_set (pre : List Nat) (m q : Nat) : (natI pre ++ List.replicate (m + 1) 0).set pre.length (q : Int) = natI (pre ++ [q]) ++ List.replicate m 0 := by
  have e : (natI pre).length = pre.length := by simp [natI]
  rw [← e, List.set_append_right _ _ (Nat.le_refl _), Nat.sub_self, List.replicate_succ, List.set_cons_zero]
  simp [natI]
/-- What the search asks at a column: the answer, and the state behind it. -/
def Asks {σ : Type} (dec : σ → Nat → Nat → Nat → Bool) (nxt : σ → Nat → Nat → Nat → σ) (Inv : σ → World → Prop) (B n : Nat) (kf : FuncId) (cap : Array Value) : Prop :=
  ∀ (s : σ) (W : World) (i j T : Nat), Inv s W → B ≤ W.heap.size → i < n → j < n → T < 2 ^ n → szS T + (i + 1) = n →
    Calls Try.prog kf (#[.int .i64 i, .int .i64 j, .int .u64 T] ++ cap) W fun e W' => e = .returned (.bool (dec s i j T)) ∧ Inv (nxt s i j T) W' ∧ Stays B W W'

/-- What the search hands back. -/
def Found (w' : World) (B n : Nat) (o : Option (List Nat)) (e : Ending) : Prop :=
  match o with
  | none => e = .returned (.slice none 0 0)
  | some l => ∃ g, e = .returned (.slice (some ⟨g, 0, none⟩) n n) ∧ Row w' B g n (natI l)

set_option maxHeartbeats 4000000 in
set_option maxRecDepth 100000 in
theorem search80 {σ : Type} {dec : σ → Nat → Nat → Nat → Bool} {nxt : σ → Nat → Nat → Nat → σ} {w : World} {n : Nat} (hn1 : 1 ≤ n) (hn8 : n ≤ 8) (kf : FuncId) (cap : Array Value) (eg : ∀ args w, (callFunc kf args).run Try.prog w = .ok (.enter kf args) w)
    (Inv : σ → World → Prop) (hkeep : ∀ s W W', Inv s W → Below w.heap.size W W' → Inv s W') (hcall : Asks dec nxt Inv w.heap.size n kf cap) (s0 : σ) (h0 : Inv s0 w) :
    Calls Try.prog 80 #[.int .i64 n, .func (.func kf) #[] cap] w fun e w' => ∃ s', Inv s' w' ∧ Found w' w.heap.size n (srch dec nxt n n (2 ^ n - 1) s0) e := by
  have hcall' := Lib.hid hcall
  have hkeep' := Lib.hid hkeep
  have hN1 := pow_le n hn8
  have hfull := szS_full n hn8
  have hFl : 2 ^ n - 1 < 2 ^ n := by have := Nat.one_le_two_pow (n := n); omega
  have hfst := Lib.hid (fun W : World => first67 (w := W) hn8)
  obtain ⟨F, hF⟩ : ∃ F, F = 2 ^ n - 1 := ⟨_, rfl⟩
  rw [← hF] at hfull hFl hfst ⊢
  obtain ⟨N, hN⟩ : ∃ N, N = 2 ^ n := ⟨_, rfl⟩
  rw [← hN] at hN1 hFl
  have hN' := Lib.hid hN
  have hfull' := Lib.hid hfull
  clear hcall hkeep hF hN hfull
  go_enter Try.func80, Try.ntmps80
  go_wp2
  go_step3
  go_wp2_with (first | (at_make; refine make_row n (by omega) (Nat.le_refl w.heap.size) rfl _ _ rfl rfl rfl ?_; intro w1 hr1 hb1) | (go_at_call 67; refine (hfst.out _).mono ?_; rintro e w2 ⟨rfl, rfl⟩))
  go_step3
  go_wp2
  have h01 := Lib.hid (hkeep'.out s0 w w1 h0 hb1)
  have hr1' := Lib.hid hr1
  have hs1 := hb1.size
  have hlt1 := hr1.lt.2
  obtain ⟨B, hB⟩ : ∃ B, B = w.heap.size := ⟨_, rfl⟩
  rw [← hB] at hr1' hs1 hlt1 ⊢
  have hB' := Lib.hid hB
  clear hr1 hb1 hB
  go_loopw [6, 16] (fun fr iv wr => ∃ (k S : Nat) (s : σ) (pre : List Nat), k ≤ n ∧ iv = .int .i64 k ∧ fr = .int .u64 S ∧ S < N ∧ Hid (szS S + k = n) ∧ Hid (Row wr B B n (natI pre ++ List.replicate (n - k) 0)) ∧ Hid (pre.length = k) ∧ Hid (Inv s wr) ∧ B < wr.heap.size ∧
    Hid (srch dec nxt n n F s0 = (srch dec nxt n (n - k) S s).map (pre ++ ·))) (fun _ iv _ => n - (intOf iv).toNat)
  case atStart => exact ⟨0, F, s0, [], Nat.zero_le _, rfl, rfl, hFl, Lib.hid (by rw [hfull'.out]; rfl), Lib.hid (by simpa [natI] using hr1'.out), Lib.hid rfl, h01, hlt1, Lib.hid (by simp)⟩
  case round =>
    obtain ⟨k, S, s, pre, hk, rfl, rfl, hSN, hz, hrow, hpl, hinv, hBr, hsr⟩ := hrel
    obtain ⟨wo, rfl⟩ : ∃ wo : World, wo = wr := ⟨_, rfl⟩
    by_cases hlt : k < n
    · have hS256 : S < 256 := by omega
      go_wp2
      go_loopw [6, 20] (fun fr qv wr => ∃ (q : Nat) (s' : σ), q ≤ n ∧ qv = .int .i64 q ∧ fr = .int .u64 S ∧ Hid (Row wr B B n (natI pre ++ List.replicate (n - k) 0)) ∧ Hid (Inv s' wr) ∧ B < wr.heap.size ∧
        Hid (tryC dec nxt k S (List.range n) s = tryC dec nxt k S (List.range' q (n - q)) s')) (fun _ qv _ => n - (intOf qv).toNat)
      case atStart => exact ⟨0, s, Nat.zero_le _, rfl, rfl, hrow, hinv, hBr, Lib.hid (by rw [List.range_eq_range', Nat.sub_zero])⟩
      case round =>
        clear hrow hinv hBr
        obtain ⟨q, s', hq, rfl, rfl, hrow, hinv, hBr, htr⟩ := hrel
        obtain ⟨wi, rfl⟩ : ∃ wi : World, wi = wr := ⟨_, rfl⟩
        by_cases hqt : q < n
        · have hwo := Lib.hid (fun (W : World) => without79 (w := W) hS256 (show q < 8 by omega))
          have hne := clr_ne_tab S hS256 q (by omega)
          obtain ⟨T, hT⟩ : ∃ T, T = clr S q := ⟨_, rfl⟩
          rw [← hT] at hwo hne
          have hT' := Lib.hid hT
          clear hT
          by_cases hb : S.testBit q = true
          · rw [hb] at hne
            go_wp2_with (first | (go_at_call 79; refine (hwo.out _).mono ?_; rintro e w2 ⟨rfl, rfl⟩))
            have hTN : T < N := by
              have h1 := (szS_clr S hS256 q (by omega) hb).2
              rw [← hT'.out] at h1; omega
            refine (hcall'.out s' wi k q T hinv.out (by rw [← hB'.out]; omega) hlt hqt (by rw [← hN'.out]; exact hTN) (by rw [hT'.out]; have := (szS_clr S hS256 q (by omega) hb).1; have := hz.out; omega)).mono ?_
            rintro e w3 ⟨rfl, hinv3, hst3⟩
            rw [← hB'.out] at hst3
            have hrow3 := hrow.out.stays hst3
            have hB3 : B < w3.heap.size := Nat.lt_of_lt_of_le hBr hst3.1
            obtain ⟨d, hd⟩ : ∃ d, d = dec s' k q T := ⟨_, rfl⟩
            obtain ⟨s3, hs3⟩ : ∃ s3, s3 = nxt s' k q T := ⟨_, rfl⟩
            rw [← hs3] at hinv3
            rw [← hd]
            have hinv3' := Lib.hid hinv3
            have htr2 := htr.out
            rw [range'_cons q n hqt, tryC, if_pos hb, ← hT'.out, ← hd, ← hs3] at htr2
            have htr3 := Lib.hid htr2
            have hrow3' := Lib.hid hrow3
            clear hd hs3 hinv3 hst3 htr2 hne
            cases d
            · have htr4 := Lib.hid (show tryC dec nxt k S (List.range n) s = tryC dec nxt k S (List.range' (q + 1) (n - (q + 1))) s3 by rw [htr3.out]; rfl)
              clear hrow3
              go_wp2
              go_roundw
              case rel => exact ⟨q + 1, s3, by omega, by go_num, rfl, hrow3', hinv3', hB3, htr4⟩
              case measure => simp [intOf]; omega
            · have htr4 := Lib.hid (show tryC dec nxt k S (List.range n) s = some (q, s3) by rw [htr3.out]; rfl)
              have cP := hrow3.cell hlt
              have fP := hrow3.frozen k
              have hset := hrow3.set k (q : Int)
              rw [show n - k = (n - (k + 1)) + 1 by omega] at hset
              have e5 : List.set (natI pre ++ List.replicate (n - (k + 1) + 1) (0 : Int)) k (q : Int) = natI (pre ++ [q]) ++ List.replicate (n - (k + 1)) (0 : Int) := by rw [← natI_set, hpl.out]
              rw [e5] at hset
              have hset' := Lib.hid hset
              have hinv4 := Lib.hid (hkeep'.out s3 w3 (w3.setCell ⟨B, k, none⟩ (.int .i64 (q : Int))) hinv3'.out (below_set (Below.refl _ _) (by rw [← hB'.out]; exact Nat.le_refl _)))
              have hzT := Lib.hid (show szS T + (k + 1) = n by rw [hT'.out]; have := (szS_clr S hS256 q (by omega) hb).1; have := hz.out; omega)
              have hsr4 := Lib.hid (show srch dec nxt n n F s0 = (srch dec nxt n (n - (k + 1)) T s3).map ((pre ++ [q]) ++ ·) by
                rw [hsr.out, show n - k = (n - (k + 1)) + 1 by omega, srch, show n - (n - (k + 1) + 1) = k by omega, htr4.out, hT'.out]
                simp only [Option.map_map]
                congr 1
                funext l
                simp)
              have hpl4 := Lib.hid (show (pre ++ [q]).length = k + 1 by rw [List.length_append, hpl.out]; rfl)
              have hB4 : B < (w3.setCell ⟨B, k, none⟩ (.int .i64 (q : Int))).heap.size := by simpa using hB3
              clear hrow3 hset e5
              go_wp2
              go_roundw
              case rel => exact ⟨k + 1, T, s3, pre ++ [q], by omega, by go_num, rfl, hTN, hzT, hset', hpl4, hinv4, hB4, hsr4⟩
              case measure => simp [intOf]; omega
          · have hb : S.testBit q = false := by simpa using hb
            rw [hb] at hne
            have htr4 := Lib.hid (show tryC dec nxt k S (List.range n) s = tryC dec nxt k S (List.range' (q + 1) (n - (q + 1))) s' by
              rw [htr.out, range'_cons q n hqt, tryC, if_neg (by rw [hb]; simp)])
            clear hb
            go_wp2_with (first | (go_at_call 79; refine (hwo.out _).mono ?_; rintro e w2 ⟨rfl, rfl⟩))
            go_roundw
            case rel => exact ⟨q + 1, s', by omega, by go_num, rfl, hrow, hinv, hBr, htr4⟩
            case measure => simp [intOf]; omega
        · have hnone := Lib.hid (show srch dec nxt n n F s0 = none by
            have e : tryC dec nxt k S (List.range n) s = none := by rw [htr.out, show n - q = 0 by omega]; rfl
            rw [hsr.out, show n - k = (n - (k + 1)) + 1 by omega, srch, show n - (n - (k + 1) + 1) = k by omega, e]; rfl)
          go_wp2
          rw [Exit.noGoto_ret]
          go_ret
          exact ⟨s', hinv.out, by rw [hnone.out]; rfl⟩
    · obtain rfl : k = n := by omega
      have hsome := Lib.hid (show srch dec nxt k k F s0 = some pre by rw [hsr.out, Nat.sub_self, srch]; simp)
      have hrow2 := Lib.hid (show Row wo B B k (natI pre) by have := hrow.out; rw [Nat.sub_self] at this; simpa using this)
      go_wp2
      rw [Exit.noGoto_ret]
      go_ret
      exact ⟨s, hinv.out, by rw [hsome.out]; exact ⟨B, rfl, by rw [← hB'.out]; exact hrow2.out⟩⟩
end Go.Proofs.Ytfobdlllghpelaa
