import Derived.Test.YtbcoaiaocfommaaM
namespace Go.Proofs.Ytbcoaiaocfommaa
open Go.RowKit

theorem step_app_str {ops : Array Oper} {o : Oper} {a : Act} {K : Act → World → Prop} {Q : Exit → Act → World → Prop} {E : Prop} {w : World} {B : Nat} {v : Value} {xs : List (List UInt8)} {y : List UInt8}
    (hgd : o.guard = none) (s x : Operand)
    (ho : o.op = .call { callee := .builtin .append, args := #[s, x], argTypes := #[32, 32] }) (ad : Addr) (hx : a.eval x = .slice (some ad) 1 1) (hs : a.eval s = v) (hc : w.cell? ad = some (strV y))
    (hown : Strs w B v xs) (hlen : xs.length ≤ 1000000000) (hB : B ≤ w.heap.size)
    (h : ∀ v' w', Strs w' B v' (xs ++ [y]) → Below B w w' → K (a.put o.dst v') w') : if Region.wanted o (yielded ops a.tmps) = true then Oper.wp Try.prog o a w K Q else E := by
  have hw : Region.wanted o (yielded ops a.tmps) = true := by simp [Region.wanted, hgd]
  rw [if_pos hw]
  exact wp_app_str hown hlen hB s x ho ad hx hs hc h

def MadeSt (w : World) (xs : List (List UInt8)) (e : Ending) (w' : World) : Prop := ∃ v, e = .returned v ∧ Strs w' w.heap.size v xs ∧ Below w.heap.size w w'

set_option maxHeartbeats 1000000 in
set_option maxRecDepth 100000 in
theorem lyndon28 (s : ByteArray) (w : World) (hs : s.size ≤ 1000000) :
    Calls Try.prog 28 #[.string s] w (MadeSt w (words s.data.toList)) := by
  go_enter Try.func28, Try.ntmps28
  go_wp2_with fail
  go_loopw [0, 3, 4] (fun sv v _ wr => LynRel s.data.toList w sv v wr) (fun sv _ _ _ => strLen sv)
  case atStart => exact ⟨s, s.size, [], rfl, Nat.le_refl _, by rw [size_len]; simp, by rw [size_len]; exact Nat.le_refl _, by unfold words; rw [size_len]; rfl, Strs.lit _ _ (Nat.le_refl _), (Below.refl _ _).alloc (Nat.le_refl _) _⟩
  case round =>
    obtain ⟨t, f, ws, rfl, htf, hfl, htl, hws, hown, hb⟩ := hrel
    obtain ⟨wo, rfl⟩ : ∃ wo : World, wo = wr := ⟨_, rfl⟩
    rw [size_len] at hfl htl
    have hws' := Lib.hid hws
    clear hws
    have hsz := hb.size
    have hem := empty_iff t
    by_cases hz : t.size = 0
    · have hem2 : t.toList.isEmpty = true := by rw [hem]; simp [hz]
      have hz' := Lib.hid hz
      clear hem hz
      go_wp2
      go_ret
      exact ⟨_, rfl, by rw [← hws'.out, show t.data.toList = [] from List.length_eq_zero_iff.1 (by rw [size_len]; exact hz'.out), wordsF_nil, List.append_nil]; exact hown, hb⟩
    · have hem2 : t.toList.isEmpty = false := by rw [hem]; simp [hz]
      obtain ⟨p, hp⟩ : ∃ p, p = fw t.data.toList := ⟨_, rfl⟩
      have hsp := fw_spec (l := t.data.toList) (by rw [size_len]; omega)
      rw [← hp, size_len] at hsp
      obtain ⟨hp1, hp2, hpl, hpm⟩ := hsp
      have hpl' := Lib.hid hpl
      have hpm' := Lib.hid hpm
      have hp' := Lib.hid hp
      clear hem hp hpl hpm
      obtain ⟨f', rfl⟩ : ∃ f', f = f' + 1 := ⟨f - 1, by omega⟩
      have hne := Lib.hid (show t.data.toList ≠ [] from fun e => hz (by rw [← size_len, e]; rfl))
      have hcut := Lib.hid (show ∀ n, (t.extract 0 n).data.toList = t.data.toList.take n from fun n => by rw [Lib.extract_data]; simp)
      have hcut2 := Lib.hid (show (t.extract p t.size).data.toList = t.data.toList.drop p by rw [Lib.extract_data]; exact List.take_of_length_le (by simp))
      have hcs2 := Lib.hid (show (t.extract p t.size).size = t.size - p by rw [ByteArray.size_extract]; omega)
      have hwsl : ws.length ≤ 1000000000 := by omega
      have hcl := Lib.hid (show ∀ n, (wo.alloc (.cells #[.string (t.extract 0 n)] 9)).cell? ⟨wo.heap.size, 0, none⟩ = some (strV (t.extract 0 n).data.toList) from fun n => by rw [World.cell?_alloc_at _ _ _ _ rfl]; rfl)
      have hBB := Lib.hid (show ∀ n, w.heap.size ≤ (wo.alloc (.cells #[.string (t.extract 0 n)] 9)).heap.size from fun n => by simp; omega)
      clear hz
      go_wp2_with fail
      go_loop [4] (fun i => ∃ n : Nat, p ≤ n ∧ n ≤ t.size ∧ i = .int .i64 n) (fun i => (intOf i).toNat)
      case atStart => exact ⟨t.size, hp2, Nat.le_refl _, rfl⟩
      case round =>
        obtain ⟨n, hn1, hn2, rfl⟩ := hrel
        have hcs : (t.extract 0 n).size ≤ 1000000 := by rw [ByteArray.size_extract]; omega
        have hcs' := Lib.hid hcs
        clear hcs
        by_cases hnp : p < n
        · have hlf := Lib.hid (show lynB (t.extract 0 n).data.toList = false by rw [hcut.out]; exact hpm'.out n hnp hn2)
          go_wp2_with (first | (go_at_call 51; refine (isLyn51 _ _ hcs'.out).mono ?_; rw [hlf.out]; rintro e w1 ⟨rfl, rfl⟩))
          go_round
          case rel => exact ⟨n - 1, by omega, by omega, int_eq (by omega)⟩
          case measure => simp [intOf]; omega
        · obtain rfl : n = p := by omega
          have hlt := Lib.hid (show lynB (t.extract 0 n).data.toList = true by rw [hcut.out]; exact hpl'.out)
          go_wp2_with (first | (go_at_call 51; refine (isLyn51 _ _ hcs'.out).mono ?_; rw [hlt.out]; rintro e w1 ⟨rfl, rfl⟩))
          go_region_law (refine step_app_str rfl (.tmp 17) (.tmp 21) rfl ⟨wo.heap.size, 0, none⟩ rfl rfl (hcl.out n) (World.ownsRow.alloc hown _) hwsl (hBB.out n) ?_; intro v' w2 hown2 hb2)
          go_wp2_with fail
          have hb2' : Below w.heap.size wo w2 := ((Below.refl _ _).alloc hsz _).drew.trans hb2
          go_roundw
          case rel =>
            (repeat apply Exists.intro)
            exact ⟨⟨_, f', ws ++ [(t.extract 0 n).data.toList], rfl, by rw [hcs2.out]; omega, by rw [List.length_append, List.length_singleton, size_len]; omega, by rw [hcs2.out, size_len]; omega, by rw [← hws'.out, wordsF_cons hne.out, ← hp'.out, hcut.out, hcut2.out]; simp, hown2, hb.trans hb2'⟩, rfl⟩
          case measure =>
            show (t.extract n t.size).size < t.size
            rw [hcs2.out]; omega
end Go.Proofs.Ytbcoaiaocfommaa
