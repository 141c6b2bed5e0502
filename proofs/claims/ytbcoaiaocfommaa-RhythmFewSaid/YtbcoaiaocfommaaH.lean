import Derived.Test.YtbcoaiaocfommaaG
import Derived.Laws.IdiomStrings
namespace Go.Proofs.Ytbcoaiaocfommaa
open Go.RowKit

/-! ## greatest common divisors -/
theorem gcd_step (a b g : Nat) (h : Nat.gcd a b = g) : Nat.gcd b (a % b) = g := by rw [← h, Nat.gcd_comm a b, Nat.gcd_rec b a, Nat.gcd_comm]

set_option maxRecDepth 100000 in
theorem gcd45 (a b : Nat) (w : World) (ha : a ≤ 1000000) (hb : b ≤ 1000000) :
    Calls Try.prog 45 #[.int .i64 a, .int .i64 b] w fun e w' => e = .returned (.int .i64 (Nat.gcd a b)) ∧ Below w.heap.size w w' := by
  obtain ⟨g, hg⟩ : ∃ g, g = Nat.gcd a b := ⟨_, rfl⟩
  rw [← hg]
  have hg' := Lib.hid hg.symm
  clear hg
  go_enter Try.func45, Try.ntmps45
  go_wp2
  go_loopw [0, 1] (fun x y wr => ∃ u v : Nat, u ≤ 1000000 ∧ v ≤ 1000000 ∧ x = .int .i64 (u : Int) ∧ y = .int .i64 (v : Int) ∧ Hid (Nat.gcd u v = g) ∧ Below w.heap.size w wr) (fun _ y _ => (intOf y).toNat)
  case atStart => exact ⟨a, b, ha, hb, rfl, rfl, hg', Below.refl _ _⟩
  case round =>
    obtain ⟨u, v, hu, hv, rfl, rfl, hgg, hbw⟩ := hrel
    by_cases hlt : 0 < v
    · have hne : ((v : Int) == 0) = false := by simp; omega
      have hmod : (u : Int) % (v : Int) = ((u % v : Nat) : Int) := by simp
      have hmlt : u % v < v := Nat.mod_lt _ hlt
      have hpos : (0 : Int) < v := by omega
      have hgg2 := Lib.hid (gcd_step u v g hgg.out)
      obtain ⟨m, hm⟩ : ∃ m, m = u % v := ⟨_, rfl⟩
      rw [← hm] at hmod hmlt hgg2
      have hmod' := Lib.hid hmod
      clear hmod hm
      go_wp2
      go_quiet (fail)
      go_wp2
      go_roundw
      case rel => exact ⟨v, m, hv, by omega, rfl, int_eq hmod'.out, hgg2, below_drewN hbw _⟩
      case measure => simp [intOf]; have := hmod'.out; omega
    · have h0 : v = 0 := by omega
      have hgu : (u : Int) = (g : Int) := by have := hgg.out; rw [h0, Nat.gcd_zero_right] at this; omega
      have hgu' := Lib.hid hgu
      clear hgu
      go_wp2
      go_ret
      exact ⟨ret_i hgu'.out, hbw⟩

set_option maxRecDepth 100000 in
theorem gcd71 (a b : Nat) (w : World) (ha : a ≤ 1000000) (hb : b ≤ 1000000) :
    Calls Try.prog 71 #[.int .i64 a, .int .i64 b] w fun e w' => e = .returned (.int .i64 (Nat.gcd a b)) ∧ Below w.heap.size w w' := by
  obtain ⟨g, hg⟩ : ∃ g, g = Nat.gcd a b := ⟨_, rfl⟩
  rw [← hg]
  have hg' := Lib.hid hg.symm
  clear hg
  go_enter Try.func71, Try.ntmps71
  go_wp2
  go_loopw [0, 1] (fun x y wr => ∃ u v : Nat, u ≤ 1000000 ∧ v ≤ 1000000 ∧ x = .int .i64 (u : Int) ∧ y = .int .i64 (v : Int) ∧ Hid (Nat.gcd u v = g) ∧ Below w.heap.size w wr) (fun _ y _ => (intOf y).toNat)
  case atStart => exact ⟨a, b, ha, hb, rfl, rfl, hg', Below.refl _ _⟩
  case round =>
    obtain ⟨u, v, hu, hv, rfl, rfl, hgg, hbw⟩ := hrel
    by_cases hlt : 0 < v
    · have hne : ((v : Int) == 0) = false := by simp; omega
      have hmod : (u : Int) % (v : Int) = ((u % v : Nat) : Int) := by simp
      have hmlt : u % v < v := Nat.mod_lt _ hlt
      have hpos : (0 : Int) < v := by omega
      have hgg2 := Lib.hid (gcd_step u v g hgg.out)
      obtain ⟨m, hm⟩ : ∃ m, m = u % v := ⟨_, rfl⟩
      rw [← hm] at hmod hmlt hgg2
      have hmod' := Lib.hid hmod
      clear hmod hm
      go_wp2
      go_quiet (fail)
      go_wp2
      go_roundw
      case rel => exact ⟨v, m, hv, by omega, rfl, int_eq hmod'.out, hgg2, below_drewN hbw _⟩
      case measure => simp [intOf]; have := hmod'.out; omega
    · have h0 : v = 0 := by omega
      have hgu : (u : Int) = (g : Int) := by have := hgg.out; rw [h0, Nat.gcd_zero_right] at this; omega
      have hgu' := Lib.hid hgu
      clear hgu
      go_wp2
      go_ret
      exact ⟨ret_i hgu'.out, hbw⟩

/-! ## even rhythms -/
def evc (p q i : Nat) : UInt8 := if i * q % (p + q) + q < p + q then 97 else 98
def evenL (p q k : Nat) : List UInt8 := (List.range k).map (evc p q)
theorem evenL_snoc (p q k : Nat) : evenL p q (k + 1) = evenL p q k ++ [evc p q k] := by unfold evenL; rw [List.range_succ]; simp
theorem rem_step (p q k r : Nat) (hr : r = k * q % (p + q)) : ((r : Int) + (q : Int)) % ((p : Int) + (q : Int)) = (((k + 1) * q % (p + q) : Nat) : Int) := by
  rw [hr, Nat.succ_mul, Int.natCast_emod, Int.natCast_emod]
  push_cast
  rw [Int.emod_add_emod]

theorem str_push (l : List UInt8) (c : UInt8) : (⟨l.toArray⟩ : ByteArray) ++ ⟨#[c]⟩ = ⟨(l ++ [c]).toArray⟩ := by
  apply Go.WideShapes.bytes_inj
  simp [ByteArray.data_append]
theorem evenL_len (p q k : Nat) : (evenL p q k).length = k := by unfold evenL; simp

set_option maxHeartbeats 1000000 in
set_option maxRecDepth 100000 in
theorem even46 (p q : Nat) (w : World) (hp : 1 ≤ p) (hq : 1 ≤ q) (h : p + q ≤ 1000) :
    Calls Try.prog 46 #[.int .i64 p, .int .i64 q] w fun e w' => e = .returned (.string ⟨(evenL p q (p + q)).toArray⟩) ∧ w = w' := by
  go_enter Try.func46, Try.ntmps46
  go_wp2
  go_loop [5, 6, 7] (fun s r i => ∃ k r' : Nat, k ≤ p + q ∧ i = .int .i64 (k : Int) ∧ r = .int .i64 (r' : Int) ∧ r' < p + q ∧ Hid (r' = k * q % (p + q)) ∧ s = .string ⟨(evenL p q k).toArray⟩) (fun _ _ i => p + q - (intOf i).toNat)
  case atStart => exact ⟨0, 0, by omega, rfl, rfl, by omega, Lib.hid (by simp), rfl⟩
  case round =>
    obtain ⟨k, r, hk, rfl, rfl, hr, hrr, rfl⟩ := hrel
    have hmod := Lib.hid (rem_step p q k r hrr.out)
    have hmlt := Lib.hid (Nat.mod_lt ((k + 1) * q) (show p + q > 0 by omega))
    have hln : (evenL p q k).length ≤ 1000 := by rw [evenL_len]; omega
    by_cases hlt : k < p + q
    · by_cases ha : (r : Int) + q < p + q
      · have hev := Lib.hid (show evc p q k = 97 by unfold evc; rw [← hrr.out, if_pos (by omega)])
        go_wp2
        exact ⟨⟨k + 1, (k + 1) * q % (p + q), by omega, by go_num, int_eq hmod.out, hmlt.out, Lib.hid rfl, by rw [evenL_snoc, hev.out, str_push]⟩, by simp [intOf]; omega⟩
      · have hev := Lib.hid (show evc p q k = 98 by unfold evc; rw [← hrr.out, if_neg (by omega)])
        go_wp2
        exact ⟨⟨k + 1, (k + 1) * q % (p + q), by omega, by go_num, int_eq hmod.out, hmlt.out, Lib.hid rfl, by rw [evenL_snoc, hev.out, str_push]⟩, by simp [intOf]; omega⟩
    · have hkl : k = p + q := by omega
      have hkl := Lib.hid hkl
      go_wp2
      go_ret
      exact ⟨by rw [← hkl.out]; rfl, rfl⟩

def byteV (c : UInt8) : Value := .int .u8 (c.toNat : Int)
def evCells (p q n k : Nat) : List Value := (evenL p q k).map byteV ++ List.replicate (n - k) (.int .u8 0)
theorem evCells_len (p q n k : Nat) (h : k ≤ n) : (evCells p q n k).length = n := by unfold evCells; rw [List.length_append, List.length_map, evenL_len, List.length_replicate]; omega
theorem evCells_set (p q n k : Nat) (h : k < n) : (evCells p q n k).set k (byteV (evc p q k)) = evCells p q n (k + 1) := by
  unfold evCells
  rw [List.set_append_right _ _ (by simp [evenL_len]), evenL_snoc, List.map_append, List.length_map, evenL_len, Nat.sub_self]
  obtain ⟨m, hm⟩ : ∃ m, n - k = m + 1 := ⟨n - k - 1, by omega⟩
  rw [hm, show n - (k + 1) = m from by omega, List.replicate_succ, List.set_cons_zero]
  simp
theorem evCells_at (p q n k : Nat) (h : k < n) : (evCells p q n k)[k]? = some (.int .u8 0) := by
  unfold evCells
  rw [List.getElem?_append_right (by simp [evenL_len]), List.length_map, evenL_len, Nat.sub_self]
  obtain ⟨m, hm⟩ : ∃ m, n - k = m + 1 := ⟨n - k - 1, by omega⟩
  rw [hm]; rfl
theorem set_set (l : List Value) (k : Nat) (a b : Value) : (l.set k a).set k b = l.set k b := by simp
theorem info5 : (Try.prog.info? 5).map (fun i => (i.zero, i.size, i.bytes)) = some (some (.int .u8 0), 1, 1) := by kernel_rfl
theorem below_set {w wr : World} {B g : Nat} {k : Nat} {u : Value} (h : Below B w wr) (hg : B ≤ g) : Below B w (wr.setCell ⟨g, k, none⟩ u) := h.setCell hg u

def MadeS (w : World) (l : List UInt8) (err : Int) (e : Ending) (w' : World) : Prop := e = .returned (.tuple #[.string ⟨l.toArray⟩, .int .i64 err]) ∧ Below w.heap.size w w'

set_option maxHeartbeats 1000000 in
set_option maxRecDepth 100000 in
theorem even44 (p q : Nat) (w : World) (hp : 1 ≤ p) (hq : 1 ≤ q) (h : p + q ≤ 200) (hg : Nat.gcd p q = 1) :
    Calls Try.prog 44 #[.int .i64 p, .int .i64 q] w (MadeS w (evenL p q (p + q)) 0) := by
  obtain ⟨i0, hi, hz0, hz1, hz2⟩ := info_parts info5
  obtain ⟨n, hn⟩ : ∃ n, n = p + q := ⟨_, rfl⟩
  have hn' := Lib.hid hn
  have hgd := Lib.hid hg
  clear hg
  rw [← hn]
  have hn3 : ((n : Nat) : Int) = (p : Int) + q := by omega
  have hn4 := Lib.hid hn3
  clear hn hn3
  have hpq : ¬ ((200 : Int) - q < p) := by omega
  have hd1 : decide ((p : Int) < 1) = false := by simp; omega
  have hd2 : decide ((q : Int) < 1) = false := by simp; omega
  go_enter Try.func44, Try.ntmps44
  have hn5 : p + q = n := hn'.out.symm
  have hn6 := Lib.hid hn5
  clear hn5
  have hnn : n ≤ 200 := by have := hn6.out; omega
  go_wp2_with (first | (go_at_call 71; refine (gcd71 _ _ _ (by omega) (by omega)).mono ?_; rw [hgd.out]; rintro e w1 ⟨rfl, hb1⟩) | (at_make; refine wpList_make_full _ rfl _ _ 55 rfl w.heap.size 5 i0 (.int .u8 0) 1 Try.underlying55 hi hz0 hz1 .i64 .i64 _ _ n rfl rfl hn4.out.symm hn4.out.symm (by rw [hz2]; omega) (by unfold maxLen; omega) (by have := hb1.size; omega) ?_; intro w2 hown hgr))
  have hb2 : Below w.heap.size w w2 := hb1.grown hgr hb1.size (fun k hk => by simp at hk)
  have hgb := Lib.hid hb1.size
  have hmk : (madeCells (Value.int IntKind.u8 0).cells (n * 1)).toList = evCells p q n 0 := by
    show (madeCells #[Value.int IntKind.u8 0] (n * 1)).toList = _
    rw [toList_madeCells_one, Nat.mul_one]; rfl
  rw [hmk] at hown
  generalize w1.heap.size = g at hown hgb ⊢
  clear hgr hb1
  go_loopw [8, 9, 33] (fun r _ i wr => ∃ k r' : Nat, k ≤ n ∧ i = .int .i64 (k : Int) ∧ r = .int .i64 (r' : Int) ∧ r' < n ∧ Hid (r' = k * q % (p + q)) ∧ wr.ownsRow w.heap.size 5 1 (.slice (some ⟨g, 0, none⟩) n n) n (evCells p q n k) ∧ Below w.heap.size w wr) (fun _ _ i _ => n - (intOf i).toNat)
  case atStart => exact ⟨0, 0, by omega, rfl, rfl, by have := hn6.out; omega, Lib.hid (by simp), hown, hb2⟩
  case round =>
    obtain ⟨k, r, hk, rfl, rfl, hr, hrr, ho, hbr⟩ := hrel
    have hmod := Lib.hid (rem_step p q k r hrr.out)
    have hmlt := Lib.hid (Nat.mod_lt ((k + 1) * q) (show p + q > 0 by omega))
    by_cases hlt : k < n
    · have hcell : wr.cell? ⟨g, k, none⟩ = some (.int .u8 0) := by rw [ho.cellAt k (by omega), evCells_at p q n k hlt]
      have hfz : wr.frozen? ⟨g, k, none⟩ = false := ho.frozenAt k
      have ho' := Lib.hid ho
      clear ho
      by_cases ha : (r : Int) + q < p + q
      · have hev := Lib.hid (show evc p q k = 97 by unfold evc; rw [← hrr.out, if_pos (by omega)])
        go_wp2
        refine ⟨⟨k + 1, (k + 1) * q % (p + q), by omega, by go_num, int_eq hmod.out, by have := hmlt.out; have := hn6.out; omega, Lib.hid rfl, ?_, ?_⟩, by simp [intOf]; omega⟩
        · rw [← evCells_set p q n k hlt, hev.out, ← set_set _ _ (.int .u8 98) _]
          exact ((ho'.out.stored k (.int .u8 98)).1.stored k _).1
        · exact below_set (below_set hbr hgb.out) hgb.out
      · have hev := Lib.hid (show evc p q k = 98 by unfold evc; rw [← hrr.out, if_neg (by omega)])
        go_wp2
        refine ⟨⟨k + 1, (k + 1) * q % (p + q), by omega, by go_num, int_eq hmod.out, by have := hmlt.out; have := hn6.out; omega, Lib.hid rfl, ?_, ?_⟩, by simp [intOf]; omega⟩
        · rw [← evCells_set p q n k hlt, hev.out]
          exact (ho'.out.stored k _).1
        · exact below_set hbr hgb.out
    · have hkl : k = n := by omega
      have hkl := Lib.hid hkl
      have hsl := Lib.hid (show ∀ j (hj : j < (evenL p q n).length), wr.cell? ((⟨g, 0, none⟩ : Addr).add j) = some (.int .u8 ((evenL p q n)[j].toNat : Int)) from fun j hj => by
        have hjn : j < n := by rw [evenL_len] at hj; exact hj
        have e : (⟨g, 0, none⟩ : Addr).add j = ⟨g, j, none⟩ := by simp [Addr.add]; exact fun h => h.symm
        rw [e, ho.cellAt j (by omega), hkl.out]
        unfold evCells
        rw [List.getElem?_append_left (by simp [evenL_len]; exact hjn), List.getElem?_map, List.getElem?_eq_getElem hj]; rfl)
      have hconv := run_convert_bytes_back (P := Try.prog) wr 55 9 5 ⟨g, 0, none⟩ n (evenL p q n) Try.underlying55 Try.underlying5 Try.underlying9 hsl.out
      rw [evenL_len] at hconv
      go_wp2
      go_ret2
      exact ⟨rfl, hbr⟩
end Go.Proofs.Ytbcoaiaocfommaa
