import Derived.Test.YtpcjigdmfchbdaaDoorZr
import Derived.Test.YtpcjigdmfchbdaaDoorZs
import Derived.Test.YtpcjigdmfchbdaaDoorZi
import Derived.Deep.RegionLaw
import Derived.BigQuiet
namespace Cl

/-- A set by other names. -/
def mvS (f : Nat → Nat) (S : Nat) : Nat := (bl S).foldl (fun m v => m ||| 2 ^ f v) 0
theorem mvS_bit {f : Nat → Nat} {S j : Nat} : (mvS f S).testBit j = true ↔ ∃ v, v < 12 ∧ S.testBit v = true ∧ f v = j := by
  unfold mvS
  rw [show (bl S).foldl (fun m v => m ||| 2 ^ f v) 0 = (bl S).foldl (fun m v => if (fun _ => true) v = true then m ||| 2 ^ f v else m) 0 from rfl, fold_bit]
  simp [mem_bl, two_bit, and_assoc]
structure Ren (n : Nat) (f g : Nat → Nat) : Prop where
  fl : ∀ x, x < n → f x < n
  gl : ∀ x, x < n → g x < n
  gf : ∀ x, x < n → g (f x) = x
  fg : ∀ x, x < n → f (g x) = x
theorem Ren.symm {n : Nat} {f g : Nat → Nat} (h : Ren n f g) : Ren n g f := ⟨h.gl, h.fl, h.fg, h.gf⟩
theorem Ren.inj {n : Nat} {f g : Nat → Nat} (h : Ren n f g) {x y : Nat} (hx : x < n) (hy : y < n) (e : f x = f y) : x = y := by
  rw [← h.gf x hx, e, h.gf y hy]
/-- The attacks by other names. -/
def Moved (f : Nat → Nat) (L M : Atts) : Prop := ∀ a b, (a, b) ∈ M ↔ ∃ x y, (x, y) ∈ L ∧ f x = a ∧ f y = b
theorem Ren.back {n : Nat} {f g : Nat → Nat} (h : Ren n f g) {L M : Atts} (hL : Within n L) (hM : Moved f L M) : Moved g M L := fun a b => by
  constructor
  · intro hab
    have := hL _ hab
    exact ⟨f a, f b, (hM _ _).2 ⟨a, b, hab, rfl, rfl⟩, h.gf a this.1, h.gf b this.2⟩
  · rintro ⟨x, y, hxy, rfl, rfl⟩
    obtain ⟨a, b, hab, rfl, rfl⟩ := (hM _ _).1 hxy
    have := hL _ hab
    rw [h.gf a this.1, h.gf b this.2]
    exact hab
theorem Ren.within {n : Nat} {f g : Nat → Nat} (h : Ren n f g) {L M : Atts} (hL : Within n L) (hM : Moved f L M) : Within n M := fun p hp => by
  obtain ⟨a, b, hab, e1, e2⟩ := (hM p.1 p.2).1 hp
  have := hL _ hab
  rw [← e1, ← e2]
  exact ⟨h.fl a this.1, h.fl b this.2⟩
theorem mvS_mem {n : Nat} {f : Nat → Nat} {S j : Nat} (hn : n ≤ 12) (hS : S < 2 ^ n) : (mvS f S).testBit j = true ↔ ∃ v, v < n ∧ S.testBit v = true ∧ f v = j := by
  rw [mvS_bit]
  constructor
  · rintro ⟨v, _, h2, h3⟩; exact ⟨v, near hS h2, h2, h3⟩
  · rintro ⟨v, h1, h2, h3⟩; exact ⟨v, by omega, h2, h3⟩
theorem Ren.lt {n : Nat} {f g : Nat → Nat} (h : Ren n f g) (hn : n ≤ 12) {S : Nat} (hS : S < 2 ^ n) : mvS f S < 2 ^ n := by
  apply Nat.lt_pow_two_of_testBit
  intro i hi
  cases e : (mvS f S).testBit i
  · rfl
  · obtain ⟨v, hv, _, rfl⟩ := (mvS_mem hn hS).1 e
    have := h.fl v hv
    omega
theorem Ren.undo {n : Nat} {f g : Nat → Nat} (h : Ren n f g) (hn : n ≤ 12) {S : Nat} (hS : S < 2 ^ n) : mvS g (mvS f S) = S := bits_eq fun j => by
  rw [mvS_mem hn (h.lt hn hS)]
  constructor
  · rintro ⟨v, _, hv, rfl⟩
    obtain ⟨u, hu, hus, rfl⟩ := (mvS_mem hn hS).1 hv
    rw [h.gf u hu]; exact hus
  · intro hj
    have hjn := near hS hj
    exact ⟨f j, h.fl j hjn, (mvS_mem hn hS).2 ⟨j, hjn, hj, rfl⟩, h.gf j hjn⟩
theorem Ren.def {n : Nat} {f g : Nat → Nat} (h : Ren n f g) (hn : n ≤ 12) {L M : Atts} (hL : Within n L) (hM : Moved f L M) {S : Nat} (hS : S < 2 ^ n) {c : Nat} (hc : c < n) (hd : Def L S c) : Def M (mvS f S) (f c) := fun i hi => by
  obtain ⟨x, y, hxy, rfl, e⟩ := (hM _ _).1 hi
  have hb := hL _ hxy
  obtain rfl := h.inj hb.2 hc e
  obtain ⟨k, hk, hkx⟩ := hd x hxy
  exact ⟨f k, (mvS_mem hn hS).2 ⟨k, near hS hk, hk, rfl⟩, (hM _ _).2 ⟨k, x, hkx, rfl, rfl⟩⟩
theorem Ren.adm {n : Nat} {f g : Nat → Nat} (h : Ren n f g) (hn : n ≤ 12) {L M : Atts} (hL : Within n L) (hM : Moved f L M) {S : Nat} (hS : S < 2 ^ n) (ha : Adm L S) : Adm M (mvS f S) := by
  refine ⟨fun i j hi hj hl => ?_, fun c hc => ?_⟩
  · obtain ⟨u, hu, hus, rfl⟩ := (mvS_mem hn hS).1 hi
    obtain ⟨v, hv, hvs, rfl⟩ := (mvS_mem hn hS).1 hj
    obtain ⟨x, y, hxy, e1, e2⟩ := (hM _ _).1 hl
    have hb := hL _ hxy
    obtain rfl := h.inj hb.1 hu e1
    obtain rfl := h.inj hb.2 hv e2
    exact ha.1 _ _ hus hvs hxy
  · obtain ⟨u, hu, hus, rfl⟩ := (mvS_mem hn hS).1 hc
    exact h.def hn hL hM hS hu (ha.2 u hus)
theorem Ren.com {n : Nat} {f g : Nat → Nat} (h : Ren n f g) (hn : n ≤ 12) {L M : Atts} (hL : Within n L) (hM : Moved f L M) {S : Nat} (hS : S < 2 ^ n) (ha : Com n L S) : Com n M (mvS f S) := by
  refine ⟨h.adm hn hL hM hS ha.1, fun c hc hd => ?_⟩
  have := h.symm.def hn (h.within hL hM) (h.back hL hM) (h.lt hn hS) hc hd
  rw [h.undo hn hS] at this
  exact (mvS_mem hn hS).2 ⟨g c, h.gl c hc, ha.2 _ (h.gl c hc) this, h.fg c hc⟩
theorem Ren.pref {n : Nat} {f g : Nat → Nat} (h : Ren n f g) (hn : n ≤ 12) {L M : Atts} (hL : Within n L) (hM : Moved f L M) {S : Nat} (ha : Pref n L S) : Pref n M (mvS f S) := by
  refine ⟨h.lt hn ha.1, h.adm hn hL hM ha.1 ha.2.1, fun O hO hA hi => ?_⟩
  have := ha.2.2 (mvS g O) (h.symm.lt hn hO) (h.symm.adm hn (h.within hL hM) (h.back hL hM) hO hA) fun j hj => by
    have hjn := near ha.1 hj
    exact (mvS_mem hn hO).2 ⟨f j, h.fl j hjn, hi _ ((mvS_mem hn ha.1).2 ⟨j, hjn, hj, rfl⟩), h.gf j hjn⟩
  rw [← this, h.symm.undo hn hO]
theorem perm_nodup {α : Type} [BEq α] [LawfulBEq α] : ∀ {l m : List α}, l.Nodup → m.Nodup → (∀ x, x ∈ l ↔ x ∈ m) → l.Perm m := by
  intro l
  induction l with
  | nil =>
    intro m _ _ h
    cases m with
    | nil => exact .nil
    | cons y m => exact absurd ((h y).2 (by simp)) (by simp)
  | cons x l ih =>
    intro m hl hm h
    have hx : x ∈ m := (h x).1 (by simp)
    have hp := List.perm_cons_erase hx
    refine .trans (.cons x (ih (List.nodup_cons.1 hl).2 (hm.erase x) fun y => ?_)) hp.symm
    have hne : y ∈ l → y ≠ x := fun hy e => (List.nodup_cons.1 hl).1 (e ▸ hy)
    rw [hm.mem_erase_iff]
    constructor
    · exact fun hy => ⟨hne hy, (h y).1 (by simp [hy])⟩
    · rintro ⟨h1, h2⟩
      rcases List.mem_cons.1 ((h y).2 h2) with e | e
      · exact absurd e h1
      · exact e
theorem Ren.perm {n : Nat} {f g : Nat → Nat} (h : Ren n f g) (hn : n ≤ 12) {l m : List Nat} (hl : l.Nodup) (hm : m.Nodup) (h1 : ∀ S ∈ l, S < 2 ^ n ∧ mvS f S ∈ m) (h2 : ∀ S ∈ m, S < 2 ^ n ∧ mvS g S ∈ l) : (l.map (mvS f)).Perm m := by
  refine perm_nodup ?_ hm fun x => ?_
  · rw [List.Nodup, List.pairwise_map]
    refine List.Pairwise.imp_of_mem ?_ hl
    intro a b ha hb hab e
    apply hab
    rw [← h.undo hn (h1 a ha).1, e, h.undo hn (h1 b hb).1]
  · rw [List.mem_map]
    constructor
    · rintro ⟨S, hS, rfl⟩; exact (h1 S hS).2
    · intro hx
      exact ⟨_, (h2 x hx).2, h.symm.undo hn (h2 x hx).1⟩
theorem grt_nodup {l : List Nat} {m : Nat → Nat} (h : l.Nodup) : (grt l m).Nodup := List.Pairwise.filter _ h
theorem sets_nodup (n : Nat) (k : Nat → Bool) : (sets n k).Nodup := List.Pairwise.filter _ List.nodup_range
theorem Ren.prefs {n : Nat} {f g : Nat → Nat} (h : Ren n f g) (hn : n ≤ 12) {L M : Atts} (hL : Within n L) (hM : Moved f L M) : ((prefs n L).map (mvS f)).Perm (prefs n M) :=
  h.perm hn (grt_nodup (sets_nodup _ _)) (grt_nodup (sets_nodup _ _))
    (fun _ hS => ⟨((mem_prefs hn).1 hS).1, (mem_prefs hn).2 (h.pref hn hL hM ((mem_prefs hn).1 hS))⟩)
    (fun _ hS => ⟨((mem_prefs hn).1 hS).1, (mem_prefs hn).2 (h.symm.pref hn (h.within hL hM) (h.back hL hM) ((mem_prefs hn).1 hS))⟩)
theorem Ren.coms {n : Nat} {f g : Nat → Nat} (h : Ren n f g) (hn : n ≤ 12) {L M : Atts} (hL : Within n L) (hM : Moved f L M) : ((coms n L).map (mvS f)).Perm (coms n M) :=
  h.perm hn (sets_nodup _ _) (sets_nodup _ _)
    (fun _ hS => have k := (mem_coms hn).1 hS; ⟨k.1, (mem_coms hn).2 ⟨h.lt hn k.1, h.com hn hL hM k.1 k.2⟩⟩)
    (fun _ hS => have k := (mem_coms hn).1 hS; ⟨k.1, (mem_coms hn).2 ⟨h.symm.lt hn k.1, h.symm.com hn (h.within hL hM) (h.back hL hM) k.1 k.2⟩⟩)
theorem ren_add {n k : Nat} (hk : k < n) : Ren n (fun v => (v + k) % n) (fun v => (v + (n - k)) % n) := by
  have key : ∀ a b x : Nat, x < n → a + b = n → ((x + a) % n + b) % n = x := fun a b x hx hab => by
    rw [Nat.mod_add_mod, Nat.add_assoc, hab, Nat.add_mod_right, Nat.mod_eq_of_lt hx]
  exact ⟨fun x _ => Nat.mod_lt _ (by omega), fun x _ => Nat.mod_lt _ (by omega), fun x hx => key _ _ x hx (by omega), fun x hx => key _ _ x hx (by omega)⟩
end Cl
namespace Go.Proofs.YtpcjigdmfchbdaaDoor
open Go.RowKit Go.Shelf Cl

def blK (S k : Nat) : List Nat := (List.range k).filter fun j => S.testBit j
theorem blK_succ (S k : Nat) : blK S (k + 1) = blK S k ++ if S.testBit k then [k] else [] := by
  unfold blK
  rw [List.range_succ, List.filter_append]
  cases h : S.testBit k <;> simp [h]
theorem blK_len (S k : Nat) : (blK S k).length ≤ k := by
  unfold blK
  exact Nat.le_trans (List.length_filter_le _ _) (by simp)
theorem blK_all {S k : Nat} (h : S / 2 ^ k = 0) (hk : k ≤ 12) : blK S k = bl S := by
  have hlt : S < 2 ^ k := by
    rcases Nat.lt_or_ge S (2 ^ k) with h1 | h1
    · exact h1
    · have := Nat.div_pos h1 (Nat.two_pow_pos k); omega
  unfold blK bl
  rw [show List.range 12 = List.range k ++ (List.range (12 - k)).map (k + ·) from by rw [← List.range_add]; congr 1; omega, List.filter_append]
  have : ((List.range (12 - k)).map (k + ·)).filter (fun j => S.testBit j) = [] := by
    rw [List.filter_eq_nil_iff]
    intro x hx
    obtain ⟨y, _, rfl⟩ := List.mem_map.1 hx
    rw [far hlt (by omega)]; decide
  rw [this, List.append_nil]
theorem shr_zero {S k : Nat} (hS : S < 4096) (h : 12 ≤ k) : S / 2 ^ k = 0 := Nat.div_eq_of_lt (Nat.lt_of_lt_of_le hS (Nat.pow_le_pow_right (n := 2) (by decide) h))
theorem bv64 (a : Nat) (ha : a < 9223372036854775808) : (BitVec.ofInt 64 (a : Int)).toNat = a := by
  rw [BitVec.ofInt_natCast, BitVec.toNat_ofNat]; exact Nat.mod_eq_of_lt (by omega)
theorem and_i64 (a b : Nat) (ha : a < 9223372036854775808) (hb : b < 9223372036854775808) : bits .and .i64 (a : Int) (b : Int) = ((a &&& b : Nat) : Int) := by
  have hx : a &&& b < 9223372036854775808 := Nat.lt_of_le_of_lt Nat.and_le_left ha
  show IntKind.i64.wrap ((BitVec.ofInt 64 (a : Int) &&& BitVec.ofInt 64 (b : Int)).toNat : Int) = _
  rw [BitVec.toNat_and, bv64 a ha, bv64 b hb, IntKind.wrap_i64]
  omega
theorem or_i64 (a b : Nat) (ha : a < 4611686018427387904) (hb : b < 4611686018427387904) : bits .or .i64 (a : Int) (b : Int) = ((a ||| b : Nat) : Int) := by
  have hx : a ||| b < 4611686018427387904 := Nat.or_lt_two_pow (n := 62) ha hb
  show IntKind.i64.wrap ((BitVec.ofInt 64 (a : Int) ||| BitVec.ofInt 64 (b : Int)).toNat : Int) = _
  rw [BitVec.toNat_or, bv64 a (by omega), bv64 b (by omega), IntKind.wrap_i64]
  omega
theorem and_one64 (a k : Nat) (ha : a < 4096) : ∃ b : Nat, b < 2 ∧ bits BinOp.and IntKind.i64 ((a : Int) / 2 ^ k) 1 = (b : Int) ∧ (b = 1 ↔ a.testBit k = true) := by
  refine ⟨a / 2 ^ k % 2, Nat.mod_lt _ (by decide), ?_, ?_⟩
  · have h1 : ((a : Int) / 2 ^ k) = ((a / 2 ^ k : Nat) : Int) := by push_cast; rfl
    have h2 : a / 2 ^ k < 4096 := Nat.lt_of_le_of_lt (Nat.div_le_self _ _) ha
    rw [h1]
    have := and_i64 (a / 2 ^ k) 1 (by omega) (by decide)
    rw [Nat.and_one_is_mod] at this
    exact this
  · rw [Nat.testBit_eq_decide_div_mod_eq]; simp
set_option maxRecDepth 100000 in
set_option maxHeartbeats 2000000 in
theorem refList24 {w : World} {S : Nat} (hS : S < 4096) : Calls Tryd.prog 24 #[.int .i64 (S : Int)] w (Made w (natI (bl S))) := by
  have hlit := Lib.hid (Ints.lit w w.heap.size (Nat.le_refl _))
  have hal := Lib.hid (below_alloc1 w (.cells #[] 3))
  have hsn := Lib.hid (fun k => show natI (blK S (k + 1)) = natI (blK S k) ++ if S.testBit k then [(k : Int)] else [] from by
    rw [blK_succ]; cases S.testBit k <;> simp [natI])
  have hln := Lib.hid (fun k => show (natI (blK S k)).length ≤ k from by unfold natI; rw [List.length_map]; exact blK_len S k)
  go_enter Tryd.func24, Tryd.ntmps24
  go_wp2
  go_loopw [3, 4] (fun p iv wr => ∃ k : Nat, k ≤ 12 ∧ iv = .int .i64 (k : Int) ∧ Hid (Ints wr w.heap.size p (natI (blK S k))) ∧ Hid (Below w.heap.size w wr)) (fun _ iv _ => 12 - (intOf iv).toNat)
  case atStart => exact ⟨0, by omega, rfl, hlit, hal⟩
  case round =>
    obtain ⟨k, hk, rfl, hp, hb⟩ := hrel
    obtain ⟨ap, cp, rfl, -⟩ := id hp.out.shape
    obtain ⟨ln, hl⟩ : ∃ ln, ln = (natI (blK S k)).length := ⟨_, rfl⟩
    have hll := Lib.hid (show (natI (blK S k)).length ≤ 12 from Nat.le_trans (hln.out k) hk)
    rw [← hl] at hp ⊢
    clear hl
    have hq : ((S : Int) / 2 ^ k) = ((S / 2 ^ k : Nat) : Int) := by push_cast; rfl
    by_cases h0 : S / 2 ^ k = 0
    · have hfin := Lib.hid (blK_all h0 hk)
      have hd : decide (((S : Int) / 2 ^ k) > 0) = false := decide_eq_false (by rw [hq, h0]; decide)
      clear hq h0
      go_wp2
      go_ret
      exact ⟨_, rfl, by rw [← hfin.out]; exact hp.out, hb.out⟩
    · have hk12 : k < 12 := by
        rcases Nat.lt_or_ge k 12 with h | h
        · exact h
        · exact absurd (shr_zero hS h) h0
      have hd : decide (((S : Int) / 2 ^ k) > 0) = true := decide_eq_true (by rw [hq]; have := Nat.pos_of_ne_zero h0; omega)
      obtain ⟨b, hb2, hbe, hbt⟩ := and_one64 S k hS
      have hs2 := hsn.out k
      have hbt' := Lib.hid hbt
      clear hq h0 hbt
      rcases (show b = 1 ∨ b = 0 by omega) with rfl | rfl
      · have hs3 := Lib.hid (show natI (blK S (k + 1)) = natI (blK S k) ++ [(k : Int)] from by rw [hs2, if_pos (hbt'.out.1 rfl)])
        clear hs2
        go_wp2_with (at_builtin; refine app_int hp.out (by have := hll.out; omega) hb.out.size rfl _ _ rfl rfl rfl ?_; intro v5 w5 ho5 hb5; have ho5' := Lib.hid ho5; have hb5' := Lib.hid (hb.out.trans hb5); clear ho5 hb5)
        go_roundw
        case rel => exact ⟨k + 1, by omega, by go_num, Lib.hid (by rw [hs3.out]; exact ho5'.out), hb5'⟩
        case measure => simp [intOf]; omega
      · have hs3 := Lib.hid (show natI (blK S (k + 1)) = natI (blK S k) from by rw [hs2, if_neg (fun h => by have := hbt'.out.2 h; omega), List.append_nil])
        clear hs2
        go_wp2
        go_roundw
        case rel => exact ⟨k + 1, by omega, by go_num, Lib.hid (by rw [hs3.out]; exact hp.out), hb⟩
        case measure => simp [intOf]; omega

attribute [local go_sem] Oper.semAt_some

set_option maxRecDepth 100000 in
/-- append(s, src...), at one step of a region that draws its order. -/
theorem step_many {ops : Array Oper} {o : Oper} {a : Act} {w : World} {K : Act → World → Prop} {Q : Exit → Act → World → Prop} {E : Prop} {B n z bytes : Nat} {v : Value} {xs : List Value} {t e : TypeId} {i0 : TypeInfo} {zv : Value}
    (ht : Tryd.prog.underlying t = some (.slice e)) (hi : Tryd.prog.info? e = some i0) (hz0 : i0.zero = some zv) (hz1 : i0.size = z) (hz2 : i0.bytes = bytes) (hzc : zv.cells.size = z) (hz : 0 < z) (hby : bytes ≤ 100)
    (hg : o.guard = none) (s x : Operand) (hop : o.op = Op.call { callee := Callee.builtin Builtin.append, args := #[s, x], argTypes := #[t, t] })
    (hown : w.ownsRow B e z v n xs) (hs : a.eval s = v) (g p m c : Nat) (hx : a.eval x = .slice (some ⟨g, p, none⟩) m c) (cs : List Value) (hl : cs.length = m * z) (hc : ∀ j u, cs[j]? = some u → w.cell? ⟨g, p + j, none⟩ = some u) (h1 : ∀ u ∈ cs, u.oneCell' = true) (hlen : n + m ≤ 999999) (hB : B ≤ w.heap.size)
    (hK : ∀ v' w', w'.ownsRow B e z v' (n + m) (xs ++ cs) → Below B w w' → (∀ q j u, some q ≠ v.ownBlock → w.cell? ⟨q, j, none⟩ = some u → w'.cell? ⟨q, j, none⟩ = some u) → K (a.put o.dst v') w') :
    if Region.wanted o (yielded ops a.tmps) = true then Oper.wp Tryd.prog o a w K Q else E := by
  have hw : Region.wanted o (yielded ops a.tmps) = true := by simp [Region.wanted, hg]
  rw [if_pos hw]
  have hc2 : ∀ j u, cs[j]? = some u → w.cell? ((⟨g, p, none⟩ : Addr).add j) = some u := by
    intro j u hj
    rw [show (⟨g, p, none⟩ : Addr).add j = ⟨g, p + j, none⟩ from by simp [Addr.add]]; exact hc j u hj
  obtain ⟨v', w', hrun, r1, r2, _⟩ := run_append_own (P := Tryd.prog) w B t o.type e i0 zv z bytes ht hi hz0 hz1 hz2 hzc hz v n xs hown ⟨g, p, none⟩ m c cs hl hc2 h1 (by unfold maxLen; omega) (by have := Nat.mul_le_mul (show n + m ≤ 1000000 by omega) hby; omega) hB
  unfold Oper.wp
  simp [execOp, hop, resolve, invoke, builtin, hs, hx, hrun, Result.andThen]
  refine hK v' w' r1 ((Below.refl B w).grown r2 hB (fun k hk => (World.ownsRow.lt hown k hk).1)) ?_
  intro q j u hq hcq
  have hlt : q < w.heap.size := by have := World.block_lt_of_cell? w _ hcq; simpa using this
  have := r2.block q hlt hq
  rw [← hcq]
  simp only [World.cell?, this]
theorem ins_getD {α : Type} (l : List α) (k : Nat) (x d : α) (hk : k ≤ l.length) (j : Nat) : (l.take k ++ [x] ++ l.drop k).getD j d = if j < k then l.getD j d else if j = k then x else l.getD (j - 1) d := by
  simp only [List.getD_eq_getElem?_getD, List.append_assoc]
  rw [List.getElem?_append]
  simp only [List.length_take, Nat.min_eq_left hk]
  by_cases h : j < k
  · rw [if_pos h, if_pos h, List.getElem?_take, if_pos h]
  · rw [if_neg h, if_neg h]
    by_cases e : j = k
    · subst e; simp
    · rw [if_neg e, List.getElem?_append, if_neg (by simp; omega), List.getElem?_drop]
      simp only [List.length_cons, List.length_nil]
      congr 2; omega
theorem own_step {w : World} {B : Nat} {v : Value} {vs : List Value} {xss : List (List Int)} {u : Value} {ys : List Int} {k : Nat} (hk : k ≤ vs.length) (hl : vs.length = xss.length)
    (hown : w.ownsRow B 24 1 v (vs.length + 1) (vs.take k ++ [u] ++ vs.drop k)) (hr : ∀ j, j < vs.length → Ints w B (vs.getD j undef) (xss.getD j [])) (hu : Ints w B u ys) : OwnG w B v (xss.take k ++ [ys] ++ xss.drop k) := by
  have hlen : (vs.take k ++ [u] ++ vs.drop k).length = vs.length + 1 := by simp; omega
  refine ⟨vs.take k ++ [u] ++ vs.drop k, by rw [hlen]; exact hown, by rw [hlen]; simp; omega, fun j hj => ?_⟩
  rw [hlen] at hj
  rw [ins_getD _ _ _ _ hk, ins_getD _ _ _ _ (by omega)]
  by_cases h : j < k
  · rw [if_pos h, if_pos h]; exact hr j (by omega)
  · rw [if_neg h, if_neg h]
    by_cases e : j = k
    · rw [if_pos e, if_pos e]; exact hu
    · rw [if_neg e, if_neg e]; exact hr _ (by omega)
theorem insL_at {out : List (List Int)} {l : List Int} {k : Nat} (hk : k ≤ out.length) (h1 : ∀ j, j < k → ltL (out.getD j []) l = true) (h2 : k < out.length → ltL (out.getD k []) l = false) : insL out l = out.take k ++ [l] ++ out.drop k := by
  have key : ∀ (k : Nat) (out : List (List Int)), k ≤ out.length → (∀ j, j < k → ltL (out.getD j []) l = true) → (k < out.length → ltL (out.getD k []) l = false) → out.takeWhile (fun x => ltL x l) = out.take k ∧ out.dropWhile (fun x => ltL x l) = out.drop k := by
    intro k
    induction k with
    | zero =>
      intro out _ _ h2
      cases out with
      | nil => simp
      | cons x out =>
        have := h2 (by simp)
        simp only [List.getD_cons_zero] at this
        simp [this]
    | succ k ih =>
      intro out hk h1 h2
      cases out with
      | nil => simp at hk
      | cons x out =>
        have h0 := h1 0 (by omega)
        simp only [List.getD_cons_zero] at h0
        obtain ⟨e1, e2⟩ := ih out (by simpa using hk) (fun j hj => by simpa using h1 (j + 1) (by omega)) (fun h => by simpa using h2 (by simp; omega))
        simp [h0, e1, e2]
  obtain ⟨e1, e2⟩ := key k out hk h1 h2
  unfold insL
  rw [e1, e2]; simp
theorem lit_rows (w : World) (B g : Nat) (hB : B ≤ w.heap.size) (hg : g = w.heap.size) : (w.alloc (.cells #[] 24)).ownsRow B 24 1 (.slice (some ⟨g, 0, none⟩) 0 0) 0 [] := by
  rw [hg]
  exact ⟨rfl, .inr ⟨w.heap.size, 0, #[], rfl, hB, heap_alloc_new w _, Nat.zero_le _, by unfold maxLen; omega, rfl, by simp⟩⟩
theorem own_drew {W : World} {B e sz n : Nat} {v : Value} {xs : List Value} (h : W.ownsRow B e sz v n xs) : W.drew.ownsRow B e sz v n xs := own_below h (Below.refl _ _).drew
/-- The rows so far. -/
def srtK (xss : List (List Int)) (k : Nat) : List (List Int) := (xss.take k).foldl insL []
theorem srtK_succ {xss : List (List Int)} {k : Nat} (h : k < xss.length) : srtK xss (k + 1) = insL (srtK xss k) (xss.getD k []) := by
  unfold srtK
  rw [List.take_succ_eq_append_getElem h, List.foldl_append, List.getD_eq_getElem?_getD, List.getElem?_eq_getElem h]; rfl
theorem srtK_all (xss : List (List Int)) : srtK xss xss.length = srt xss := by unfold srtK srt; rw [List.take_length]
theorem srtK_perm (xss : List (List Int)) (k : Nat) : (srtK xss k).Perm (xss.take k) := by
  unfold srtK
  have := (srt_go (xss.take k) [] (by simp)).2
  simpa using this
theorem srtK_len {xss : List (List Int)} {k : Nat} (h : k ≤ xss.length) : (srtK xss k).length = k := by
  rw [(srtK_perm xss k).length_eq, List.length_take]; omega

attribute [local go_sem] Oper.semAt_some

theorem OwnG.val {w : World} {B : Nat} {v : Value} {xss : List (List Int)} (h : OwnG w B v xss) (hne : xss ≠ []) : ∃ b cap, v = .slice (some ⟨b, 0, none⟩) xss.length cap := by
  obtain ⟨vs, ho, hl, _⟩ := h
  rcases ho.2 with ⟨_, h2⟩ | ⟨g, cap, cur, rfl, _⟩
  · exact absurd (List.length_eq_zero_iff.1 (hl.symm.trans h2)) hne
  · exact ⟨g, cap, by rw [hl]⟩
theorem shape_one {w : World} {B : Nat} {v : Value} {xs : List Int} (h : Ints w B v xs) : v.oneCell' = true := by
  obtain ⟨ao, c, rfl, _⟩ := h.shape; rfl
theorem own_one {w : World} {B : Nat} {vs : List Value} {xss : List (List Int)} (h : ∀ j, j < vs.length → Ints w B (vs.getD j undef) (xss.getD j [])) : ∀ u ∈ vs, u.oneCell' = true := by
  intro u hu
  obtain ⟨j, hj, rfl⟩ := List.getElem_of_mem hu
  have := h j hj
  rw [List.getD_eq_getElem?_getD, List.getElem?_eq_getElem hj] at this
  exact shape_one this
theorem one_at {W : World} {g : Nat} {u : Value} (h : W.cell? ⟨g, 0, none⟩ = some u) : ∀ j x, ([u] : List Value)[j]? = some x → W.cell? ⟨g, 0 + j, none⟩ = some x := by
  intro j x hj
  rcases j with _ | j
  · simp at hj; subst hj; exact h
  · simp at hj
theorem one_new (w : World) (u : Value) (t : TypeId) : (w.alloc (.cells #[u] t)).cell? ⟨w.heap.size, 0, none⟩ = some u := by
  rw [World.cell?_alloc_at (hn := rfl)]; rfl
theorem slice_one (a : Option Addr) (n c : Nat) : ∀ u ∈ ([.slice a n c] : List Value), u.oneCell' = true := by
  intro u hu; simp at hu; subst hu; rfl
theorem lists_eq (Z : List Nat) : lists Z = srt (Z.map fun S => natI (bl S)) := rfl
theorem natI_get {Z : List Nat} {i : Nat} (h : i < Z.length) : (natI Z).getD i 0 = ((Z.getD i 0 : Nat) : Int) := by simp [natI, List.getD_eq_getElem?_getD, h]
theorem rows_get {Z : List Nat} {i : Nat} (h : i < Z.length) : (Z.map fun S => natI (bl S)).getD i [] = natI (bl (Z.getD i 0)) := by simp [List.getD_eq_getElem?_getD, h]
set_option maxHeartbeats 8000000 in
set_option maxRecDepth 100000 in
theorem refLists30 {w : World} {v : Value} {Z : List Nat} (hv : Reads w v (natI Z)) (hZ : ∀ S ∈ Z, S < 4096) (hlen : Z.length ≤ 5000) :
    Calls Tryd.prog 30 #[v] w (ListsEnd w (lists Z)) := by
  obtain ⟨ao, c, rfl, hnc⟩ := hv.len
  obtain ⟨N, hN⟩ : ∃ N, N = Z.length := ⟨_, rfl⟩
  have hZl : (natI Z).length = N := by rw [hN]; simp [natI]
  rw [hZl] at hv hnc ⊢
  have hv' := Lib.hid hv
  have hN' := Lib.hid hN
  have hZl' := Lib.hid hZl
  rw [← hN] at hlen
  have hlt := Lib.hid (fun (i : Nat) (h : i < N) => show Z.getD i 0 < 4096 from by
    rw [hN] at h
    rw [List.getD_eq_getElem?_getD, List.getElem?_eq_getElem h]
    exact hZ _ (List.getElem_mem _))
  have hRl : (Z.map fun S => natI (bl S)).length = N := by rw [List.length_map, hN]
  have hend := Lib.hid (show lists Z = srtK (Z.map fun S => natI (bl S)) N from by rw [lists_eq, ← hRl, srtK_all])
  have hsu := Lib.hid (fun (i : Nat) (h : i < N) => show srtK (Z.map fun S => natI (bl S)) (i + 1) = insL (srtK (Z.map fun S => natI (bl S)) i) (natI (bl (Z.getD i 0))) from by
    rw [srtK_succ (by rw [hRl]; exact h), rows_get (by omega)])
  have hsl := Lib.hid (fun (i : Nat) (h : i ≤ N) => srtK_len (xss := Z.map fun S => natI (bl S)) (k := i) (by rw [hRl]; exact h))
  have hzg := Lib.hid (fun (i : Nat) (h : i < N) => natI_get (Z := Z) (i := i) (by omega))
  have hrl := Lib.hid (fun (i j : Nat) => show ((srtK (Z.map fun S => natI (bl S)) i).getD j []).length ≤ 1000000 from by
    by_cases h : j < (srtK (Z.map fun S => natI (bl S)) i).length
    · rw [List.getD_eq_getElem?_getD, List.getElem?_eq_getElem h]
      have hm := (srtK_perm (Z.map fun S => natI (bl S)) i).mem_iff.1 (List.getElem_mem h)
      obtain ⟨S, _, e⟩ := List.mem_map.1 (List.mem_of_mem_take hm)
      show ((srtK (Z.map fun S => natI (bl S)) i)[j]).length ≤ 1000000
      rw [← e]; exact natI_le S
    · rw [List.getD_eq_getElem?_getD, List.getElem?_eq_none (by omega)]; simp)
  clear hv hN hZl hZ hRl
  generalize srtK (Z.map fun S => natI (bl S)) = SK at hend hsu hsl hrl
  have hz0 := Lib.hid (show SK 0 = [] from List.length_eq_zero_iff.1 (hsl.out 0 (Nat.zero_le _)))
  have hl0 := Lib.hid (OwnG.lit w w.heap.size (Nat.le_refl _))
  have hal := Lib.hid (below_alloc1 w (.cells #[] 40))
  have hal2 := Lib.hid (below_alloc1 w (.cells #[] 24))
  go_enter Tryd.func30, Tryd.ntmps30
  go_wp2_with fail
  go_loopw [3, 4] (fun p iv wr => ∃ i : Nat, i ≤ N ∧ iv = .int .i64 (i : Int) ∧ Hid (OwnG wr w.heap.size p (SK i)) ∧ Hid (∃ b cap, p = .slice (some ⟨b, 0, none⟩) i cap) ∧ Hid (Below w.heap.size w wr)) (fun _ iv _ => N - (intOf iv).toNat)
  case atStart => exact ⟨0, Nat.zero_le _, rfl, by rw [hz0.out]; exact hl0, Lib.hid ⟨_, _, rfl⟩, hal2⟩
  case round =>
    obtain ⟨i, hi, rfl, hout, hpv, hbw⟩ := hrel
    obtain ⟨bo, cap, rfl⟩ := hpv.out
    by_cases hiN : i < N
    · obtain ⟨f, q, rfl, hf, hc3⟩ := hv'.out.at hZl'.out hiN
      have c3 := (hbw.out.cell (p := ⟨f, q + i, none⟩) hf).trans (hc3 i hiN)
      rw [hzg.out i hiN] at c3
      have hS4 := hlt.out i hiN
      have hsu2 := hsu.out i hiN
      generalize Z.getD i 0 = S at c3 hS4 hsu2
      have h24 := Lib.hid (refList24 (w := wr) hS4)
      have hsu3 := Lib.hid hsu2
      have hiI : (i : Int) < N := by omega
      have hi5 : i ≤ 5000 := by omega
      have hys := Lib.hid (natI_le S)
      have hsl2 := Lib.hid (hsl.out (i + 1) (by omega))
      clear hc3 hS4 hsu2
      generalize natI (bl S) = ys at h24 hsu3 hys
      go_wp2_with (go_at_call 24; refine h24.out.mono ?_; rintro e w5 ⟨v5, rfl, hy, hb5⟩; obtain ⟨a5, c5, rfl, -⟩ := id hy.shape; obtain ⟨ly, hly⟩ : ∃ l, l = ys.length := ⟨_, rfl⟩; rw [← hly] at hy ⊢; have hly' := Lib.hid hly; clear hly; have hy5 := Lib.hid (Ints.base hy hbw.out.size); have hb5' := Lib.hid (below_call hbw.out hb5); have ho5 := Lib.hid (hout.out.below hb5); clear hy hb5 h24)
      have hG5 := Lib.hid ho5.out.shape
      have hO := hsl.out i hi
      have hrl2 := Lib.hid (fun j => hrl.out i j)
      generalize SK i = O at ho5 hG5 hO hsu3 hrl2 hout
      have hO' := Lib.hid hO
      have hcap := Lib.hid (show i ≤ cap from by obtain ⟨_, _, e, h, _⟩ := hG5.out; rw [hO] at h; injection e with _ _ e3; rw [e3]; exact h)
      clear hO
      go_loopw [6] (fun kv wr => ∃ k : Nat, k ≤ i ∧ kv = .int .i64 (k : Int) ∧ Hid (∀ j, j < k → ltL (O.getD j []) ys = true) ∧ Hid (Below w5.heap.size w5 wr)) (fun kv _ => i - (intOf kv).toNat)
      case atStart => exact ⟨0, Nat.zero_le _, rfl, Lib.hid (fun j hj => absurd hj (Nat.not_lt_zero j)), Lib.hid (Below.refl _ _)⟩
      case round =>
        obtain ⟨k, hk, rfl, hlo, hbk⟩ := hrel

        by_cases hki : k < i
        · obtain ⟨g, of, e6, hg, ro, rc, c1, hR1⟩ := hG5.out.at hO'.out hki
          obtain ⟨rfl, rfl⟩ : bo = g ∧ 0 = of := by injection e6 with e7; injection e7 with e8 e9; exact ⟨e8, e9⟩
          rw [Nat.zero_add] at c1
          have cx := (hbk.out.cell (p := ⟨bo, k, none⟩) hg).trans c1
          have hlx := hrl2.out k
          have hput := Lib.hid (fun (h : ltL (O.getD k []) ys = false) => insL_at (out := O) (l := ys) (k := k) (by rw [hO'.out]; exact hk) hlo.out (fun _ => h))
          have hnx := Lib.hid (show ltL (O.getD k []) ys = true → ∀ j, j < k + 1 → ltL (O.getD j []) ys = true from fun h j hj => by
            rcases Nat.lt_succ_iff_lt_or_eq.1 hj with h2 | h2
            · exact hlo.out j h2
            · rw [h2]; exact h)
          generalize O.getD k [] = x at cx hR1 hlx hput hnx
          have h61 := Lib.hid (show Calls Tryd.prog 61 #[.slice ro x.length rc, .slice a5 ly c5] wr (BoolEnd wr (ltL x ys)) from less61 (hR1.below hbk.out) ((hy5.out.below hbk.out).shape) hlx)
          have hkI : (k : Int) < i := by omega
          clear c1 hlx hR1 e6
          generalize x.length = xl at cx h61
          cases hlt3 : ltL x ys
          · have hput2 := Lib.hid (hput.out hlt3)
            rw [hlt3] at h61
            have hck : ¬ cap = k := by have := hcap.out; omega
            clear hlt3 hput hnx
            have hput := hput2
            go_wp2_with (go_at_call 61; refine h61.out.mono ?_; rintro e w6 ⟨rfl, hb⟩; have hb6 := Lib.hid (below_call hbk.out hb); clear hb h61)
            have hbN := Lib.hid (below_call hb5'.out hb6.out)
            obtain ⟨vs, hown, hvl, hrows⟩ := id (ho5.out.below hb6.out)
            have hy6 := Lib.hid (hy5.out.below hb6.out)
            have hvi : vs.length = i := hvl.trans hO'.out
            rw [hvi] at hown hrows
            obtain ⟨_, _, e1, _, hcell⟩ := id (own_cells hown)
            have hown' := Lib.hid hown
            have hrows' := Lib.hid hrows
            have hone := Lib.hid (own_one (xss := O) (fun j hj => hrows j (by omega)))
            have hvi' := Lib.hid hvi
            have hvl' := Lib.hid hvl
            have hcl := Lib.hid (show ∀ j u, vs[j]? = some u → w6.cell? ⟨bo, j, none⟩ = some u from fun j u hj => by
              obtain ⟨g, e2, _, _, hc⟩ := hcell (fun h0 => by have := (List.getElem?_eq_some_iff.1 hj).1; omega)
              simp only [Value.slice.injEq] at e1
              rw [e1.1.symm] at e2
              simp only [Option.some.injEq, Addr.mk.injEq] at e2
              rw [e2.1]; exact hc j u hj)
            clear hown hrows hvi hvl hcell e1
            have hkp : (k : Int) ≤ (cap : Int) := by have := hcap.out; omega
            have A1 := Lib.hid (own_drew (lit_rows w6 w6.heap.size w6.heap.size (Nat.le_refl _) rfl))
            have bA := Lib.hid (((Below.refl w6.heap.size w6).alloc (Nat.le_refl _) (.cells #[] 24)).drew)
            have B1 := Lib.hid (own_drew (own_below (lit_rows w6 w6.heap.size w6.heap.size (Nat.le_refl _) rfl) (below_alloc1 _ (.cells #[.slice a5 ly c5] 24))))
            have bB := Lib.hid ((((Below.refl w6.heap.size w6).alloc (Nat.le_refl _) (.cells #[] 24)).alloc (by simp) (.cells #[.slice a5 ly c5] 24)).drew)
            have C1 := Lib.hid (own_drew (lit_rows (w6.alloc (.cells #[.slice a5 ly c5] 24)) w6.heap.size (w6.heap.size + 1) (by simp) (by simp)))
            have bC := Lib.hid ((((Below.refl w6.heap.size w6).alloc (Nat.le_refl _) (.cells #[.slice a5 ly c5] 24)).alloc (by simp) (.cells #[] 24)).drew)
            have cB := Lib.hid (show ((w6.alloc (.cells #[] 24)).alloc (.cells #[.slice a5 ly c5] 24)).drew.cell? ⟨w6.heap.size + 1, 0, none⟩ = some (.slice a5 ly c5) by
              rw [World.cell?_drew, World.cell?_alloc_at (hn := by simp)]; rfl)
            have cC := Lib.hid (show ((w6.alloc (.cells #[.slice a5 ly c5] 24)).alloc (.cells #[] 24)).drew.cell? ⟨w6.heap.size, 0, none⟩ = some (.slice a5 ly c5) by
              rw [World.cell?_drew]
              exact ((below_alloc1 (w6.alloc (.cells #[.slice a5 ly c5] 24)) (.cells #[] 24)).cell (p := ⟨w6.heap.size, 0, none⟩) (by simp)).trans (by rw [World.cell?_alloc_at (hn := rfl)]; rfl))
            have htl := Lib.hid (show (vs.take k).length = k * 1 from by rw [List.length_take, hvi'.out]; omega)
            have hdl := Lib.hid (show (vs.drop k).length = (i - k) * 1 from by rw [List.length_drop, hvi'.out]; omega)
            have ht1 := Lib.hid (show ∀ u ∈ vs.take k, u.oneCell' = true from fun u hu => hone.out u (List.mem_of_mem_take hu))
            have hd1 := Lib.hid (show ∀ u ∈ vs.drop k, u.oneCell' = true from fun u hu => hone.out u (List.mem_of_mem_drop hu))
            have hct := Lib.hid (fun (W : World) (h : Below w6.heap.size w6 W) (j : Nat) (u : Value) (hj : (vs.take k)[j]? = some u) => show W.cell? ⟨bo, 0 + j, none⟩ = some u from by
              have hj2 : vs[j]? = some u := by
                rw [List.getElem?_take] at hj
                split at hj
                · exact hj
                · cases hj
              have hcj := hcl.out j u hj2
              rw [Nat.zero_add]
              exact (h.cell (p := ⟨bo, j, none⟩) (by have := World.block_lt_of_cell? w6 _ hcj; simpa using this)).trans hcj)
            have hcd := Lib.hid (fun (W : World) (h : Below w6.heap.size w6 W) (j : Nat) (u : Value) (hj : (vs.drop k)[j]? = some u) => show W.cell? ⟨bo, k + j, none⟩ = some u from by
              have hj3 := (List.getElem?_eq_some_iff.1 hj).1
              rw [List.length_drop, hvi'.out] at hj3
              rw [List.getElem?_drop] at hj
              have hcj := hcl.out _ u hj
              have he : k = (k) := by omega
              rw [he]
              exact (h.cell (p := ⟨bo, k + j, none⟩) (by have := World.block_lt_of_cell? w6 _ hcj; simpa using this)).trans hcj)
            have hi1 := info_parts info24
            obtain ⟨i0, hi0, hz0, hz1, hz2⟩ := hi1
            go_region_law (first
              | (refine step_many Tryd.underlying40 hi0 hz0 hz1 hz2 rfl (by decide) (by decide) rfl (.tmp 33) (.tmp 36) rfl A1.out (by simp [Act.eval]) bo 0 k cap (by simp [Act.eval]) _ htl.out (hct.out _ bA.out) ht1.out (by omega) (by first | (simp; done) | (simp; omega)) ?_; intro v44 w44 h44 hb44 hk44; have b44 := bA.out.trans hb44)
              | (refine step_many Tryd.underlying40 hi0 hz0 hz1 hz2 rfl (by decide) (by decide) rfl (.tmp 33) (.tmp 36) rfl B1.out (by simp [Act.eval]) bo 0 k cap (by simp [Act.eval]) _ htl.out (hct.out _ bB.out) ht1.out (by omega) (by first | (simp; done) | (simp; omega)) ?_; intro v44 w44 h44 hb44 hk44; have b44 := bB.out.trans hb44; have hyc := hk44 _ 0 _ (by simp [Value.ownBlock]) cB.out)
              | (refine step_many Tryd.underlying40 hi0 hz0 hz1 hz2 rfl (by decide) (by decide) rfl (.tmp 33) (.tmp 36) rfl C1.out (by simp [Act.eval]) bo 0 k cap (by simp [Act.eval]) _ htl.out (hct.out _ bC.out) ht1.out (by omega) (by first | (simp; done) | (simp; omega)) ?_; intro v44 w44 h44 hb44 hk44; have b44 := bC.out.trans hb44; have hyc := hk44 _ 0 _ (by simp [Value.ownBlock]) cC.out)
              | (refine step_many Tryd.underlying40 hi0 hz0 hz1 hz2 rfl (by decide) (by decide) rfl (.tmp 37) (.tmp 39) rfl (own_below h44 (below_alloc1 _ _)) (by simp [Act.eval]) w44.heap.size 0 1 1 (by simp [Act.eval]) [.slice a5 ly c5] rfl (one_at (one_new _ _ _)) (slice_one _ _ _) (by omega) (by have := b44.size; simp; omega) ?_; intro v47 w47 h47 hb47 hk47; have b47 := (b44.alloc b44.size _).trans hb47)
              | (refine step_many Tryd.underlying40 hi0 hz0 hz1 hz2 rfl (by decide) (by decide) rfl (.tmp 37) (.tmp 39) rfl h44 (by simp [Act.eval]) _ 0 1 1 (by simp [Act.eval]) [.slice a5 ly c5] rfl (one_at hyc) (slice_one _ _ _) (by omega) b44.size ?_; intro v47 w47 h47 hb47 hk47; have b47 := b44.trans hb47)
              | (refine step_many Tryd.underlying40 hi0 hz0 hz1 hz2 rfl (by decide) (by decide) rfl (.tmp 40) (.tmp 43) rfl h47 (by simp [Act.eval]) bo (k) (i - k) (cap - k) (by simp [Act.eval]) _ hdl.out (hcd.out _ b47) hd1.out (by omega) b47.size ?_; intro v51 w51 h51 hb51 hk51; have b51 := b47.trans hb51))
            all_goals
              have e51 : OwnG w51 w.heap.size v51 (SK (i + 1)) := by
                rw [hsu3.out, hput.out]
                refine own_step (vs := vs) (u := .slice a5 ly c5) (k := k) (by rw [hvi'.out]; exact hk) hvl'.out ?_ (fun j hj => Ints.below (hrows'.out j (by rw [← hvi'.out]; exact hj)) b51) (Ints.below hy6.out b51)
                have := own_base h51 hbN.out.size
                rw [show 0 + k + 1 + (i - k) = vs.length + 1 from by rw [hvi'.out]; omega] at this
                simpa using this
              obtain ⟨b5, c51, e5⟩ := e51.val (by intro e; have := hsl2.out; rw [e] at this; simp at this)
              rw [hsl2.out] at e5
              have h51' := Lib.hid e51
              have hp51 := Lib.hid (show ∃ b cap, v51 = .slice (some ⟨b, 0, none⟩) (i + 1) cap from ⟨_, _, e5⟩)
              have hb51' := Lib.hid (below_call hbN.out b51)
              clear h51 e51 e5 hb51 hk51 b51 h47 hb47 hk47 b47 h44 hb44 hk44 b44
              go_wp2_with fail
              go_roundw
            all_goals first
              | exact ⟨i + 1, by omega, by go_num, h51', hp51, hb51'⟩
              | (simp [intOf]; omega)
          · have hnx2 := Lib.hid (hnx.out hlt3)
            rw [hlt3] at h61
            clear hlt3 hput hnx
            go_wp2_with (go_at_call 61; refine h61.out.mono ?_; rintro e w6 ⟨rfl, hb⟩; have hb6 := Lib.hid (below_call hbk.out hb); clear hb h61)
            go_roundw
            case rel => exact ⟨k + 1, by omega, by go_num, hnx2, hb6⟩
            case measure => simp [intOf]; omega
        · have hkq := Lib.hid (show k = i from by omega)
          have hkI : ¬ (k : Int) < i := by omega
          have hput := Lib.hid (insL_at (out := O) (l := ys) (k := k) (by rw [hO'.out]; exact hk) hlo.out (fun h => by rw [hO'.out] at h; omega))
          by_cases hck : cap = k
          · subst hck
            go_wp2_with fail
            have hbN := Lib.hid (below_call hb5'.out hbk.out)
            obtain ⟨vs, hown, hvl, hrows⟩ := id (ho5.out.below hbk.out)
            have hy6 := Lib.hid (hy5.out.below hbk.out)
            have hvi : vs.length = i := hvl.trans hO'.out
            rw [hvi] at hown hrows
            obtain ⟨_, _, e1, _, hcell⟩ := id (own_cells hown)
            have hown' := Lib.hid hown
            have hrows' := Lib.hid hrows
            have hone := Lib.hid (own_one (xss := O) (fun j hj => hrows j (by omega)))
            have hvi' := Lib.hid hvi
            have hvl' := Lib.hid hvl
            have hcl := Lib.hid (show ∀ j u, vs[j]? = some u → wr.cell? ⟨bo, j, none⟩ = some u from fun j u hj => by
              obtain ⟨g, e2, _, _, hc⟩ := hcell (fun h0 => by have := (List.getElem?_eq_some_iff.1 hj).1; omega)
              simp only [Value.slice.injEq] at e1
              rw [e1.1.symm] at e2
              simp only [Option.some.injEq, Addr.mk.injEq] at e2
              rw [e2.1]; exact hc j u hj)
            clear hown hrows hvi hvl hcell e1
            have hkp : (cap : Int) ≤ (cap : Int) := by have := hcap.out; omega
            have A1 := Lib.hid (own_drew (lit_rows wr wr.heap.size wr.heap.size (Nat.le_refl _) rfl))
            have bA := Lib.hid (((Below.refl wr.heap.size wr).alloc (Nat.le_refl _) (.cells #[] 24)).drew)
            have B1 := Lib.hid (own_drew (own_below (lit_rows wr wr.heap.size wr.heap.size (Nat.le_refl _) rfl) (below_alloc1 _ (.cells #[.slice a5 ly c5] 24))))
            have bB := Lib.hid ((((Below.refl wr.heap.size wr).alloc (Nat.le_refl _) (.cells #[] 24)).alloc (by simp) (.cells #[.slice a5 ly c5] 24)).drew)
            have C1 := Lib.hid (own_drew (lit_rows (wr.alloc (.cells #[.slice a5 ly c5] 24)) wr.heap.size (wr.heap.size + 1) (by simp) (by simp)))
            have bC := Lib.hid ((((Below.refl wr.heap.size wr).alloc (Nat.le_refl _) (.cells #[.slice a5 ly c5] 24)).alloc (by simp) (.cells #[] 24)).drew)
            have cB := Lib.hid (show ((wr.alloc (.cells #[] 24)).alloc (.cells #[.slice a5 ly c5] 24)).drew.cell? ⟨wr.heap.size + 1, 0, none⟩ = some (.slice a5 ly c5) by
              rw [World.cell?_drew, World.cell?_alloc_at (hn := by simp)]; rfl)
            have cC := Lib.hid (show ((wr.alloc (.cells #[.slice a5 ly c5] 24)).alloc (.cells #[] 24)).drew.cell? ⟨wr.heap.size, 0, none⟩ = some (.slice a5 ly c5) by
              rw [World.cell?_drew]
              exact ((below_alloc1 (wr.alloc (.cells #[.slice a5 ly c5] 24)) (.cells #[] 24)).cell (p := ⟨wr.heap.size, 0, none⟩) (by simp)).trans (by rw [World.cell?_alloc_at (hn := rfl)]; rfl))
            have htl := Lib.hid (show (vs.take cap).length = cap * 1 from by rw [List.length_take, hvi'.out]; omega)
            have hdl := Lib.hid (show (vs.drop cap).length = (i - cap) * 1 from by rw [List.length_drop, hvi'.out]; omega)
            have ht1 := Lib.hid (show ∀ u ∈ vs.take cap, u.oneCell' = true from fun u hu => hone.out u (List.mem_of_mem_take hu))
            have hd1 := Lib.hid (show ∀ u ∈ vs.drop cap, u.oneCell' = true from fun u hu => hone.out u (List.mem_of_mem_drop hu))
            have hct := Lib.hid (fun (W : World) (h : Below wr.heap.size wr W) (j : Nat) (u : Value) (hj : (vs.take cap)[j]? = some u) => show W.cell? ⟨bo, 0 + j, none⟩ = some u from by
              have hj2 : vs[j]? = some u := by
                rw [List.getElem?_take] at hj
                split at hj
                · exact hj
                · cases hj
              have hcj := hcl.out j u hj2
              rw [Nat.zero_add]
              exact (h.cell (p := ⟨bo, j, none⟩) (by have := World.block_lt_of_cell? wr _ hcj; simpa using this)).trans hcj)
            have hcd := Lib.hid (fun (W : World) (h : Below wr.heap.size wr W) (j : Nat) (u : Value) (hj : (vs.drop cap)[j]? = some u) => show W.cell? ⟨bo, 0 + j, none⟩ = some u from by
              have hj3 := (List.getElem?_eq_some_iff.1 hj).1
              rw [List.length_drop, hvi'.out] at hj3
              rw [List.getElem?_drop] at hj
              have hcj := hcl.out _ u hj
              have he : 0 = (cap) := by have := hkq.out; omega
              rw [he]
              exact (h.cell (p := ⟨bo, cap + j, none⟩) (by have := World.block_lt_of_cell? wr _ hcj; simpa using this)).trans hcj)
            have hi1 := info_parts info24
            obtain ⟨i0, hi0, hz0, hz1, hz2⟩ := hi1
            go_region_law (first
              | (refine step_many Tryd.underlying40 hi0 hz0 hz1 hz2 rfl (by decide) (by decide) rfl (.tmp 33) (.tmp 36) rfl A1.out (by simp [Act.eval]) bo 0 cap cap (by simp [Act.eval]) _ htl.out (hct.out _ bA.out) ht1.out (by omega) (by first | (simp; done) | (simp; omega)) ?_; intro v44 w44 h44 hb44 hk44; have b44 := bA.out.trans hb44)
              | (refine step_many Tryd.underlying40 hi0 hz0 hz1 hz2 rfl (by decide) (by decide) rfl (.tmp 33) (.tmp 36) rfl B1.out (by simp [Act.eval]) bo 0 cap cap (by simp [Act.eval]) _ htl.out (hct.out _ bB.out) ht1.out (by omega) (by first | (simp; done) | (simp; omega)) ?_; intro v44 w44 h44 hb44 hk44; have b44 := bB.out.trans hb44; have hyc := hk44 _ 0 _ (by simp [Value.ownBlock]) cB.out)
              | (refine step_many Tryd.underlying40 hi0 hz0 hz1 hz2 rfl (by decide) (by decide) rfl (.tmp 33) (.tmp 36) rfl C1.out (by simp [Act.eval]) bo 0 cap cap (by simp [Act.eval]) _ htl.out (hct.out _ bC.out) ht1.out (by omega) (by first | (simp; done) | (simp; omega)) ?_; intro v44 w44 h44 hb44 hk44; have b44 := bC.out.trans hb44; have hyc := hk44 _ 0 _ (by simp [Value.ownBlock]) cC.out)
              | (refine step_many Tryd.underlying40 hi0 hz0 hz1 hz2 rfl (by decide) (by decide) rfl (.tmp 37) (.tmp 39) rfl (own_below h44 (below_alloc1 _ _)) (by simp [Act.eval]) w44.heap.size 0 1 1 (by simp [Act.eval]) [.slice a5 ly c5] rfl (one_at (one_new _ _ _)) (slice_one _ _ _) (by omega) (by have := b44.size; simp; omega) ?_; intro v47 w47 h47 hb47 hk47; have b47 := (b44.alloc b44.size _).trans hb47)
              | (refine step_many Tryd.underlying40 hi0 hz0 hz1 hz2 rfl (by decide) (by decide) rfl (.tmp 37) (.tmp 39) rfl h44 (by simp [Act.eval]) _ 0 1 1 (by simp [Act.eval]) [.slice a5 ly c5] rfl (one_at hyc) (slice_one _ _ _) (by omega) b44.size ?_; intro v47 w47 h47 hb47 hk47; have b47 := b44.trans hb47)
              | (refine step_many Tryd.underlying40 hi0 hz0 hz1 hz2 rfl (by decide) (by decide) rfl (.tmp 40) (.tmp 43) rfl h47 (by simp [Act.eval]) bo (0) (i - cap) (cap - cap) (by simp [Act.eval]) _ hdl.out (hcd.out _ b47) hd1.out (by omega) b47.size ?_; intro v51 w51 h51 hb51 hk51; have b51 := b47.trans hb51))
            all_goals
              have e51 : OwnG w51 w.heap.size v51 (SK (i + 1)) := by
                rw [hsu3.out, hput.out]
                refine own_step (vs := vs) (u := .slice a5 ly c5) (k := cap) (by rw [hvi'.out]; exact hk) hvl'.out ?_ (fun j hj => Ints.below (hrows'.out j (by rw [← hvi'.out]; exact hj)) b51) (Ints.below hy6.out b51)
                have := own_base h51 hbN.out.size
                rw [show 0 + cap + 1 + (i - cap) = vs.length + 1 from by rw [hvi'.out]; omega] at this
                simpa using this
              obtain ⟨b5, c51, e5⟩ := e51.val (by intro e; have := hsl2.out; rw [e] at this; simp at this)
              rw [hsl2.out] at e5
              have h51' := Lib.hid e51
              have hp51 := Lib.hid (show ∃ b cap, v51 = .slice (some ⟨b, 0, none⟩) (i + 1) cap from ⟨_, _, e5⟩)
              have hb51' := Lib.hid (below_call hbN.out b51)
              clear h51 e51 e5 hb51 hk51 b51 h47 hb47 hk47 b47 h44 hb44 hk44 b44
              go_wp2_with fail
              go_roundw
            all_goals first
              | exact ⟨i + 1, by omega, by go_num, h51', hp51, hb51'⟩
              | (simp [intOf]; omega)
          · go_wp2_with fail
            have hbN := Lib.hid (below_call hb5'.out hbk.out)
            obtain ⟨vs, hown, hvl, hrows⟩ := id (ho5.out.below hbk.out)
            have hy6 := Lib.hid (hy5.out.below hbk.out)
            have hvi : vs.length = i := hvl.trans hO'.out
            rw [hvi] at hown hrows
            obtain ⟨_, _, e1, _, hcell⟩ := id (own_cells hown)
            have hown' := Lib.hid hown
            have hrows' := Lib.hid hrows
            have hone := Lib.hid (own_one (xss := O) (fun j hj => hrows j (by omega)))
            have hvi' := Lib.hid hvi
            have hvl' := Lib.hid hvl
            have hcl := Lib.hid (show ∀ j u, vs[j]? = some u → wr.cell? ⟨bo, j, none⟩ = some u from fun j u hj => by
              obtain ⟨g, e2, _, _, hc⟩ := hcell (fun h0 => by have := (List.getElem?_eq_some_iff.1 hj).1; omega)
              simp only [Value.slice.injEq] at e1
              rw [e1.1.symm] at e2
              simp only [Option.some.injEq, Addr.mk.injEq] at e2
              rw [e2.1]; exact hc j u hj)
            clear hown hrows hvi hvl hcell e1
            have hkp : (k : Int) ≤ (cap : Int) := by have := hcap.out; omega
            have A1 := Lib.hid (own_drew (lit_rows wr wr.heap.size wr.heap.size (Nat.le_refl _) rfl))
            have bA := Lib.hid (((Below.refl wr.heap.size wr).alloc (Nat.le_refl _) (.cells #[] 24)).drew)
            have B1 := Lib.hid (own_drew (own_below (lit_rows wr wr.heap.size wr.heap.size (Nat.le_refl _) rfl) (below_alloc1 _ (.cells #[.slice a5 ly c5] 24))))
            have bB := Lib.hid ((((Below.refl wr.heap.size wr).alloc (Nat.le_refl _) (.cells #[] 24)).alloc (by simp) (.cells #[.slice a5 ly c5] 24)).drew)
            have C1 := Lib.hid (own_drew (lit_rows (wr.alloc (.cells #[.slice a5 ly c5] 24)) wr.heap.size (wr.heap.size + 1) (by simp) (by simp)))
            have bC := Lib.hid ((((Below.refl wr.heap.size wr).alloc (Nat.le_refl _) (.cells #[.slice a5 ly c5] 24)).alloc (by simp) (.cells #[] 24)).drew)
            have cB := Lib.hid (show ((wr.alloc (.cells #[] 24)).alloc (.cells #[.slice a5 ly c5] 24)).drew.cell? ⟨wr.heap.size + 1, 0, none⟩ = some (.slice a5 ly c5) by
              rw [World.cell?_drew, World.cell?_alloc_at (hn := by simp)]; rfl)
            have cC := Lib.hid (show ((wr.alloc (.cells #[.slice a5 ly c5] 24)).alloc (.cells #[] 24)).drew.cell? ⟨wr.heap.size, 0, none⟩ = some (.slice a5 ly c5) by
              rw [World.cell?_drew]
              exact ((below_alloc1 (wr.alloc (.cells #[.slice a5 ly c5] 24)) (.cells #[] 24)).cell (p := ⟨wr.heap.size, 0, none⟩) (by simp)).trans (by rw [World.cell?_alloc_at (hn := rfl)]; rfl))
            have htl := Lib.hid (show (vs.take k).length = k * 1 from by rw [List.length_take, hvi'.out]; omega)
            have hdl := Lib.hid (show (vs.drop k).length = (i - k) * 1 from by rw [List.length_drop, hvi'.out]; omega)
            have ht1 := Lib.hid (show ∀ u ∈ vs.take k, u.oneCell' = true from fun u hu => hone.out u (List.mem_of_mem_take hu))
            have hd1 := Lib.hid (show ∀ u ∈ vs.drop k, u.oneCell' = true from fun u hu => hone.out u (List.mem_of_mem_drop hu))
            have hct := Lib.hid (fun (W : World) (h : Below wr.heap.size wr W) (j : Nat) (u : Value) (hj : (vs.take k)[j]? = some u) => show W.cell? ⟨bo, 0 + j, none⟩ = some u from by
              have hj2 : vs[j]? = some u := by
                rw [List.getElem?_take] at hj
                split at hj
                · exact hj
                · cases hj
              have hcj := hcl.out j u hj2
              rw [Nat.zero_add]
              exact (h.cell (p := ⟨bo, j, none⟩) (by have := World.block_lt_of_cell? wr _ hcj; simpa using this)).trans hcj)
            have hcd := Lib.hid (fun (W : World) (h : Below wr.heap.size wr W) (j : Nat) (u : Value) (hj : (vs.drop k)[j]? = some u) => show W.cell? ⟨bo, k + j, none⟩ = some u from by
              have hj3 := (List.getElem?_eq_some_iff.1 hj).1
              rw [List.length_drop, hvi'.out] at hj3
              rw [List.getElem?_drop] at hj
              have hcj := hcl.out _ u hj
              have he : k = (k) := by omega
              rw [he]
              exact (h.cell (p := ⟨bo, k + j, none⟩) (by have := World.block_lt_of_cell? wr _ hcj; simpa using this)).trans hcj)
            have hi1 := info_parts info24
            obtain ⟨i0, hi0, hz0, hz1, hz2⟩ := hi1
            go_region_law (first
              | (refine step_many Tryd.underlying40 hi0 hz0 hz1 hz2 rfl (by decide) (by decide) rfl (.tmp 33) (.tmp 36) rfl A1.out (by simp [Act.eval]) bo 0 k cap (by simp [Act.eval]) _ htl.out (hct.out _ bA.out) ht1.out (by omega) (by first | (simp; done) | (simp; omega)) ?_; intro v44 w44 h44 hb44 hk44; have b44 := bA.out.trans hb44)
              | (refine step_many Tryd.underlying40 hi0 hz0 hz1 hz2 rfl (by decide) (by decide) rfl (.tmp 33) (.tmp 36) rfl B1.out (by simp [Act.eval]) bo 0 k cap (by simp [Act.eval]) _ htl.out (hct.out _ bB.out) ht1.out (by omega) (by first | (simp; done) | (simp; omega)) ?_; intro v44 w44 h44 hb44 hk44; have b44 := bB.out.trans hb44; have hyc := hk44 _ 0 _ (by simp [Value.ownBlock]) cB.out)
              | (refine step_many Tryd.underlying40 hi0 hz0 hz1 hz2 rfl (by decide) (by decide) rfl (.tmp 33) (.tmp 36) rfl C1.out (by simp [Act.eval]) bo 0 k cap (by simp [Act.eval]) _ htl.out (hct.out _ bC.out) ht1.out (by omega) (by first | (simp; done) | (simp; omega)) ?_; intro v44 w44 h44 hb44 hk44; have b44 := bC.out.trans hb44; have hyc := hk44 _ 0 _ (by simp [Value.ownBlock]) cC.out)
              | (refine step_many Tryd.underlying40 hi0 hz0 hz1 hz2 rfl (by decide) (by decide) rfl (.tmp 37) (.tmp 39) rfl (own_below h44 (below_alloc1 _ _)) (by simp [Act.eval]) w44.heap.size 0 1 1 (by simp [Act.eval]) [.slice a5 ly c5] rfl (one_at (one_new _ _ _)) (slice_one _ _ _) (by omega) (by have := b44.size; simp; omega) ?_; intro v47 w47 h47 hb47 hk47; have b47 := (b44.alloc b44.size _).trans hb47)
              | (refine step_many Tryd.underlying40 hi0 hz0 hz1 hz2 rfl (by decide) (by decide) rfl (.tmp 37) (.tmp 39) rfl h44 (by simp [Act.eval]) _ 0 1 1 (by simp [Act.eval]) [.slice a5 ly c5] rfl (one_at hyc) (slice_one _ _ _) (by omega) b44.size ?_; intro v47 w47 h47 hb47 hk47; have b47 := b44.trans hb47)
              | (refine step_many Tryd.underlying40 hi0 hz0 hz1 hz2 rfl (by decide) (by decide) rfl (.tmp 40) (.tmp 43) rfl h47 (by simp [Act.eval]) bo (k) (i - k) (cap - k) (by simp [Act.eval]) _ hdl.out (hcd.out _ b47) hd1.out (by omega) b47.size ?_; intro v51 w51 h51 hb51 hk51; have b51 := b47.trans hb51))
            all_goals
              have e51 : OwnG w51 w.heap.size v51 (SK (i + 1)) := by
                rw [hsu3.out, hput.out]
                refine own_step (vs := vs) (u := .slice a5 ly c5) (k := k) (by rw [hvi'.out]; exact hk) hvl'.out ?_ (fun j hj => Ints.below (hrows'.out j (by rw [← hvi'.out]; exact hj)) b51) (Ints.below hy6.out b51)
                have := own_base h51 hbN.out.size
                rw [show 0 + k + 1 + (i - k) = vs.length + 1 from by rw [hvi'.out]; omega] at this
                simpa using this
              obtain ⟨b5, c51, e5⟩ := e51.val (by intro e; have := hsl2.out; rw [e] at this; simp at this)
              rw [hsl2.out] at e5
              have h51' := Lib.hid e51
              have hp51 := Lib.hid (show ∃ b cap, v51 = .slice (some ⟨b, 0, none⟩) (i + 1) cap from ⟨_, _, e5⟩)
              have hb51' := Lib.hid (below_call hbN.out b51)
              clear h51 e51 e5 hb51 hk51 b51 h47 hb47 hk47 b47 h44 hb44 hk44 b44
              go_wp2_with fail
              go_roundw
            all_goals first
              | exact ⟨i + 1, by omega, by go_num, h51', hp51, hb51'⟩
              | (simp [intOf]; omega)
    · obtain rfl : i = N := by omega
      go_wp2_with fail
      go_ret
      exact ⟨_, rfl, by rw [hend.out]; exact hout.out, hbw.out⟩

attribute [local go_sem] Oper.semAt_some

def fAdd (n k : Nat) : Nat → Nat := fun v => (v + k) % n
/-- A row by other names, as a set. -/
def mvR (n k : Nat) (xs : List Int) : Nat := xs.foldl (fun m x => m ||| 2 ^ ((x.toNat + k) % n)) 0
theorem mvR_bl (n k S : Nat) : mvR n k (natI (bl S)) = mvS (fAdd n k) S := by
  unfold mvR mvS natI fAdd
  rw [List.foldl_map]; rfl
theorem mvR_take (n k : Nat) {xs : List Int} {j : Nat} (h : j < xs.length) : mvR n k (xs.take (j + 1)) = mvR n k (xs.take j) ||| 2 ^ (((xs.getD j 0).toNat + k) % n) := by
  unfold mvR
  rw [List.take_succ_eq_append_getElem h, List.foldl_append, List.getD_eq_getElem?_getD, List.getElem?_eq_getElem h]; rfl
theorem mvR_lt {n k : Nat} (hn : n ≤ 12) (h0 : 0 < n) : ∀ xs : List Int, mvR n k xs < 4096 := by
  intro xs
  unfold mvR
  have : ∀ (xs : List Int) (m : Nat), m < 4096 → xs.foldl (fun m x => m ||| 2 ^ ((x.toNat + k) % n)) m < 4096 := by
    intro xs
    induction xs with
    | nil => intro m h; exact h
    | cons x xs ih =>
      intro m h
      refine ih _ (Nat.or_lt_two_pow (n := 12) h (Nat.pow_lt_pow_right (by decide) ?_))
      have := Nat.mod_lt (x.toNat + k) h0
      omega
  exact this xs 0 (by decide)
theorem srt_perm_eq {xss yss : List (List Int)} (h : xss.Perm yss) : srt xss = srt yss := srt_unique ((srt_perm xss).trans h) (srt_sorted xss)
theorem lists_moved (n k : Nat) (l : List Nat) : lists ((lists l).map (mvR n k)) = lists (l.map (mvS (fAdd n k))) := by
  rw [lists_eq, lists_eq]
  apply srt_perm_eq
  have h1 : (lists l).Perm (l.map fun S => natI (bl S)) := srt_perm _
  have h2 := h1.map (mvR n k)
  rw [List.map_map] at h2
  rw [show (mvR n k ∘ fun S => natI (bl S)) = mvS (fAdd n k) from funext fun S => mvR_bl n k S] at h2
  exact h2.map _
theorem p2w : ∀ x, x < 12 → IntKind.i64.wrap (2 ^ x) = ((2 ^ x : Nat) : Int) := by decide
set_option maxHeartbeats 8000000 in
set_option maxRecDepth 100000 in
theorem moved46 {w : World} {v : Value} {l : List Nat} {n k : Nat} (hv : ReadsG w v (lists l)) (hl : ∀ S ∈ l, S < 2 ^ n) (hn : n ≤ 12) (hk : k < n) (hlen : l.length ≤ 4096) :
    Calls Tryd.prog 46 #[v, .int .i64 (k : Int), .int .i64 (n : Int)] w (ListsEnd w (lists (l.map (mvS (fAdd n k))))) := by
  obtain ⟨N, hN⟩ : ∃ N, N = (lists l).length := ⟨_, rfl⟩
  have hN4 : N ≤ 4096 := by rw [hN, lists_len]; exact hlen
  have hZl : ((lists l).map (mvR n k)).length = N := by rw [List.length_map, hN]
  have hcall := Lib.hid (fun (W : World) (u : Value) (h : Reads W u (natI ((lists l).map (mvR n k)))) => show Calls Tryd.prog 30 #[u] W (ListsEnd W (lists (l.map (mvS (fAdd n k))))) from by
    rw [← lists_moved]
    exact refLists30 h (fun S hS => by obtain ⟨x, _, rfl⟩ := List.mem_map.1 hS; exact mvR_lt hn (by omega) x) (by rw [hZl]; omega))
  have hrows := Lib.hid (fun (i j : Nat) (h : i < N) (hj : j < ((lists l).getD i []).length) => show ∃ c : Nat, ((lists l).getD i []).getD j 0 = (c : Int) ∧ c < n from by
    have hm : (lists l).getD i [] ∈ lists l := by rw [List.getD_eq_getElem?_getD, List.getElem?_eq_getElem (by omega)]; exact List.getElem_mem _
    obtain ⟨S, hS, he⟩ := mem_lists.1 hm
    rw [he] at hj ⊢
    obtain ⟨c, h1, h2, _⟩ := natI_at hj
    exact ⟨c, h1, near (hl S hS) h2⟩)
  have hrl := Lib.hid (fun i => lists_row l i)
  have hlt := Lib.hid (fun xs => mvR_lt (k := k) hn (by omega) xs)
  have htk := Lib.hid (fun (xs : List Int) (j : Nat) (h : j < xs.length) => mvR_take n k h)
  have hz0 := Lib.hid (show mvR n k [] = 0 from rfl)
  have hsn := Lib.hid (fun (i : Nat) (h : i < N) => show natI (((lists l).map (mvR n k)).take (i + 1)) = natI (((lists l).map (mvR n k)).take i) ++ [((mvR n k ((lists l).getD i []) : Nat) : Int)] from by
    rw [List.take_succ_eq_append_getElem (by omega)]
    simp [natI, List.getD_eq_getElem?_getD, show i < (lists l).length from by omega])
  have hall := Lib.hid (show ((lists l).map (mvR n k)).take N = (lists l).map (mvR n k) from by rw [← hZl, List.take_length])
  have hnl := Lib.hid (fun (i : Nat) => show (natI (((lists l).map (mvR n k)).take i)).length ≤ 5000 from by
    unfold natI; rw [List.length_map, List.length_take, hZl]; omega)
  have hv' := Lib.hid hv
  obtain ⟨ao, c, rfl, -⟩ := hv
  rw [← hN] at hv' ⊢
  have hN' := Lib.hid hN
  clear hN hl hlen hZl
  generalize (lists l).map (mvR n k) = Z at hcall hsn hall hnl
  generalize lists l = R at hv' hrows hrl hsn hN'
  have hlit := Lib.hid (Ints.lit w w.heap.size (Nat.le_refl _))
  have hal := Lib.hid (below_alloc1 w (.cells #[] 3))
  go_enter Tryd.func46, Tryd.ntmps46
  go_wp2
  go_loopw [7, 8] (fun p iv wr => ∃ i : Nat, i ≤ N ∧ iv = .int .i64 (i : Int) ∧ Hid (Ints wr w.heap.size p (natI (Z.take i))) ∧ Hid (Below w.heap.size w wr)) (fun _ iv _ => N - (intOf iv).toNat)
  case atStart => exact ⟨0, Nat.zero_le _, rfl, hlit, hal⟩
  case round =>
    obtain ⟨i, hi, rfl, hp, hb⟩ := hrel
    obtain ⟨ap, cp, rfl, -⟩ := id hp.out.shape
    obtain ⟨ln, hln⟩ : ∃ ln, ln = (natI (Z.take i)).length := ⟨_, rfl⟩
    rw [← hln] at hp ⊢
    clear hln
    by_cases hiN : i < N
    · obtain ⟨g, o, rfl, hg, ro, rc, c1, hR⟩ := hv'.out.at hN'.out.symm hiN
      have cx := (hb.out.cell (p := ⟨g, o + i, none⟩) hg).trans c1
      have hcs := Lib.hid (fun j hj => hrows.out i j hiN hj)
      have hsn2 := Lib.hid (hsn.out i hiN)
      have hrl2 := hrl.out i
      generalize R.getD i [] = x at cx hR hcs hsn2 hrl2
      obtain ⟨m, hm⟩ : ∃ m, m = x.length := ⟨_, rfl⟩
      rw [← hm] at cx hR hrl2
      have hm' := Lib.hid hm
      have hiI : (i : Int) < N := by omega
      clear hm c1
      obtain ⟨wz, hwz⟩ : ∃ wz, wz = wr := ⟨_, rfl⟩
      subst hwz
      go_wp2_with fail
      go_loopw [9, 10] (fun sv jv wr => ∃ j : Nat, j ≤ m ∧ jv = .int .i64 (j : Int) ∧ sv = .int .i64 ((mvR n k (x.take j) : Nat) : Int) ∧ wr = wz) (fun _ jv _ => m - (intOf jv).toNat)
      case atStart => exact ⟨0, Nat.zero_le _, rfl, by rw [List.take_zero, hz0.out]; rfl, rfl⟩
      case round =>
        obtain ⟨j, hj, rfl, rfl, rfl⟩ := hrel
        by_cases hjm : j < m
        · have hjx : j < x.length := by rw [← hm'.out]; exact hjm
          obtain ⟨g2, o2, rfl, hg2, hc2⟩ := hR.at hm'.out.symm hjm
          have cy := (hb.out.cell (p := ⟨g2, o2 + j, none⟩) hg2).trans (hc2 j hjm)
          obtain ⟨d, hd, hdn⟩ := hcs.out j hjx
          have ht := htk.out x j hjx
          rw [hd] at cy ht
          rw [Int.toNat_natCast] at ht
          have hM := hlt.out (x.take j)
          generalize mvR n k (x.take j) = M at ht hM ⊢
          obtain ⟨q, hq⟩ : ∃ q, q = (d + k) % n := ⟨_, rfl⟩
          have hq12 : q < 12 := by have := Nat.mod_lt (d + k) (show 0 < n by omega); omega
          rw [← hq] at ht
          have hqi : ((d : Int) + (k : Int)) % (n : Int) = (q : Int) := by rw [hq]; push_cast; rfl
          have hP := p2w q hq12
          have hor := or_i64 M (2 ^ q) (by omega) (by have := Nat.pow_lt_pow_right (a := 2) (m := q) (n := 12) (by decide) hq12; omega)
          have hq2 : (q : Int) < 64 := by omega
          have ht' := Lib.hid ht
          generalize 2 ^ q = P at hP hor ht'
          have hjI : (j : Int) < m := by omega
          have hd0 : (d : Int) ≥ 0 := by omega
          have hdi : (d : Int) < n := by omega
          have hn0 : ¬ (n : Int) = 0 := by omega
          clear hd hc2 ht hq
          go_wp2_with fail
          go_roundw
          case rel => exact ⟨j + 1, by omega, by go_num, by rw [ht'.out], trivial⟩
          case measure => simp [intOf]; omega
        · obtain rfl : j = m := by omega
          have hfull : x.take j = x := List.take_of_length_le (by rw [← hm'.out]; exact Nat.le_refl _)
          rw [hfull]
          clear hfull
          go_wp2_with (at_builtin; refine app_int hp.out (by have := hnl.out i; omega) hb.out.size rfl _ _ rfl rfl rfl ?_; intro v5 w5 ho5 hb5; have ho5' := Lib.hid ho5; have hb5' := Lib.hid (hb.out.trans hb5); clear ho5 hb5)
          go_roundw
          case rel => exact ⟨i + 1, by omega, by go_num, Lib.hid (by rw [hsn2.out]; exact ho5'.out), hb5'⟩
          case measure => simp [intOf]; omega
    · obtain rfl : i = N := by omega
      rw [hall.out] at hp
      have hc := Lib.hid (hcall.out wr _ hp.out.shape)
      go_wp2_with (go_at_call 30; refine hc.out.mono ?_; rintro e w6 ⟨v6, rfl, ho, hb6⟩; have ho6 := Lib.hid (ho.base hb.out.size); have hb6' := Lib.hid (below_call hb.out hb6); clear ho hb6)
      go_ret
      exact ⟨_, rfl, ho6.out, hb6'.out⟩
end Go.Proofs.YtpcjigdmfchbdaaDoor
