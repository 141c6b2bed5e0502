import Derived.Lib.Hide

/-! A computation whose end is detected: mathematics that knows no program. -/
namespace Go.Proofs.Ytbemlfppekpmjaa.Rng

structure Hd where
  wk : Bool
  par : Nat
  owed : Nat
deriving DecidableEq
structure Lt where
  fr : Nat
  to : Nat
  ack : Bool
deriving DecidableEq
structure WS where
  hs : List Hd
  fl : List Lt
def H0 : Hd := ⟨false, 0, 0⟩
def L0 : Lt := ⟨0, 0, false⟩
namespace WS
def n (S : WS) : Nat := S.hs.length
def hd (S : WS) (i : Nat) : Hd := S.hs.getD i H0
def eng (S : WS) (i : Nat) : Bool := i == 0 || (S.hd i).par != 0
def tk (S : WS) (i : Nat) : Nat := S.fl.countP fun l => !l.ack && l.fr == i
def ak (S : WS) (i : Nat) : Nat := S.fl.countP fun l => l.ack && l.to == i
def kids (S : WS) (i : Nat) : Nat := S.hs.countP fun h => h.par == i + 1
def set (S : WS) (i : Nat) (h : Hd) : WS := ⟨S.hs.set i h, S.fl⟩
def put (S : WS) (l : Lt) : WS := ⟨S.hs, S.fl ++ [l]⟩
/-- ends an engagement, if it is so -/
def rel (S : WS) (i : Nat) : WS :=
  if i = 0 ∨ (S.hd i).wk = true ∨ (S.hd i).owed ≠ 0 then S else (S.put ⟨i, (S.hd i).par - 1, true⟩).set i (⟨(S.hd i).wk, 0, (S.hd i).owed⟩ : Hd)
def send (S : WS) (f t : Nat) : WS := (S.set f (⟨(S.hd f).wk, (S.hd f).par, (S.hd f).owed + 1⟩ : Hd)).put ⟨f, t, false⟩
def idle (S : WS) (i : Nat) : WS := (S.set i (⟨false, (S.hd i).par, (S.hd i).owed⟩ : Hd)).rel i
def drop (S : WS) (k : Nat) : WS := ⟨S.hs, S.fl.eraseIdx k⟩
def acked (S : WS) (i : Nat) : WS := (S.set i (⟨(S.hd i).wk, (S.hd i).par, (S.hd i).owed - 1⟩ : Hd)).rel i
def take (S : WS) (l : Lt) : WS :=
  if S.eng l.to = true then (S.set l.to (⟨true, (S.hd l.to).par, (S.hd l.to).owed⟩ : Hd)).put ⟨l.to, l.fr, true⟩ else S.set l.to (⟨true, l.fr + 1, (S.hd l.to).owed⟩ : Hd)
def dlv (S : WS) (k : Nat) : WS :=
  let l := S.fl.getD k L0
  if l.ack = true then (S.drop k).acked l.to else (S.drop k).take l
def start (n : Nat) : WS := ⟨(List.replicate n H0).set 0 ⟨true, 0, 0⟩, []⟩
end WS
open WS
theorem hd_set (S : WS) (i : Nat) (h : Hd) (j : Nat) (hi : i < S.n) : (S.set i h).hd j = if j = i then h else S.hd j := by
  unfold WS.hd WS.set
  simp only [List.getD_eq_getElem?_getD, List.getElem?_set]
  by_cases e : i = j
  · subst e; rw [if_pos rfl, if_pos (show i < S.hs.length from hi), if_pos rfl]; rfl
  · rw [if_neg e, if_neg (fun e' => e e'.symm)]
@[simp] theorem n_set (S : WS) (i : Nat) (h : Hd) : (S.set i h).n = S.n := by simp [WS.n, WS.set]
@[simp] theorem n_put (S : WS) (l : Lt) : (S.put l).n = S.n := rfl
@[simp] theorem n_drop (S : WS) (k : Nat) : (S.drop k).n = S.n := rfl
@[simp] theorem hd_put (S : WS) (l : Lt) (j : Nat) : (S.put l).hd j = S.hd j := rfl
@[simp] theorem hd_drop (S : WS) (k j : Nat) : (S.drop k).hd j = S.hd j := rfl
@[simp] theorem fl_set (S : WS) (i : Nat) (h : Hd) : (S.set i h).fl = S.fl := rfl
@[simp] theorem fl_put (S : WS) (l : Lt) : (S.put l).fl = S.fl ++ [l] := rfl
theorem countP_set {α : Type} (p : α → Bool) (d : α) : ∀ (xs : List α) (i : Nat) (a : α), i < xs.length → (xs.set i a).countP p + (if p (xs.getD i d) = true then 1 else 0) = xs.countP p + (if p a = true then 1 else 0)
  | x :: xs, 0, a, _ => by
    simp only [List.set_cons_zero, List.countP_cons, List.getD_cons_zero]
    omega
  | x :: xs, i + 1, a, h => by
    have ih := countP_set p d xs i a (by simpa using h)
    simp only [List.set_cons_succ, List.countP_cons, List.getD_cons_succ]
    omega
theorem countP_erase {α : Type} (p : α → Bool) (d : α) : ∀ (xs : List α) (i : Nat), i < xs.length → xs.countP p = (xs.eraseIdx i).countP p + (if p (xs.getD i d) = true then 1 else 0)
  | x :: xs, 0, _ => by
    simp only [List.eraseIdx_cons_zero, List.countP_cons, List.getD_cons_zero]
  | x :: xs, i + 1, h => by
    have ih := countP_erase p d xs i (by simpa using h)
    simp only [List.eraseIdx_cons_succ, List.countP_cons, List.getD_cons_succ]
    omega
/-- What always holds. -/
structure Inv (S : WS) : Prop where
  n1 : 1 ≤ S.n
  n10 : S.n ≤ 10
  ends : ∀ l ∈ S.fl, l.fr < S.n ∧ l.to < S.n
  room : S.fl.length ≤ 200
  root : (S.hd 0).par = 0
  par : ∀ i, i < S.n → (S.hd i).par ≤ S.n
  wkE : ∀ i, i < S.n → (S.hd i).wk = true → i = 0 ∨ (S.hd i).par ≠ 0
  due : ∀ i, i < S.n → (S.hd i).owed = S.tk i + S.ak i + S.kids i
  held : ∀ i, i < S.n → (S.hd i).owed ≠ 0 → i = 0 ∨ (S.hd i).par ≠ 0
  stay : ∀ i, i < S.n → i ≠ 0 → (S.hd i).par ≠ 0 → (S.hd i).wk = true ∨ (S.hd i).owed ≠ 0
  tree : ∃ d : Nat → Nat, ∀ i, i < S.n → (S.hd i).par ≠ 0 → d ((S.hd i).par - 1) < d i
theorem tk_put (S : WS) (l : Lt) (i : Nat) : (S.put l).tk i = S.tk i + if l.ack = false ∧ l.fr = i then 1 else 0 := by
  unfold WS.tk WS.put
  rw [List.countP_append]
  cases l with
  | mk f t a => cases a <;> simp [List.countP_cons]
theorem ak_put (S : WS) (l : Lt) (i : Nat) : (S.put l).ak i = S.ak i + if l.ack = true ∧ l.to = i then 1 else 0 := by
  unfold WS.ak WS.put
  rw [List.countP_append]
  cases l with
  | mk f t a => cases a <;> simp [List.countP_cons]
@[simp] theorem kids_put (S : WS) (l : Lt) (i : Nat) : (S.put l).kids i = S.kids i := rfl
@[simp] theorem kids_drop (S : WS) (k i : Nat) : (S.drop k).kids i = S.kids i := rfl
@[simp] theorem tk_set (S : WS) (j : Nat) (h : Hd) (i : Nat) : (S.set j h).tk i = S.tk i := rfl
@[simp] theorem ak_set (S : WS) (j : Nat) (h : Hd) (i : Nat) : (S.set j h).ak i = S.ak i := rfl
theorem kids_set (S : WS) (j : Nat) (h : Hd) (i : Nat) (hj : j < S.n) : (S.set j h).kids i + (if (S.hd j).par = i + 1 then 1 else 0) = S.kids i + if h.par = i + 1 then 1 else 0 := by
  have := countP_set (fun h : Hd => h.par == i + 1) H0 S.hs j h hj
  simp only [beq_iff_eq] at this
  exact this
theorem kids_same (S : WS) (j : Nat) (h : Hd) (i : Nat) (hj : j < S.n) (e : h.par = (S.hd j).par) : (S.set j h).kids i = S.kids i := by
  have := kids_set S j h i hj
  rw [e] at this; omega
theorem tk_drop (S : WS) (k i : Nat) (hk : k < S.fl.length) : S.tk i = (S.drop k).tk i + if (S.fl.getD k L0).ack = false ∧ (S.fl.getD k L0).fr = i then 1 else 0 := by
  have := countP_erase (fun l : Lt => !l.ack && l.fr == i) L0 S.fl k hk
  simp only [Bool.and_eq_true, Bool.not_eq_true', beq_iff_eq] at this
  exact this
theorem ak_drop (S : WS) (k i : Nat) (hk : k < S.fl.length) : S.ak i = (S.drop k).ak i + if (S.fl.getD k L0).ack = true ∧ (S.fl.getD k L0).to = i then 1 else 0 := by
  have := countP_erase (fun l : Lt => l.ack && l.to == i) L0 S.fl k hk
  simp only [Bool.and_eq_true, beq_iff_eq] at this
  exact this
theorem kid_pos {S : WS} {i j : Nat} (hi : i < S.n) (h : (S.hd i).par = j + 1) : 0 < S.kids j := by
  unfold WS.kids
  rw [List.countP_pos_iff]
  refine ⟨S.hs[i], List.getElem_mem _, ?_⟩
  have e : S.hd i = S.hs[i] := by unfold WS.hd; rw [List.getD_eq_getElem?_getD, List.getElem?_eq_getElem hi]; rfl
  rw [← e, h]; simp
theorem no_kids {S : WS} {j : Nat} (h : S.kids j = 0) {i : Nat} (hi : i < S.n) : (S.hd i).par ≠ j + 1 := fun e => by
  have := kid_pos hi e; omega
/-- All but that one may be ready to leave. -/
structure Pre (S : WS) (x : Nat) : Prop where
  n1 : 1 ≤ S.n
  n10 : S.n ≤ 10
  ends : ∀ l ∈ S.fl, l.fr < S.n ∧ l.to < S.n
  room : S.fl.length ≤ 200
  root : (S.hd 0).par = 0
  par : ∀ i, i < S.n → (S.hd i).par ≤ S.n
  wkE : ∀ i, i < S.n → (S.hd i).wk = true → i = 0 ∨ (S.hd i).par ≠ 0
  due : ∀ i, i < S.n → (S.hd i).owed = S.tk i + S.ak i + S.kids i
  held : ∀ i, i < S.n → (S.hd i).owed ≠ 0 → i = 0 ∨ (S.hd i).par ≠ 0
  stay : ∀ i, i < S.n → i ≠ 0 → i ≠ x → (S.hd i).par ≠ 0 → (S.hd i).wk = true ∨ (S.hd i).owed ≠ 0
  tree : ∃ d : Nat → Nat, ∀ i, i < S.n → (S.hd i).par ≠ 0 → d ((S.hd i).par - 1) < d i
theorem Pre.rel {S : WS} {x : Nat} (h : Pre S x) (hx : x < S.n) (he : x = 0 ∨ (S.hd x).par ≠ 0) (hr : x = 0 ∨ (S.hd x).wk = true ∨ (S.hd x).owed ≠ 0 ∨ S.fl.length < 200) : Inv (S.rel x) := by
  unfold WS.rel
  by_cases c : x = 0 ∨ (S.hd x).wk = true ∨ (S.hd x).owed ≠ 0
  · rw [if_pos c]
    refine ⟨h.n1, h.n10, h.ends, h.room, h.root, h.par, h.wkE, h.due, h.held, fun i hi h0 hp => ?_, h.tree⟩
    by_cases e : i = x
    · subst e
      rcases c with c | c | c
      · exact absurd c h0
      · exact .inl c
      · exact .inr c
    · exact h.stay i hi h0 e hp
  · rw [if_neg c]
    obtain ⟨c0, c1, c2⟩ : x ≠ 0 ∧ (S.hd x).wk = false ∧ (S.hd x).owed = 0 := by
      refine ⟨fun e => c (.inl e), ?_, ?_⟩
      · cases e : (S.hd x).wk with
        | false => rfl
        | true => exact absurd (.inr (.inl e)) c
      · rcases Nat.eq_zero_or_pos (S.hd x).owed with e | e
        · exact e
        · exact absurd (.inr (.inr (by omega))) c
    have hp := he.resolve_left c0
    have hpn := h.par x hx
    have hroom : S.fl.length < 200 := by
      rcases hr with e | e | e | e
      · exact absurd e c0
      · rw [c1] at e; cases e
      · exact absurd c2 e
      · exact e
    have hd' : ∀ j, ((S.put ⟨x, (S.hd x).par - 1, true⟩).set x (⟨(S.hd x).wk, 0, (S.hd x).owed⟩ : Hd)).hd j = if j = x then (⟨(S.hd x).wk, 0, (S.hd x).owed⟩ : Hd) else S.hd j := fun j => by
      rw [hd_set _ _ _ _ (by simpa using hx)]; rfl
    have hdue := h.due x hx
    have hk0 : S.kids x = 0 := by omega
    have hks : ∀ i, ((S.put ⟨x, (S.hd x).par - 1, true⟩).set x (⟨(S.hd x).wk, 0, (S.hd x).owed⟩ : Hd)).kids i + (if (S.hd x).par = i + 1 then 1 else 0) = S.kids i := fun i => by
      have := kids_set (S.put ⟨x, (S.hd x).par - 1, true⟩) x (⟨(S.hd x).wk, 0, (S.hd x).owed⟩ : Hd) i (by simpa using hx)
      rw [if_neg (show ¬ (⟨(S.hd x).wk, 0, (S.hd x).owed⟩ : Hd).par = i + 1 from fun e => by simp at e), Nat.add_zero] at this
      exact this
    refine ⟨by simpa using h.n1, by simpa using h.n10, ?_, ?_, ?_, ?_, ?_, ?_, ?_, ?_, ?_⟩
    · intro l hl
      simp only [fl_set, fl_put, List.mem_append, List.mem_cons, List.not_mem_nil, or_false, n_set, n_put] at hl ⊢
      rcases hl with hl | rfl
      · exact h.ends l hl
      · exact ⟨hx, by show (S.hd x).par - 1 < S.n; omega⟩
    · simp only [fl_set, fl_put, List.length_append, List.length_cons, List.length_nil]; omega
    · rw [hd', if_neg (fun e => c0 e.symm)]; exact h.root
    · intro i hi
      simp only [n_set, n_put] at hi ⊢
      rw [hd']
      split
      · exact Nat.zero_le _
      · exact h.par i hi
    · intro i hi hw
      simp only [n_set, n_put] at hi
      rw [hd'] at hw ⊢
      split at hw
      · simp only at hw; rw [c1] at hw; cases hw
      · rename_i e; rw [if_neg e]; exact h.wkE i hi hw
    · intro i hi
      simp only [n_set, n_put] at hi
      have h1 := hks i
      have h2 := h.due i hi
      rw [hd', tk_set, ak_set, tk_put, ak_put]
      have e1 : (if i = x then (⟨(S.hd x).wk, 0, (S.hd x).owed⟩ : Hd) else S.hd i).owed = (S.hd i).owed := by
        split
        · rename_i e; rw [e]
        · rfl
      rw [e1, h2]
      simp only [Bool.true_eq_false, false_and, if_false, true_and, Nat.add_zero]
      have e2 : (if (S.hd x).par - 1 = i then 1 else 0) = if (S.hd x).par = i + 1 then 1 else 0 := by
        by_cases e : (S.hd x).par = i + 1
        · rw [if_pos e, if_pos (by omega)]
        · rw [if_neg e, if_neg (by omega)]
      rw [e2]; omega
    · intro i hi ho
      simp only [n_set, n_put] at hi
      rw [hd'] at ho ⊢
      split at ho
      · simp only at ho; omega
      · rename_i e; rw [if_neg e]; exact h.held i hi ho
    · intro i hi h0 hpi
      simp only [n_set, n_put] at hi
      rw [hd'] at hpi ⊢
      split at hpi
      · simp at hpi
      · rename_i e; rw [if_neg e]; exact h.stay i hi h0 e hpi
    · obtain ⟨d, hd⟩ := h.tree
      refine ⟨d, fun i hi hpi => ?_⟩
      simp only [n_set, n_put] at hi
      rw [hd'] at hpi ⊢
      split at hpi
      · simp at hpi
      · rename_i e; rw [if_neg e]; exact hd i hi hpi
theorem Inv.send {S : WS} (h : Inv S) {f t : Nat} (hf : f < S.n) (ht : t < S.n) (hw : (S.hd f).wk = true) (hr : S.fl.length < 200) : Inv (S.send f t) := by
  have hd' : ∀ j, (S.send f t).hd j = if j = f then (⟨(S.hd f).wk, (S.hd f).par, (S.hd f).owed + 1⟩ : Hd) else S.hd j := fun j => by
    unfold WS.send; rw [hd_put, hd_set _ _ _ _ hf]
  have hp' : ∀ j, ((S.send f t).hd j).par = (S.hd j).par := fun j => by
    rw [hd']; split
    · rename_i e; rw [e]
    · rfl
  have hw' : ∀ j, ((S.send f t).hd j).wk = (S.hd j).wk := fun j => by
    rw [hd']; split
    · rename_i e; rw [e]
    · rfl
  have hn : (S.send f t).n = S.n := by simp [WS.send]
  refine ⟨by rw [hn]; exact h.n1, by rw [hn]; exact h.n10, ?_, ?_, by rw [hp']; exact h.root, ?_, ?_, ?_, ?_, ?_, ?_⟩
  · intro l hl
    rw [hn]
    simp only [WS.send, fl_put, fl_set, List.mem_append, List.mem_cons, List.not_mem_nil, or_false] at hl
    rcases hl with hl | rfl
    · exact h.ends l hl
    · exact ⟨hf, ht⟩
  · simp only [WS.send, fl_put, fl_set, List.length_append, List.length_cons, List.length_nil]; omega
  · intro i hi; rw [hp', hn] at *; exact h.par i hi
  · intro i hi hw2; rw [hp']; rw [hn] at hi; rw [hw'] at hw2; exact h.wkE i hi hw2
  · intro i hi
    rw [hn] at hi
    have h2 := h.due i hi
    have hk : (S.send f t).kids i = S.kids i := by unfold WS.send; rw [kids_put, kids_same _ _ _ _ hf (by rfl)]
    have ht : (S.send f t).tk i = S.tk i + if f = i then 1 else 0 := by unfold WS.send; rw [tk_put, tk_set]; simp
    have ha : (S.send f t).ak i = S.ak i := by unfold WS.send; rw [ak_put, ak_set]; simp
    rw [hk, ht, ha, hd']
    split
    · rename_i e; subst e; rw [if_pos rfl]; simp only; omega
    · rename_i e; rw [if_neg (fun e' => e e'.symm)]; omega
  · intro i hi ho
    rw [hn] at hi
    rw [hp']
    rw [hd'] at ho
    split at ho
    · rename_i e; subst e; exact h.wkE i hi hw
    · exact h.held i hi ho
  · intro i hi h0 hpi
    rw [hn] at hi
    rw [hp'] at hpi
    rw [hw']
    rcases h.stay i hi h0 hpi with e | e
    · exact .inl e
    · right
      rw [hd']; split
      · simp
      · exact e
  · obtain ⟨d, hd⟩ := h.tree
    refine ⟨d, fun i hi hpi => ?_⟩
    rw [hp'] at hpi ⊢
    exact hd i (by rw [hn] at hi; exact hi) hpi
theorem Inv.idle {S : WS} (h : Inv S) {x : Nat} (hx : x < S.n) (hw : (S.hd x).wk = true) (hr : x = 0 ∨ (S.hd x).owed ≠ 0 ∨ S.fl.length < 200) : Inv (S.idle x) := by
  have hd' : ∀ j, (S.set x (⟨false, (S.hd x).par, (S.hd x).owed⟩ : Hd)).hd j = if j = x then (⟨false, (S.hd x).par, (S.hd x).owed⟩ : Hd) else S.hd j := fun j => hd_set _ _ _ _ hx
  have hp' : ∀ j, ((S.set x (⟨false, (S.hd x).par, (S.hd x).owed⟩ : Hd)).hd j).par = (S.hd j).par := fun j => by
    rw [hd']; split
    · rename_i e; rw [e]
    · rfl
  have ho' : ∀ j, ((S.set x (⟨false, (S.hd x).par, (S.hd x).owed⟩ : Hd)).hd j).owed = (S.hd j).owed := fun j => by
    rw [hd']; split
    · rename_i e; rw [e]
    · rfl
  refine Pre.rel (x := x) ⟨by simpa using h.n1, by simpa using h.n10, by simpa using h.ends, h.room, by rw [hp']; exact h.root, ?_, ?_, ?_, ?_, ?_, ?_⟩ (by simpa using hx) (by rw [hp']; exact h.wkE x hx hw) ?_
  · intro i hi; rw [hp']; simp only [n_set] at *; exact h.par i hi
  · intro i hi hw2
    simp only [n_set] at hi
    rw [hp']
    rw [hd'] at hw2
    split at hw2
    · simp at hw2
    · exact h.wkE i hi hw2
  · intro i hi
    simp only [n_set] at hi
    rw [ho', kids_same _ _ _ _ hx (by rfl)]
    exact h.due i hi
  · intro i hi ho
    simp only [n_set] at hi
    rw [hp']; rw [ho'] at ho; exact h.held i hi ho
  · intro i hi h0 hne hpi
    simp only [n_set] at hi
    rw [hp'] at hpi; rw [ho', hd', if_neg hne]
    exact h.stay i hi h0 hpi
  · obtain ⟨d, hd⟩ := h.tree
    refine ⟨d, fun i hi hpi => ?_⟩
    rw [hp'] at hpi ⊢
    exact hd i (by simpa using hi) hpi
  · rw [ho']
    rcases hr with e | e | e
    · exact .inl e
    · exact .inr (.inr (.inl e))
    · exact .inr (.inr (.inr e))
theorem ends_get {S : WS} (h : ∀ l ∈ S.fl, l.fr < S.n ∧ l.to < S.n) {k : Nat} (hk : k < S.fl.length) : (S.fl.getD k L0).fr < S.n ∧ (S.fl.getD k L0).to < S.n := by
  have e : S.fl.getD k L0 = S.fl[k] := by rw [List.getD_eq_getElem?_getD, List.getElem?_eq_getElem hk]; rfl
  rw [e]; exact h _ (List.getElem_mem _)
theorem mem_erase {α : Type} {xs : List α} {k : Nat} {a : α} (h : a ∈ xs.eraseIdx k) : a ∈ xs := List.mem_of_mem_eraseIdx h
theorem Inv.dlv {S : WS} (h : Inv S) {k : Nat} (hk : k < S.fl.length) : Inv (S.dlv k) := by
  obtain ⟨hfr, hto⟩ := ends_get h.ends hk
  have hroom : (S.drop k).fl.length < 200 := by
    have := h.room
    simp only [WS.drop, List.length_eraseIdx]
    rw [if_pos hk]; omega
  have hends : ∀ l ∈ (S.drop k).fl, l.fr < S.n ∧ l.to < S.n := fun l hl => h.ends l (mem_erase hl)
  obtain ⟨l, hl⟩ : ∃ l, l = S.fl.getD k L0 := ⟨_, rfl⟩
  have htk := fun i => tk_drop S k i hk
  have hak := fun i => ak_drop S k i hk
  unfold WS.dlv
  rw [← hl] at hfr hto htk hak
  simp only [← hl]
  obtain ⟨x, hx⟩ : ∃ x, x = l.to := ⟨_, rfl⟩
  rw [← hx] at hto hak
  have hdx := h.due x hto
  by_cases ha : l.ack = true
  · rw [if_pos ha, ← hx]
    simp only [ha, Bool.true_eq_false, false_and, if_false, Nat.add_zero, true_and] at htk hak
    have hax := hak x
    rw [if_pos rfl] at hax
    have hne : (S.hd x).owed ≠ 0 := by omega
    unfold WS.acked
    have hd' : ∀ j, ((S.drop k).set x (⟨((S.drop k).hd x).wk, ((S.drop k).hd x).par, ((S.drop k).hd x).owed - 1⟩ : Hd)).hd j = if j = x then (⟨(S.hd x).wk, (S.hd x).par, (S.hd x).owed - 1⟩ : Hd) else S.hd j := fun j => hd_set _ _ _ _ hto
    have hp' : ∀ j, (((S.drop k).set x (⟨((S.drop k).hd x).wk, ((S.drop k).hd x).par, ((S.drop k).hd x).owed - 1⟩ : Hd)).hd j).par = (S.hd j).par := fun j => by
      rw [hd']; split
      · rename_i e; rw [e]
      · rfl
    have hw' : ∀ j, (((S.drop k).set x (⟨((S.drop k).hd x).wk, ((S.drop k).hd x).par, ((S.drop k).hd x).owed - 1⟩ : Hd)).hd j).wk = (S.hd j).wk := fun j => by
      rw [hd']; split
      · rename_i e; rw [e]
      · rfl
    refine Pre.rel (x := x) ⟨by simpa using h.n1, by simpa using h.n10, by simpa using hends, by simp only [fl_set]; omega, by rw [hp']; exact h.root, ?_, ?_, ?_, ?_, ?_, ?_⟩ (by simpa using hto) (by rw [hp']; exact h.held x hto hne) (.inr (.inr (.inr (by simpa using hroom))))
    · intro i hi; rw [hp']; simp only [n_set, n_drop] at *; exact h.par i hi
    · intro i hi hw2
      simp only [n_set, n_drop] at hi
      rw [hp']; rw [hw'] at hw2; exact h.wkE i hi hw2
    · intro i hi
      simp only [n_set, n_drop] at hi
      rw [kids_same _ _ _ _ (by simpa using hto) (by rfl), kids_drop, hd', tk_set, ak_set]
      have h1 := htk i
      have h2 := hak i
      have h3 := h.due i hi
      by_cases e : i = x
      · subst e; rw [if_pos rfl] at h2 ⊢; simp only; omega
      · rw [if_neg e]; rw [if_neg (fun e' => e e'.symm)] at h2; omega
    · intro i hi ho
      simp only [n_set, n_drop] at hi
      rw [hp']
      rw [hd'] at ho
      split at ho
      · rename_i e; subst e; exact h.held i hi hne
      · exact h.held i hi ho
    · intro i hi h0 hnx hpi
      simp only [n_set, n_drop] at hi
      rw [hp'] at hpi; rw [hd', if_neg hnx]
      exact h.stay i hi h0 hpi
    · obtain ⟨d, hd⟩ := h.tree
      refine ⟨d, fun i hi hpi => ?_⟩
      rw [hp'] at hpi ⊢
      exact hd i (by simpa using hi) hpi
  · rw [if_neg ha]
    have ha' : l.ack = false := by cases e : l.ack with | false => rfl | true => exact absurd e ha
    simp only [ha', true_and, Bool.false_eq_true, false_and, if_false, Nat.add_zero] at htk hak
    unfold WS.take
    rw [← hx]
    have hfx := htk l.fr
    rw [if_pos rfl] at hfx
    have hdf := h.due l.fr hfr
    have hfo : (S.hd l.fr).owed ≠ 0 := by omega
    by_cases he : (S.drop k).eng x = true
    · rw [if_pos he]
      have he' : x = 0 ∨ (S.hd x).par ≠ 0 := by simpa [WS.eng] using he
      have hd' : ∀ j, (((S.drop k).set x (⟨true, ((S.drop k).hd x).par, ((S.drop k).hd x).owed⟩ : Hd)).put ⟨x, l.fr, true⟩).hd j = if j = x then (⟨true, (S.hd x).par, (S.hd x).owed⟩ : Hd) else S.hd j := fun j => hd_set (S.drop k) _ _ _ hto
      have hp' : ∀ j, ((((S.drop k).set x (⟨true, ((S.drop k).hd x).par, ((S.drop k).hd x).owed⟩ : Hd)).put ⟨x, l.fr, true⟩).hd j).par = (S.hd j).par := fun j => by
        rw [hd']; split
        · rename_i e; rw [e]
        · rfl
      have ho' : ∀ j, ((((S.drop k).set x (⟨true, ((S.drop k).hd x).par, ((S.drop k).hd x).owed⟩ : Hd)).put ⟨x, l.fr, true⟩).hd j).owed = (S.hd j).owed := fun j => by
        rw [hd']; split
        · rename_i e; rw [e]
        · rfl
      refine ⟨by simpa using h.n1, by simpa using h.n10, ?_, ?_, by rw [hp']; exact h.root, ?_, ?_, ?_, ?_, ?_, ?_⟩
      · intro m hm
        simp only [fl_put, fl_set, List.mem_append, List.mem_cons, List.not_mem_nil, or_false, n_put, n_set, n_drop] at hm ⊢
        rcases hm with hm | rfl
        · exact hends m hm
        · exact ⟨hto, hfr⟩
      · simp only [fl_put, fl_set, List.length_append, List.length_cons, List.length_nil]; omega
      · intro i hi; rw [hp']; simp only [n_set, n_drop, n_put] at *; exact h.par i hi
      · intro i hi hw2
        simp only [n_set, n_drop, n_put] at hi
        rw [hp']
        rw [hd'] at hw2
        split at hw2
        · rename_i e; rw [e]; exact he'
        · exact h.wkE i hi hw2
      · intro i hi
        simp only [n_set, n_drop, n_put] at hi
        rw [ho', kids_put, kids_same _ _ _ _ (by simpa using hto) (by rfl), kids_drop, tk_put, ak_put, tk_set, ak_set]
        simp only [Bool.true_eq_false, false_and, if_false, true_and, Nat.add_zero]
        have h1 := htk i
        have h2 := hak i
        have h3 := h.due i hi
        omega
      · intro i hi ho
        simp only [n_set, n_drop, n_put] at hi
        rw [hp']; rw [ho'] at ho; exact h.held i hi ho
      · intro i hi h0 hpi
        simp only [n_set, n_drop, n_put] at hi
        rw [hp'] at hpi; rw [ho', hd']
        split
        · exact .inl rfl
        · exact h.stay i hi h0 hpi
      · obtain ⟨d, hd⟩ := h.tree
        refine ⟨d, fun i hi hpi => ?_⟩
        rw [hp'] at hpi ⊢
        exact hd i (by simpa using hi) hpi
    · rw [if_neg he]
      obtain ⟨hx0, hxp⟩ : x ≠ 0 ∧ (S.hd x).par = 0 := by
        refine ⟨fun e => he (by simp [WS.eng, e]), ?_⟩
        rcases Nat.eq_zero_or_pos (S.hd x).par with e | e
        · exact e
        · exact absurd (by simp [WS.eng]; right; omega) he
      have hxo : (S.hd x).owed = 0 := by
        rcases Nat.eq_zero_or_pos (S.hd x).owed with e | e
        · exact e
        · rcases h.held x hto (by omega) with e2 | e2
          · exact absurd e2 hx0
          · exact absurd hxp e2
      have hfE := h.held l.fr hfr hfo
      have hfx' : l.fr ≠ x := fun e => by rw [e] at hfo; exact hfo hxo
      have hd' : ∀ j, ((S.drop k).set x (⟨true, l.fr + 1, ((S.drop k).hd x).owed⟩ : Hd)).hd j = if j = x then (⟨true, l.fr + 1, (S.hd x).owed⟩ : Hd) else S.hd j := fun j => hd_set (S.drop k) _ _ _ hto
      have ho' : ∀ j, (((S.drop k).set x (⟨true, l.fr + 1, ((S.drop k).hd x).owed⟩ : Hd)).hd j).owed = (S.hd j).owed := fun j => by
        rw [hd']; split
        · rename_i e; rw [e]
        · rfl
      have hk0 : S.kids x = 0 := by omega
      refine ⟨by simpa using h.n1, by simpa using h.n10, by simpa using hends, by simp only [fl_set]; omega, ?_, ?_, ?_, ?_, ?_, ?_, ?_⟩
      · rw [hd', if_neg (fun e => hx0 e.symm)]; exact h.root
      · intro i hi
        simp only [n_set, n_drop] at hi ⊢
        rw [hd']; split
        · simp only; omega
        · exact h.par i hi
      · intro i hi hw2
        simp only [n_set, n_drop] at hi
        rw [hd'] at hw2 ⊢
        split at hw2
        · rename_i e; rw [if_pos e]; right; simp
        · rename_i e; rw [if_neg e]; exact h.wkE i hi hw2
      · intro i hi
        simp only [n_set, n_drop] at hi
        rw [ho', tk_set, ak_set]
        have h1 := htk i
        have h2 := hak i
        have h3 := h.due i hi
        have h4 := kids_set (S.drop k) x (⟨true, l.fr + 1, ((S.drop k).hd x).owed⟩ : Hd) i (by simpa using hto)
        simp only [hd_drop, hxp, kids_drop] at h4 ⊢
        rw [if_neg (show ¬ (0 = i + 1) by omega)] at h4
        have e2 : (if l.fr + 1 = i + 1 then 1 else 0) = if l.fr = i then 1 else 0 := by
          by_cases e : l.fr = i
          · rw [if_pos e, if_pos (by omega)]
          · rw [if_neg e, if_neg (by omega)]
        rw [e2] at h4
        omega
      · intro i hi ho
        simp only [n_set, n_drop] at hi
        rw [ho'] at ho
        rw [hd']; split
        · right; simp
        · exact h.held i hi ho
      · intro i hi h0 hpi
        simp only [n_set, n_drop] at hi
        rw [ho']
        rw [hd'] at hpi ⊢
        split at hpi
        · rename_i e; rw [if_pos e]; exact .inl rfl
        · rename_i e; rw [if_neg e]; exact h.stay i hi h0 hpi
      · obtain ⟨d, hd⟩ := h.tree
        refine ⟨fun j => if j = x then d l.fr + 1 else d j, fun i hi hpi => ?_⟩
        simp only [n_set, n_drop] at hi
        rw [hd'] at hpi ⊢
        by_cases e : i = x
        · simp only [if_pos e, Nat.add_sub_cancel, if_neg hfx']; omega
        · rw [if_neg e] at hpi ⊢
          have hne : (S.hd i).par - 1 ≠ x := fun e2 => no_kids hk0 hi (by omega)
          simp only [if_neg e, if_neg hne]
          exact hd i hi hpi
theorem start_hd {n : Nat} (hn : 1 ≤ n) (j : Nat) : (WS.start n).hd j = if j = 0 then ⟨true, 0, 0⟩ else H0 := by
  unfold WS.start WS.hd
  simp only [List.getD_eq_getElem?_getD, List.getElem?_set, List.length_replicate]
  by_cases e : j = 0
  · subst e; rw [if_pos rfl, if_pos (by omega), if_pos rfl]; rfl
  · rw [if_neg (fun e' => e e'.symm), if_neg e, List.getElem?_replicate]
    split <;> rfl
theorem Inv.start {n : Nat} (hn : 1 ≤ n) (h10 : n ≤ 10) : Inv (WS.start n) := by
  have hl : (WS.start n).n = n := by simp [WS.start, WS.n]
  have hp : ∀ j, ((WS.start n).hd j).par = 0 := fun j => by rw [start_hd hn]; split <;> rfl
  have ho : ∀ j, ((WS.start n).hd j).owed = 0 := fun j => by rw [start_hd hn]; split <;> rfl
  refine ⟨by omega, by omega, by simp [WS.start], by simp [WS.start], hp 0, fun i _ => by rw [hp]; omega, ?_, ?_, fun i _ h => absurd (ho i) h, fun i _ _ h => absurd (hp i) h, ⟨fun _ => 0, fun i _ h => absurd (hp i) h⟩⟩
  · intro i _ hw
    rw [start_hd hn] at hw
    split at hw
    · rename_i e; exact .inl e
    · cases hw
  · intro i _
    rw [ho]
    have : (WS.start n).kids i = 0 := by
      unfold WS.kids
      rw [List.countP_eq_zero]
      intro a ha
      obtain ⟨j, hj, rfl⟩ := List.mem_iff_getElem.1 ha
      have := hp j
      unfold WS.hd at this
      rw [List.getD_eq_getElem?_getD, List.getElem?_eq_getElem hj] at this
      simp only [Option.getD_some] at this
      simp [this]
    rw [this]; rfl
open WS
def WS.phi (S : WS) : Nat := 3 * S.fl.countP (fun l => !l.ack) + S.fl.countP (fun l => l.ack) + 2 * S.hs.countP (fun h => h.par != 0)
theorem phi_le (S : WS) : S.phi ≤ 3 * S.fl.length + 2 * S.n := by
  unfold WS.phi
  have h1 : S.fl.countP (fun l => !l.ack) + S.fl.countP (fun l => l.ack) = S.fl.length := by
    induction S.fl with
    | nil => rfl
    | cons l xs ih =>
      simp only [List.countP_cons, List.length_cons]
      cases l.ack <;> simp <;> omega
  have h2 : S.hs.countP (fun h => h.par != 0) ≤ S.n := List.countP_le_length
  omega
theorem phi_set_same (S : WS) (x : Nat) (h : Hd) (hx : x < S.n) (e : h.par = (S.hd x).par) : (S.set x h).phi = S.phi := by
  have := countP_set (fun h : Hd => h.par != 0) H0 S.hs x h hx
  have e2 : S.hs.getD x H0 = S.hd x := rfl
  rw [e2, e] at this
  unfold WS.phi WS.set
  simp only
  omega
theorem phi_rel {S : WS} {x : Nat} (hx : x < S.n) (he : x = 0 ∨ (S.hd x).par ≠ 0) : (S.rel x).phi + (S.rel x).fl.length ≤ S.phi + S.fl.length ∧ S.fl.length ≤ (S.rel x).fl.length := by
  unfold WS.rel
  by_cases c : x = 0 ∨ (S.hd x).wk = true ∨ (S.hd x).owed ≠ 0
  · rw [if_pos c]; exact ⟨Nat.le_refl _, Nat.le_refl _⟩
  · rw [if_neg c]
    have hp : (S.hd x).par ≠ 0 := he.resolve_left (fun e => c (.inl e))
    have := countP_set (fun h : Hd => h.par != 0) H0 S.hs x ⟨(S.hd x).wk, 0, (S.hd x).owed⟩ hx
    have e2 : S.hs.getD x H0 = S.hd x := rfl
    rw [e2, if_pos (by simpa using hp), if_neg (by simp)] at this
    unfold WS.phi WS.set WS.put
    simp only [List.countP_append, List.countP_cons, List.countP_nil, List.length_append, List.length_cons, List.length_nil]
    simp
    omega
theorem phi_idle {S : WS} (h : Inv S) {x : Nat} (hx : x < S.n) (hw : (S.hd x).wk = true) : (S.idle x).phi + (S.idle x).fl.length ≤ S.phi + S.fl.length ∧ S.fl.length ≤ (S.idle x).fl.length := by
  unfold WS.idle
  have h1 := phi_set_same S x ⟨false, (S.hd x).par, (S.hd x).owed⟩ hx rfl
  have h2 := phi_rel (S := S.set x ⟨false, (S.hd x).par, (S.hd x).owed⟩) (x := x) (by simpa using hx) (by rw [hd_set _ _ _ _ hx, if_pos rfl]; exact h.wkE x hx hw)
  rw [h1] at h2
  exact h2
theorem fl_drop_len {S : WS} {k : Nat} (hk : k < S.fl.length) : (S.drop k).fl.length + 1 = S.fl.length := by
  simp only [WS.drop, List.length_eraseIdx]
  rw [if_pos hk]; omega
theorem phi_dlv {S : WS} (h : Inv S) {k : Nat} (hk : k < S.fl.length) : (S.dlv k).phi + 1 ≤ S.phi := by
  obtain ⟨hfr, hto⟩ := ends_get h.ends hk
  have c1 := countP_erase (fun l : Lt => !l.ack) L0 S.fl k hk
  have c2 := countP_erase (fun l : Lt => l.ack) L0 S.fl k hk
  have hak := ak_drop S k (S.fl.getD k L0).to hk
  have hdue := h.due _ hto
  have hl := fl_drop_len hk
  unfold WS.dlv
  obtain ⟨l, hlq⟩ : ∃ l, l = S.fl.getD k L0 := ⟨_, rfl⟩
  rw [← hlq] at hfr hto c1 c2 hak hdue
  simp only [← hlq]
  by_cases ha : l.ack = true
  · rw [if_pos ha]
    rw [if_pos ⟨ha, rfl⟩] at hak
    rw [if_neg (by simp [ha])] at c1
    rw [if_pos ha] at c2
    unfold WS.acked
    have h1 := phi_set_same (S.drop k) l.to ⟨((S.drop k).hd l.to).wk, ((S.drop k).hd l.to).par, ((S.drop k).hd l.to).owed - 1⟩ hto rfl
    have h2 := phi_rel (S := (S.drop k).set l.to ⟨((S.drop k).hd l.to).wk, ((S.drop k).hd l.to).par, ((S.drop k).hd l.to).owed - 1⟩) (x := l.to) (by simpa using hto) (by rw [hd_set _ _ _ _ (show l.to < (S.drop k).n from hto), if_pos rfl]; exact h.held _ hto (by omega))
    rw [h1] at h2
    have h3 : (S.drop k).phi + 1 = S.phi := by
      unfold WS.phi
      rw [c1, c2]
      simp only [WS.drop]; omega
    simp only [fl_set] at h2
    omega
  · rw [if_neg ha]
    rw [if_pos (by simpa using ha)] at c1
    rw [if_neg ha] at c2
    have h3 : (S.drop k).phi + 3 = S.phi := by
      unfold WS.phi
      rw [c1, c2]
      simp only [WS.drop]; omega
    unfold WS.take
    by_cases he : (S.drop k).eng l.to = true
    · rw [if_pos he]
      have h1 := phi_set_same (S.drop k) l.to ⟨true, ((S.drop k).hd l.to).par, ((S.drop k).hd l.to).owed⟩ hto rfl
      have h2 : ∀ (T : WS) (a b : Nat), (T.put ⟨a, b, true⟩).phi = T.phi + 1 := fun T a b => by
        unfold WS.phi WS.put
        simp only [List.countP_append, List.countP_cons, List.countP_nil]
        simp; omega
      rw [h2, h1]; omega
    · rw [if_neg he]
      have := countP_set (fun h : Hd => h.par != 0) H0 S.hs l.to ⟨true, l.fr + 1, ((S.drop k).hd l.to).owed⟩ hto
      have hup : ((S.drop k).set l.to ⟨true, l.fr + 1, ((S.drop k).hd l.to).owed⟩).phi ≤ (S.drop k).phi + 2 := by
        unfold WS.phi WS.set
        simp only [WS.drop]
        rw [if_pos (show (l.fr + 1 != 0) = true by simp)] at this
        simp only [WS.drop] at this
        have e3 : ∀ c : Bool, 0 ≤ (if c = true then 1 else 0) := fun c => Nat.zero_le _
        omega
      omega
theorem bounded (d : Nat → Nat) : ∀ n, ∃ M, ∀ i, i < n → d i ≤ M
  | 0 => ⟨0, fun i h => by omega⟩
  | n + 1 => by
    obtain ⟨M, h⟩ := bounded d n
    refine ⟨M + d n, fun i hi => ?_⟩
    by_cases e : i = n
    · subst e; omega
    · have := h i (by omega); omega
theorem kid_of {S : WS} {j : Nat} (h : S.kids j ≠ 0) : ∃ i, i < S.n ∧ (S.hd i).par = j + 1 := by
  unfold WS.kids at h
  have := List.countP_pos_iff.1 (Nat.pos_of_ne_zero h)
  obtain ⟨a, ha, hp⟩ := this
  obtain ⟨i, hi, rfl⟩ := List.mem_iff_getElem.1 ha
  refine ⟨i, hi, ?_⟩
  unfold WS.hd
  rw [List.getD_eq_getElem?_getD, List.getElem?_eq_getElem hi]
  simpa using hp
/-- Nobody works, nothing is on the way: nobody is engaged. -/
theorem quiet {S : WS} (h : Inv S) (hw : ∀ i, i < S.n → (S.hd i).wk = false) (hf : S.fl = []) : ∀ i, i < S.n → (S.hd i).par = 0 ∧ (S.hd i).owed = 0 := by
  have htk : ∀ i, S.tk i = 0 := fun i => by unfold WS.tk; rw [hf]; rfl
  have hak : ∀ i, S.ak i = 0 := fun i => by unfold WS.ak; rw [hf]; rfl
  have hpar : ∀ i, i < S.n → (S.hd i).par = 0 := by
    intro i hi
    rcases Nat.eq_zero_or_pos (S.hd i).par with e | e
    · exact e
    exfalso
    obtain ⟨d, hd⟩ := h.tree
    obtain ⟨M, hM⟩ := bounded d S.n
    have hup : ∀ m, ∃ j, j < S.n ∧ (S.hd j).par ≠ 0 ∧ m ≤ d j := by
      intro m
      induction m with
      | zero => exact ⟨i, hi, by omega, Nat.zero_le _⟩
      | succ m ih =>
        obtain ⟨j, hj, hp, hm⟩ := ih
        have hj0 : j ≠ 0 := fun e => by rw [e] at hp; exact hp h.root
        have ho : (S.hd j).owed ≠ 0 := by
          rcases h.stay j hj hj0 hp with e | e
          · rw [hw j hj] at e; cases e
          · exact e
        have hdue := h.due j hj
        rw [htk, hak] at hdue
        obtain ⟨c, hc, hcp⟩ := kid_of (S := S) (j := j) (by omega)
        have := hd c hc (by omega)
        rw [hcp] at this
        simp only [Nat.add_sub_cancel] at this
        exact ⟨c, hc, by omega, by omega⟩
    obtain ⟨j, hj, _, hm⟩ := hup (M + 1)
    have := hM j hj
    omega
  intro i hi
  refine ⟨hpar i hi, ?_⟩
  have hdue := h.due i hi
  rw [htk, hak] at hdue
  rcases Nat.eq_zero_or_pos (S.kids i) with e | e
  · omega
  · obtain ⟨c, hc, hcp⟩ := kid_of (S := S) (j := i) (by omega)
    rw [hpar c hc] at hcp; omega
/-- It is known to have ended: so it has (D4). -/
theorem ended {S : WS} (h : Inv S) (hw : (S.hd 0).wk = false) (ho : (S.hd 0).owed = 0) : (∀ i, i < S.n → (S.hd i).wk = false ∧ (S.hd i).par = 0 ∧ (S.hd i).owed = 0) ∧ ∀ l ∈ S.fl, l.ack = true := by
  have hn1 := h.n1
  have hdue0 := h.due 0 (by omega)
  obtain ⟨d, hd⟩ := h.tree
  have hpar : ∀ m i, i < S.n → d i ≤ m → (S.hd i).par = 0 := by
    intro m
    induction m with
    | zero =>
      intro i hi hm
      rcases Nat.eq_zero_or_pos (S.hd i).par with e | e
      · exact e
      · have := hd i hi (by omega); omega
    | succ m ih =>
      intro i hi hm
      rcases Nat.eq_zero_or_pos (S.hd i).par with e | e
      · exact e
      exfalso
      have h1 := hd i hi (by omega)
      have h2 := h.par i hi
      have hk := kid_pos (S := S) (i := i) (j := (S.hd i).par - 1) hi (by omega)
      have h3 := h.due ((S.hd i).par - 1) (by omega)
      have h4 := ih ((S.hd i).par - 1) (by omega) (by omega)
      rcases h.held ((S.hd i).par - 1) (by omega) (by omega) with e2 | e2
      · rw [e2] at hk; omega
      · exact e2 h4
  have hp : ∀ i, i < S.n → (S.hd i).par = 0 := fun i hi => hpar (d i) i hi (Nat.le_refl _)
  have hown : ∀ i, i < S.n → (S.hd i).owed = 0 := fun i hi => by
    rcases Nat.eq_zero_or_pos (S.hd i).owed with e | e
    · exact e
    · rcases h.held i hi (by omega) with e2 | e2
      · rw [e2]; exact ho
      · exact absurd (hp i hi) e2
  refine ⟨fun i hi => ⟨?_, hp i hi, hown i hi⟩, fun l hl => ?_⟩
  · cases e : (S.hd i).wk with
    | false => rfl
    | true =>
      rcases h.wkE i hi e with e2 | e2
      · rw [e2, hw] at e; cases e
      · exact absurd (hp i hi) e2
  · cases e : l.ack with
    | true => rfl
    | false =>
      obtain ⟨h1, _⟩ := h.ends l hl
      have h2 := h.due l.fr h1
      rw [hown _ h1] at h2
      have h3 : 0 < S.tk l.fr := by
        unfold WS.tk
        rw [List.countP_pos_iff]
        exact ⟨l, hl, by simp [e]⟩
      omega
theorem countP_lt {α : Type} {p q : α → Bool} : ∀ (xs : List α), (∀ a ∈ xs, p a = true → q a = true) → (∃ a ∈ xs, p a = false ∧ q a = true) → xs.countP p < xs.countP q
  | [], _, h => by obtain ⟨a, ha, _⟩ := h; simp at ha
  | x :: xs, h1, h2 => by
    have hle : xs.countP p ≤ xs.countP q := List.countP_mono_left fun a ha => h1 a (List.mem_cons_of_mem _ ha)
    simp only [List.countP_cons]
    obtain ⟨a, ha, hp, hq⟩ := h2
    rcases List.mem_cons.1 ha with rfl | ha
    · rw [hp, hq]; simp; omega
    · have := countP_lt xs (fun a ha => h1 a (List.mem_cons_of_mem _ ha)) ⟨a, ha, hp, hq⟩
      have hx := h1 x List.mem_cons_self
      cases hpx : p x with
      | false => simp; omega
      | true => rw [hx hpx]; simp; omega
/-- Parents lead to the root in fewer steps than there are workers. -/
theorem rank {S : WS} (h : Inv S) : ∃ r : Nat → Nat, (∀ i, i < S.n → r i < S.n) ∧ ∀ i, i < S.n → (S.hd i).par ≠ 0 → r ((S.hd i).par - 1) < r i := by
  obtain ⟨d, hd⟩ := h.tree
  refine ⟨fun i => (List.range S.n).countP fun j => decide (d j < d i), fun i hi => ?_, fun i hi hp => ?_⟩
  · have := countP_lt (p := fun j => decide (d j < d i)) (q := fun _ => true) (List.range S.n) (fun _ _ _ => rfl) ⟨i, List.mem_range.2 hi, by simp, rfl⟩
    rw [List.countP_true, List.length_range] at this
    exact this
  · have h1 := hd i hi hp
    have h2 := h.par i hi
    refine countP_lt _ (fun a _ ha => ?_) ⟨(S.hd i).par - 1, List.mem_range.2 (by omega), by simp, by simpa using h1⟩
    simp only [decide_eq_true_eq] at ha ⊢; omega
end Go.Proofs.Ytbemlfppekpmjaa.Rng
