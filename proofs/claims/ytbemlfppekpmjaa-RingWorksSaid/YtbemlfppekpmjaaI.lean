import Derived.Test.YtbemlfppekpmjaaH
import Derived.Deep.RegionWith
namespace Go.Proofs.Ytbemlfppekpmjaa
open Go.RowKit Rng
set_option maxHeartbeats 2000000 in
set_option maxRecDepth 100000 in
theorem clone33 {w : World} {B b h c : Nat} {fv : Value} {S : WS} (k : WkAt w B b h c fv S) (hn1 : 1 ≤ S.n) (hn10 : S.n ≤ 10) (hl : S.fl.length ≤ 1000) : Calls Try.prog 33 #[.pointer (some ⟨b, 0, none⟩)] w (NewW w S) := by
  have c0 := k.c0
  have c1 := k.c1
  have c2 := k.c2
  have ht := Lib.hid (there61 c0)
  have hfh := own_flatR k.hn
  have hff := own_flatR k.fl
  have hc1 := Lib.hid (fun (W : World) (hb : Below w.heap.size w W) => clone71 (hfh.below hb) (show S.hs.length ≤ 1000 by unfold WS.n at hn10; omega))
  have hc2 := Lib.hid (fun (W : World) (hb : Below w.heap.size w W) => clone72 (hff.below hb) hl)
  have c2' := Lib.hid (fun (W : World) (hb : Below w.heap.size w W) => (hb.cell (p := ⟨b, 2, none⟩) k.bw).trans c2)
  obtain ⟨ao, fc, rfl, -⟩ := k.flv
  have hn' := Lib.hid (show S.hs.length = S.n from rfl)
  obtain ⟨m, hm⟩ : ∃ m, m = S.fl.length := ⟨_, rfl⟩
  obtain ⟨n, hn⟩ : ∃ n, n = S.n := ⟨_, rfl⟩
  rw [← hm] at c2 hc2 c2'
  rw [← hn] at c1 hc1 hn' hn1
  rw [hn'.out] at hc1
  have hm' := Lib.hid hm
  have hn2 := Lib.hid hn
  have hnw := Lib.hid (fun (W : World) (B h c : Nat) (fv : Value) (hh : OwnH W B (.slice (some ⟨h, 0, none⟩) n c) S.hs) (hf : OwnL W B fv S.fl) (hne : fv.ownBlock ≠ some h) => (by have := new52 (S := S) (c := c) (by rw [← hn2.out]; exact hh) hf hne; rw [← hn2.out] at this; exact this : Calls Try.prog 52 #[.slice (some ⟨h, 0, none⟩) n c, fv] W (fun e w' => e = .returned (.pointer (some ⟨W.heap.size, 0, none⟩)) ∧ (B ≤ W.heap.size → WkAt w' B W.heap.size h c fv S) ∧ Below W.heap.size W w')))
  clear k hl hfh hff hn10 hm hn
  go_enter Try.func33, Try.ntmps33
  go_wp2_with (go_at_call 61; refine ht.out.mono ?_; rintro e wj ⟨rfl, rfl⟩)
  go_region_with (first
    | (go_at_call 71; refine (hc1.out _ ?_).mono ?_; (first | exact Below.refl _ _ | exact (Below.refl _ _).drew); clear hc1; rintro e w1 ⟨v1, rfl, ho1, hb0⟩
       have hb1 : Below w.heap.size w w1 := (Below.refl w.heap.size w).drew.trans hb0
       clear hb0
       have y2 := c2'.out _ hb1
       have ho1' := Lib.hid ho1
       have hb1' := Lib.hid hb1
       have hc2' := hc2.out _ hb1
       have hc2'' := Lib.hid hc2'
       obtain ⟨g1, k1, rfl⟩ : ∃ g c, v1 = .slice (some ⟨g, 0, none⟩) n c := by
         obtain ⟨_, c, e, _, h⟩ := own_cells ho1
         obtain ⟨g, e2, _⟩ := h (by omega)
         exact ⟨g, c, by rw [e, e2]⟩
       clear ho1 hb1 hc2')
    | (go_at_call 72; refine hc2''.out.mono ?_; rintro e w2 ⟨v2, rfl, ho2, hb2⟩
       have ho1b := Lib.hid (own_below ho1'.out hb2)
       have hb2' := Lib.hid (hb1'.out.trans (hb2.mono hb1'.out.size))
       have hsz := Lib.hid hb1'.out.size
       have ho2' := Lib.hid ho2
       have hlt := Lib.hid (World.ownsRow.lt ho1'.out _ rfl).2
       clear ho2 hb2)
    | (go_at_call 52; refine (hnw.out _ w.heap.size _ _ _ ?_ ?_ ?_).mono ?_
       · unfold OwnH; rw [hn'.out]; exact ho1b.out
       · unfold OwnL; rw [← hm'.out]; exact own_base ho2'.out hsz.out
       · intro e
         have h1 := (World.ownsRow.lt ho2'.out _ e).1
         have h2 := hlt.out
         omega
       rintro e w3 ⟨rfl, kk, hb3⟩
       have kk' := Lib.hid (kk hb2'.out.size)
       have hb3' := Lib.hid (hb2'.out.trans (hb3.mono hb2'.out.size))
       clear kk hb3))
  all_goals (go_wp2; go_ret; exact ⟨_, _, _, _, rfl, kk'.out, hb3'.out⟩)
end Go.Proofs.Ytbemlfppekpmjaa
