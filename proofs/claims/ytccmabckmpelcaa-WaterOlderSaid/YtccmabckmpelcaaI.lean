import Derived.Test.YtccmabckmpelcaaH
namespace Go.Proofs.Ytccmabckmpelcaa
open Go.RowKit

def gErr (fs : List Int) (gs : List (List Int)) (ps : List Int) : Int :=
  if rivB fs gs = false then 1 else if grpFrom fs.length 0 ps = false then 2 else 0
def grpRes (er : Int) (u v : Value) : Ending := if er = 0 then .returned (.tuple #[.agg #[u, v], .int .i64 0]) else .returned (.tuple #[.agg #[.slice none 0 0, .slice none 0 0], .int .i64 er])

set_option maxHeartbeats 2000000 in
set_option maxRecDepth 100000 in
theorem group46 {w : World} {u v z : Value} {fs ps : List Int} {gs : List (List Int)} (h : Riv w u v fs gs) (hz : Reads w z ps) (hul : ps.length ≤ 1000000) :
    Calls Try.prog 46 #[u, v, z] w fun e w' => e = grpRes (gErr fs gs ps) u v ∧ Below w.heap.size w w' := by
  have h' := Lib.hid h
  have hz' := Lib.hid hz
  have hfl := h.2.2.1
  obtain ⟨fo, fc, rfl, _, _⟩ := h.1
  obtain ⟨go, gc, rfl, _, _⟩ := h.2.1
  obtain ⟨zo, zc, rfl, _, h2⟩ := hz
  clear h
  have hb0 : Below w.heap.size w (w.alloc (Obj.cells #[Value.slice none 0 0, Value.slice none 0 0] 57)) := (Below.refl _ _).alloc (Nat.le_refl _) _
  by_cases hr : rivB fs gs = true
  · by_cases hp : grpFrom fs.length 0 ps = true
    · have he0 : gErr fs gs ps = 0 := by unfold gErr; rw [if_neg (by rw [hr]; simp), if_neg (by rw [hp]; simp)]
      rw [he0]
      go_enter Try.func46, Try.ntmps46
      go_wp2_with fail
      refine (h'.out.below hb0).river.mono ?_
      rw [rivRes_yes hr]
      rintro e w1 ⟨rfl, hb1⟩
      have hb01 := below_call hb0 hb1
      have hh := Lib.hid ((hb1.block w.heap.size (by simp)).trans (heap_alloc_new w _))
      have hs1 := hb1.size
      simp at hs1
      have hlt1 : w.heap.size < w1.heap.size := by omega
      have c0 : w1.cell? ⟨w.heap.size, 0, none⟩ = some (.slice none 0 0) := (hb1.cell (p := ⟨w.heap.size, 0, none⟩) (by simp)).trans (by rw [World.cell?_alloc_at (hn := rfl)]; rfl)
      have c1 : w1.cell? ⟨w.heap.size, 1, none⟩ = some (.slice none 0 0) := (hb1.cell (p := ⟨w.heap.size, 1, none⟩) (by simp)).trans (by rw [World.cell?_alloc_at (hn := rfl)]; rfl)
      have f0 : ∀ j, w1.frozen? ⟨w.heap.size, j, none⟩ = false := fun j => frozen_of_row w1 w.heap.size j _ 57 hh.out
      have hb2 : Below w.heap.size w (w1.alloc (.cells #[.slice fo fs.length fc, .slice go gs.length gc] 57)) := hb01.alloc (by omega) _
      go_wp2_with fail
      refine (group56 (hz'.out.below hb2) hul fs.length hfl).mono ?_
      rintro e w2 ⟨rfl, rfl⟩
      rw [hp]
      go_wp2_with fail
      (try simp only [Exit.inBlock, Exit.then])
      refine bodyPost_ret (v := .tuple #[.agg #[.slice fo fs.length fc, .slice go gs.length gc], .int .i64 0]) (by rw [results_cell_tmp rfl]; go_simp) rfl ⟨rfl, (below_set (below_set hb01 (Nat.le_refl _)) (Nat.le_refl _)).alloc (by simp; omega) _⟩
    · have hp1 : grpFrom fs.length 0 ps = false := by simpa using hp
      have he0 : gErr fs gs ps = 2 := by unfold gErr; rw [if_neg (by rw [hr]; simp), if_pos hp1]
      rw [he0]
      go_enter Try.func46, Try.ntmps46
      go_wp2_with fail
      refine (h'.out.below hb0).river.mono ?_
      rw [rivRes_yes hr]
      rintro e w1 ⟨rfl, hb1⟩
      have hb01 := below_call hb0 hb1
      have hh := Lib.hid ((hb1.block w.heap.size (by simp)).trans (heap_alloc_new w _))
      have hs1 := hb1.size
      simp at hs1
      have hlt1 : w.heap.size < w1.heap.size := by omega
      have c0 : w1.cell? ⟨w.heap.size, 0, none⟩ = some (.slice none 0 0) := (hb1.cell (p := ⟨w.heap.size, 0, none⟩) (by simp)).trans (by rw [World.cell?_alloc_at (hn := rfl)]; rfl)
      have c1 : w1.cell? ⟨w.heap.size, 1, none⟩ = some (.slice none 0 0) := (hb1.cell (p := ⟨w.heap.size, 1, none⟩) (by simp)).trans (by rw [World.cell?_alloc_at (hn := rfl)]; rfl)
      have f0 : ∀ j, w1.frozen? ⟨w.heap.size, j, none⟩ = false := fun j => frozen_of_row w1 w.heap.size j _ 57 hh.out
      have hb2 : Below w.heap.size w (w1.alloc (.cells #[.slice fo fs.length fc, .slice go gs.length gc] 57)) := hb01.alloc (by omega) _
      go_wp2_with fail
      refine (group56 (hz'.out.below hb2) hul fs.length hfl).mono ?_
      rintro e w2 ⟨rfl, rfl⟩
      rw [hp1]
      go_wp2_with fail
      (try simp only [Exit.inBlock, Exit.then])
      refine bodyPost_ret (v := .tuple #[.agg #[.slice none 0 0, .slice none 0 0], .int .i64 2]) (by rw [results_cell_tmp rfl]; go_simp) rfl ⟨rfl, (below_set (below_set hb01 (Nat.le_refl _)) (Nat.le_refl _)).alloc (by simp; omega) _⟩
  · have hr1 : rivB fs gs = false := by simpa using hr
    have he0 : gErr fs gs ps = 1 := by unfold gErr; rw [if_pos hr1]
    rw [he0]
    go_enter Try.func46, Try.ntmps46
    go_wp2_with fail
    refine (h'.out.below hb0).river.mono ?_
    rw [rivRes_no hr1]
    rintro e w1 ⟨rfl, hb1⟩
    have hb01 := below_call hb0 hb1
    have hh := Lib.hid ((hb1.block w.heap.size (by simp)).trans (heap_alloc_new w _))
    have hs1 := hb1.size
    simp at hs1
    have hlt1 : w.heap.size < w1.heap.size := by omega
    have c0 : w1.cell? ⟨w.heap.size, 0, none⟩ = some (.slice none 0 0) := (hb1.cell (p := ⟨w.heap.size, 0, none⟩) (by simp)).trans (by rw [World.cell?_alloc_at (hn := rfl)]; rfl)
    have c1 : w1.cell? ⟨w.heap.size, 1, none⟩ = some (.slice none 0 0) := (hb1.cell (p := ⟨w.heap.size, 1, none⟩) (by simp)).trans (by rw [World.cell?_alloc_at (hn := rfl)]; rfl)
    have f0 : ∀ j, w1.frozen? ⟨w.heap.size, j, none⟩ = false := fun j => frozen_of_row w1 w.heap.size j _ 57 hh.out
    have hb2 : Below w.heap.size w (w1.alloc (.cells #[.slice none 0 0, .slice none 0 0] 57)) := hb01.alloc (by omega) _
    go_wp2_with fail
    (try simp only [Exit.inBlock, Exit.then])
    refine bodyPost_ret (v := .tuple #[.agg #[.slice none 0 0, .slice none 0 0], .int .i64 1]) (by rw [results_cell_tmp rfl]; go_simp) rfl ⟨rfl, (below_set (below_set hb01 (Nat.le_refl _)) (Nat.le_refl _)).alloc (by simp; omega) _⟩
end Go.Proofs.Ytccmabckmpelcaa
