import Derived.Test.YtakjpgjcfecfiaaGreatDoorAs
import Derived.Deep.QuietTactic
import Derived.BigQuiet
/- api.Tell of nil and of an api.Errno. -/
namespace Go.Proofs.YtakjpgjcfecfiaaGreatDoor
open Go.RowKit

/-- the library's one variable, as the program's text lays it -/
def Laid (w : World) : Prop := w.cell? ⟨0, 0, none⟩ = some (.iface 267 (.agg #[.pointer (some ⟨7, 40, none⟩)]))
theorem Laid.lt {w : World} (h : Laid w) : 0 < w.heap.size := by
  rcases Nat.lt_or_ge 0 w.heap.size with h1 | h1
  · exact h1
  · unfold Laid at h; simp [World.cell?, Array.getElem?_eq_none h1] at h
theorem Laid.below {w w' : World} {B : Nat} (h : Laid w) (hb : Below B w w') (hB : w.heap.size ≤ B) : Laid w' :=
  (hb.cell (p := ⟨0, 0, none⟩) (Nat.lt_of_lt_of_le h.lt hB)).trans h

set_option maxHeartbeats 400000 in
theorem tell_nil (w : World) : Calls Tryz.prog 21 #[.nilIface] w fun e w' => e = .returned (.tuple #[.int .i64 0, .string ⟨#[]⟩]) ∧ Below w.heap.size w w' := by
  go_enter Tryz.func21, Tryz.ntmps21
  go_wp2
  go_ret2
  exact ⟨rfl, ((Below.refl _ w).alloc (Nat.le_refl _) _).alloc (by simp) _⟩

set_option maxHeartbeats 1000000 in
theorem tell_errno (n : Int) (w : World) (hL : Laid w) :
    Calls Tryz.prog 21 #[.iface 51 (.int .i64 n)] w fun e w' => e = .returned (.tuple #[.int .i64 n, .string ⟨#[]⟩]) ∧ Below w.heap.size w w' := by
  have hb0 : Below w.heap.size w ((w.alloc (.cells #[.int .i64 0] 51)).alloc (.cells #[.pointer none] 144)) := ((Below.refl _ w).alloc (Nat.le_refl _) _).alloc (by simp) _
  have hL0 := hL.below hb0 (Nat.le_refl _)
  go_enter Tryz.func21, Tryz.ntmps21
  go_wp2_with fail
  refine (as_miss n _ _ hL0).mono ?_
  rintro e w1 ⟨rfl, hb1⟩
  have hL1 := hL0.below hb1 (Nat.le_refl _)
  have hs1 : w.heap.size + 1 + 1 ≤ w1.heap.size := by have := hb1.size; simpa using this
  have hc1 : w1.cell? ⟨w.heap.size, 0, none⟩ = some (.int .i64 0) := by rw [hb1.cell (by simp; omega)]; simp
  have hf1 : w1.frozen? ⟨w.heap.size, 0, none⟩ = false := by rw [hb1.frozen (by simp; omega)]; simp
  have hB1 : Below w.heap.size w w1 := hb0.trans (hb1.mono (by simp; omega))
  clear hb1 hb0
  go_wp2_with fail
  refine (as_hit n _ _ _ hc1 hf1 hL1).mono ?_
  rintro e w2 ⟨rfl, w3, hb3, hw2⟩
  have hB3 : Below w.heap.size w w3 := hB1.trans (hb3.mono (by omega))
  have hlt : w.heap.size < w3.heap.size := by have := hb3.size; omega
  have hc3 : w3.cell? ⟨w.heap.size, 0, none⟩ = some (.int .i64 0) := (hb3.cell (by show w.heap.size < _; omega)).trans hc1
  have hc2 : w2.cell? ⟨w.heap.size, 0, none⟩ = some (.int .i64 n) := by rw [hw2]; exact World.cell?_setCell_same _ _ _ hc3
  have hB2 : Below w.heap.size w w2 := by rw [hw2]; exact hB3.setCell (Nat.le_refl _) _
  clear hw2 hb3 hc1 hf1 hc3
  go_wp2
  go_ret2
  exact ⟨rfl, hB2⟩
end Go.Proofs.YtakjpgjcfecfiaaGreatDoor
