import Derived.Test.YtakjpgjcfecfiaaGreatDoorFixed
import Derived.Deep.RegionWith
/- seal: the sum of all that follows, at the front. -/
namespace Go.Proofs.YtakjpgjcfecfiaaGreatDoor
open Go.RowKit

theorem sum_at (g o cap n : Nat) (l : List UInt8) (w : World) (hl : n ≤ 2000000) (hn : l.length = n) (h : Bs w (some ⟨g, o, none⟩) l) :
    Calls Tryz.prog 218 #[.slice (some ⟨g, o, none⟩) n cap] w fun e w' => e = .returned (.int .u32 (crc l : Nat)) ∧ w' = w := by
  subst hn; exact sum_any _ _ _ _ hl h
theorem Own.drewN {w : World} {base n : Nat} {v : Value} {l : List UInt8} (h : Own w base v n l) (k : Nat) : Own (w.drewN k) base v n l := h.kept (below_drewN (Below.refl w.heap.size w) k) (Nat.le_refl _)

set_option maxRecDepth 100000 in
set_option maxHeartbeats 400000 in
theorem seal_any (g cap N base : Nat) (l : List UInt8) (w : World) (hN : 5 ≤ N) (hN2 : N ≤ 2000000) (hcap : N ≤ cap) (hcm : cap ≤ 9223372036854775807) (hown : Own w base (.slice (some ⟨g, 0, none⟩) N cap) N l) :
    Calls Tryz.prog 193 #[.slice (some ⟨g, 0, none⟩) N cap] w fun e w' => e = .returned (.tuple #[]) ∧
      Own w' base (.slice (some ⟨g, 0, none⟩) N cap) N (splice l 0 (be 4 (crc (l.drop 4)))) ∧ w.grownBy w' (some g) := by
  have n4 : ¬ cap = 4 := by omega
  have l4 : (4 : Int) ≤ (N : Int) := by omega
  have l5 : (4 : Int) ≤ (cap : Int) := by omega
  have ho1 : Own w.drew base (.slice (some ⟨g, 0, none⟩) N cap) N l := hown.drewN 1
  have hlN := hown.1
  have hbs : Bs w.drew (some ⟨g, 4, none⟩) (l.drop 4) := by
    have := ho1.bs 4 (N - 4) (by omega)
    rwa [List.take_of_length_le (by simp; omega)] at this
  have hcr := crc_lt (l.drop 4)
  have cs := fun c => sum_at g 4 c (N - 4) (l.drop 4) w.drew (by omega) (by simp; omega) hbs
  have cp := put_z (IntKind.u64.wrap ((crc (l.drop 4) : Nat) : Int)) g 0 cap 4 cap (crc (l.drop 4)) N base l w.drew (wrap64_nat _ (by omega)) (by omega) (by omega) (by omega) ho1
  clear hbs hlN
  go_enter Tryz.func193, Tryz.ntmps193
  go_region_with (first | (go_at_call 218; refine (cs _).mono ?_; rintro e w' ⟨rfl, rfl⟩) | (go_at_call 192; refine cp.mono ?_; rintro e w' ⟨rfl, hw⟩))
  all_goals (go_end0; exact ⟨rfl, hw.1, grown_trans (b := w.drew) ⟨rfl, rfl, rfl, Nat.le_refl _, fun _ _ _ => rfl⟩ hw.2⟩)
end Go.Proofs.YtakjpgjcfecfiaaGreatDoor
