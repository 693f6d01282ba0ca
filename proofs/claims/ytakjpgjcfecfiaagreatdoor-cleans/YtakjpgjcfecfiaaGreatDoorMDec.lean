import Derived.Test.YtakjpgjcfecfiaaGreatDoorMRR
/- codec.DecodeManifest, of any bytes. -/
namespace Go.Proofs.YtakjpgjcfecfiaaGreatDoor
open Go.RowKit

theorem decodeM_no (a : Option Addr) (cap n : Nat) (l : List UInt8) (w : World) (hl : l.length = n) (hm : n ≤ 1000000) (hcap : n ≤ cap) (hcm : cap ≤ 9223372036854775807) (hb : Bs w a l) (h : rdOk l = false) :
    Calls Tryz.prog 121 #[.slice a n cap] w fun e w' => e = .returned (.tuple #[zman, .iface 51 (.int .i64 6)]) ∧ Below w.heap.size w w' := by
  by_cases hr : n < 14 ∨ 254 < n
  · exact decodeManifest_len a cap n w hm hr
  · obtain ⟨b, o, rfl, _⟩ := hb 0 (by omega)
    cases hv : validZ (rids l ((n - 14) / 4)) with
    | false => exact decodeManifest_inv b o cap n _ l w hl (by omega) (by omega) rfl hcap hcm hb hv
    | true =>
      refine decodeManifest_neq b o cap n _ l w hl (by omega) (by omega) rfl hcap hcm hb hv (fun e => ?_)
      have hi := rd_iff l (by omega) (by omega)
      rw [hl] at hi
      rw [hi.1 ⟨hv, e.symm⟩] at h
      cases h

theorem decodeM_yes (a : Option Addr) (cap n : Nat) (l : List UInt8) (w : World) (hl : l.length = n) (hcap : n ≤ cap) (hcm : cap ≤ 9223372036854775807) (hb : Bs w a l) (h : rdOk l = true) :
    Calls Tryz.prog 121 #[.slice a n cap] w fun e w' => ∃ g, e = .returned (.tuple #[.agg #[.int .u64 (rgen l : Nat), .slice (some ⟨g, 0, none⟩) (rcnt l) (rcnt l)], .nilIface]) ∧ OwnI w' (w.heap.size + 1) (.slice (some ⟨g, 0, none⟩) (rcnt l) (rcnt l)) (rcnt l) (rids l (rcnt l)) ∧ Below w.heap.size w w' := by
  obtain ⟨h14, h254, hc, _, _⟩ := rd_small l h
  have hm : (n - 14) / 4 = rcnt l := by omega
  have hi := (rd_iff l h14 h254).2 h
  rw [hl, hm] at hi
  obtain ⟨b, o, rfl, _⟩ := hb 0 (by omega)
  exact decodeManifest_eq b o cap n (rcnt l) l w hl (by omega) (by omega) hm.symm hcap hcm hb hi.1 hi.2
end Go.Proofs.YtakjpgjcfecfiaaGreatDoor
