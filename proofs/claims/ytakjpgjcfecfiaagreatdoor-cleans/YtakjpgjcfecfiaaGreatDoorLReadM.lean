import Derived.Test.YtakjpgjcfecfiaaGreatDoorLRead
import Derived.Test.YtakjpgjcfecfiaaGreatDoorLFind
/- directory.readManifest. -/
namespace Go.Proofs.YtakjpgjcfecfiaaGreatDoor
open Go.RowKit Go.Maps Go.Joins

/-- what a slice of the call's own has: bytes, and room for them -/
theorem Own.parts {w : World} {B n : Nat} {v : Value} {l : List UInt8} (h : Own w B v n l) (hm : n ≤ 1000000) : ∃ a cap, v = .slice a n cap ∧ n ≤ cap ∧ cap ≤ 9223372036854775807 ∧ Bs w a l := by
  obtain ⟨a, cap, rfl⟩ := h.sl
  have hs := h.slb hm
  exact ⟨a, cap, rfl, hs.le, Nat.le_trans hs.cap (by decide), hs.bs⟩

set_option maxHeartbeats 400000 in
theorem readManifest_has {w : World} {d c mn ms : Nat} {K : Nat → Prop} {now safe : Names} {mv : Value} {L : List Steps} {room : Int} {F : Files} (h : DiskAt w d K c mn ms now safe mv L room F) (hc : c ≤ 1000000) (l : List UInt8) (hF : F sManifest = some l) :
    Calls Tryz.prog 91 #[.pointer (some ⟨d, 0, none⟩)] w fun e w' => (rdOk l = false ∧ e = .returned (.tuple #[zman, .iface 51 (.int .i64 6)]) ∧ Below w.heap.size w w') ∨
      (rdOk l = true ∧ ∃ g, e = .returned (.tuple #[.agg #[.int .u64 (rgen l : Nat), .slice (some ⟨g, 0, none⟩) (rcnt l) (rcnt l)], .nilIface]) ∧ OwnI w' (w.heap.size + 1) (.slice (some ⟨g, 0, none⟩) (rcnt l) (rcnt l)) (rcnt l) (rids l (rcnt l)) ∧ Below w.heap.size w w') := by
  obtain ⟨b, hb, hn⟩ := h.some_of hF
  have hll := hn.1
  have hB : Below w.heap.size w (w.alloc Z45) := (Below.refl _ w).alloc (Nat.le_refl _) _
  have z0 := ZM.start w
  have h0 := h.below' hB
  have cl := list_any h0.top h0.mnow hc
  go_enter Tryz.func91, Tryz.ntmps91
  go_wp2_with fail
  refine cl.mono ?_
  rintro e w1 ⟨v1, ns, rfl, hrow, hN, hnc, hnl, hB1⟩
  have cc := contains_str hrow (by omega) sManifest
  rw [hN.dec, hb] at cc
  have z1 := z0.step hB1 (by simp)
  have hB2 : Below w.heap.size w w1 := hB.trans (hB1.mono (by simp))
  have hs1 : w.heap.size < w1.heap.size := by have := hB1.size; simp at this; omega
  obtain ⟨a1, cap1, rfl, _⟩ := row_shape hrow
  have h1 := h.below' hB2
  obtain ⟨b', hb', hn1⟩ := h1.some_of hF
  obtain rfl : b' = b := by rw [hb] at hb'; cases hb'; rfl
  have cr := readAll_any w1 d mn ms c b' mv room now sManifest l h1.top h1.mnow (by decide) hb hn1
  clear cl hrow hN z0 hB1 h0 h1 hn1 hb'
  go_wp2_with fail
  refine cc.mono ?_
  rintro e w' ⟨rfl, hw⟩
  rw [hw]
  clear hw cc
  go_wp2_with fail
  refine cr.mono ?_
  rintro e w2 ⟨v2, rfl, ho2, hB3⟩
  obtain ⟨a2, cap2, rfl, hcap, hcm, hbs⟩ := ho2.parts hll
  have z2 := z1.step hB3 hs1
  have hB4 : Below w.heap.size w w2 := hB2.trans (hB3.mono (by omega))
  have hs2 : w.heap.size < w2.heap.size := by have := hB3.size; omega
  clear cr z1 hB2 hB3 ho2
  cases hr : rdOk l with
  | false =>
    have cd := decodeM_no a2 cap2 l.length l w2 rfl hll hcap hcm hbs hr
    go_wp2_with fail
    refine cd.mono ?_
    rintro e w3 ⟨rfl, hB5⟩
    obtain ⟨q0, q1, f0, f1⟩ := z2.step hB5 hs2
    have hB6 : Below w.heap.size w w3 := hB4.trans (hB5.mono (by omega))
    clear cd z2 hB4 hB5 hbs
    go_wp2
    refine bodyPost_ret (v := .tuple #[zman, .iface 51 (.int .i64 6)]) ?_ rfl (.inl ⟨hr, rfl, ?_⟩)
    · simp [results, Tryz.results91, go_sem, q0, q1]
    · exact (hB6.setCell (Nat.le_refl _) _).setCell (Nat.le_refl _) _
  | true =>
    have cd := decodeM_yes a2 cap2 l.length l w2 rfl hcap hcm hbs hr
    go_wp2_with fail
    refine cd.mono ?_
    rintro e w3 ⟨g, rfl, hoi, hB5⟩
    obtain ⟨q0, q1, f0, f1⟩ := z2.step hB5 hs2
    have hB6 : Below w.heap.size w w3 := hB4.trans (hB5.mono (by omega))
    clear cd z2 hB4 hB5 hbs
    go_wp2
    refine bodyPost_ret (v := .tuple #[.agg #[.int .u64 (rgen l : Nat), .slice (some ⟨g, 0, none⟩) (rcnt l) (rcnt l)], .nilIface]) ?_ rfl (.inr ⟨hr, g, rfl, ?_, ?_⟩)
    · simp [results, Tryz.results91, go_sem, q0, q1]
    · have h4 := hoi.mono (show w.heap.size + 1 ≤ _ by omega)
      exact (h4.aside (show w.heap.size < w.heap.size + 1 by omega) _).aside (show w.heap.size < w.heap.size + 1 by omega) _
    · exact (hB6.setCell (Nat.le_refl _) _).setCell (Nat.le_refl _) _
end Go.Proofs.YtakjpgjcfecfiaaGreatDoor
