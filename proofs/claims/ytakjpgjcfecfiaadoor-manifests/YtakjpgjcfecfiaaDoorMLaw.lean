import Derived.Test.YtakjpgjcfecfiaaDoorMRR
import Derived.Test.YtakjpgjcfecfiaaDoorRec
/- manifest: ReadManifest of some bytes answers as the document does. -/
namespace Go.Proofs.YtakjpgjcfecfiaaDoor
open Go.RowKit

set_option maxRecDepth 100000 in
set_option maxHeartbeats 400000 in
theorem readManifest_bad (a : Option Addr) (cap n : Nat) (w : World)
    (he : ∀ W, Below w.heap.size w W → Calls Tryd.prog 38 #[.slice a n cap] W fun e w' => e = .returned (.tuple #[zman, .iface 30 (.int .i64 6)]) ∧ Below W.heap.size W w') :
    Calls Tryd.prog 26 #[.slice a n cap] w fun e w' => e = .returned (.tuple #[zman, .iface 30 (.int .i64 6)]) ∧ Below w.heap.size w w' := by
  have hB : Below w.heap.size w (w.alloc Z45) := (Below.refl _ w).alloc (Nat.le_refl _) _
  have z0 := ZM.start w
  go_enter Tryd.func26, Tryd.ntmps26
  go_wp2_with fail
  refine (he _ hB).mono ?_
  rintro e w1 ⟨rfl, hb1⟩
  obtain ⟨q0, q1, f0, f1⟩ := z0.step hb1 (by simp)
  have hB1 : Below w.heap.size w w1 := hB.trans (hb1.mono (by simp))
  clear hb1 he z0 hB
  go_wp2
  refine bodyPost_ret (v := .tuple #[zman, .iface 30 (.int .i64 6)]) ?_ rfl ⟨rfl, ?_⟩
  · simp [results, Tryd.results26, go_sem, q0, q1]
  · exact (hB1.setCell (Nat.le_refl _) _).setCell (Nat.le_refl _) _

set_option maxRecDepth 100000 in
set_option maxHeartbeats 400000 in
theorem readManifest_good (a : Option Addr) (cap n m gen : Nat) (z : List Int) (w : World)
    (he : ∀ W, Below w.heap.size w W → Calls Tryd.prog 38 #[.slice a n cap] W fun e w' => ∃ g, e = .returned (.tuple #[.agg #[.int .u64 (gen : Int), .slice (some ⟨g, 0, none⟩) m m], .nilIface]) ∧ OwnI w' (W.heap.size + 1) (.slice (some ⟨g, 0, none⟩) m m) m z ∧ Below W.heap.size W w') :
    Calls Tryd.prog 26 #[.slice a n cap] w fun e w' => ∃ g, e = .returned (.tuple #[.agg #[.int .u64 (gen : Int), .slice (some ⟨g, 0, none⟩) m m], .nilIface]) ∧ OwnI w' (w.heap.size + 1) (.slice (some ⟨g, 0, none⟩) m m) m z ∧ Below w.heap.size w w' := by
  have hB : Below w.heap.size w (w.alloc Z45) := (Below.refl _ w).alloc (Nat.le_refl _) _
  have z0 := ZM.start w
  go_enter Tryd.func26, Tryd.ntmps26
  go_wp2_with fail
  refine (he _ hB).mono ?_
  rintro e w1 ⟨g, rfl, ho, hb1⟩
  obtain ⟨q0, q1, f0, f1⟩ := z0.step hb1 (by simp)
  have hB1 : Below w.heap.size w w1 := hB.trans (hb1.mono (by simp))
  have ho1 := ho.mono (show w.heap.size + 1 ≤ _ by simp)
  clear hb1 he z0 hB ho
  go_wp2
  refine bodyPost_ret (v := .tuple #[.agg #[.int .u64 (gen : Int), .slice (some ⟨g, 0, none⟩) m m], .nilIface]) ?_ rfl ⟨g, rfl, ?_, ?_⟩
  · simp [results, Tryd.results26, go_sem, q0, q1]
  · exact (ho1.aside (show w.heap.size < w.heap.size + 1 by omega) _).aside (show w.heap.size < w.heap.size + 1 by omega) _
  · exact (hB1.setCell (Nat.le_refl _) _).setCell (Nat.le_refl _) _

theorem readM_no (a : Option Addr) (cap n : Nat) (l : List UInt8) (w : World) (hl : l.length = n) (hm : n ≤ 1000000) (hcap : n ≤ cap) (hcm : cap ≤ 9223372036854775807) (hb : Bs w a l) (h : rdOk l = false) :
    Calls Tryd.prog 26 #[.slice a n cap] w fun e w' => e = .returned (.tuple #[zman, .iface 30 (.int .i64 6)]) ∧ Below w.heap.size w w' := by
  refine readManifest_bad a cap n w (fun W hW => ?_)
  by_cases hr : n < 14 ∨ 254 < n
  · exact decodeManifest_len a cap n W hm hr
  · obtain ⟨b, o, rfl, _⟩ := hb 0 (by omega)
    have hbW := hb.kept hW (Nat.le_refl _)
    cases hv : validZ (rids l ((n - 14) / 4)) with
    | false => exact decodeManifest_inv b o cap n _ l W hl (by omega) (by omega) rfl hcap hcm hbW hv
    | true =>
      refine decodeManifest_neq b o cap n _ l W hl (by omega) (by omega) rfl hcap hcm hbW hv (fun e => ?_)
      have hi := rd_iff l (by omega) (by omega)
      rw [hl] at hi
      rw [hi.1 ⟨hv, e.symm⟩] at h
      cases h

theorem readM_yes (a : Option Addr) (cap n : Nat) (l : List UInt8) (w : World) (hl : l.length = n) (hcap : n ≤ cap) (hcm : cap ≤ 9223372036854775807) (hb : Bs w a l) (h : rdOk l = true) :
    Calls Tryd.prog 26 #[.slice a n cap] w fun e w' => ∃ g, e = .returned (.tuple #[.agg #[.int .u64 (rgen l : Nat), .slice (some ⟨g, 0, none⟩) (rcnt l) (rcnt l)], .nilIface]) ∧ OwnI w' (w.heap.size + 1) (.slice (some ⟨g, 0, none⟩) (rcnt l) (rcnt l)) (rcnt l) (rids l (rcnt l)) ∧ Below w.heap.size w w' := by
  obtain ⟨h14, h254, hc, _, _⟩ := rd_small l h
  have hm : (n - 14) / 4 = rcnt l := by omega
  have hi := (rd_iff l h14 h254).2 h
  rw [hl, hm] at hi
  obtain ⟨b, o, rfl, _⟩ := hb 0 (by omega)
  exact readManifest_good _ cap n (rcnt l) (rgen l) (rids l (rcnt l)) w (fun W hW => decodeManifest_eq b o cap n (rcnt l) l W hl (by omega) (by omega) hm.symm hcap hcm (hb.kept hW (Nat.le_refl _)) hi.1 hi.2)

set_option maxHeartbeats 400000 in
/-- two slices that hold the same numbers -/
theorem sameNumbers_yes (a c : Option Addr) (cap cap' n : Nat) (z : List Int) (w : World) (hn : z.length = n) (_hm : n ≤ 100000) (h : Is w a z) (h' : Is w c z) :
    Calls Tryd.prog 13 #[.slice a n cap, .slice c n cap'] w fun e w' => e = .returned (.bool true) ∧ ∃ q, w' = w.drewN q := by
  have hb : ((n : Int) != (n : Int)) = false := by simp
  go_enter Tryd.func13, Tryd.ntmps13
  go_wp2
  go_loopw [4, 5] (fun _ i wr => ∃ k : Nat, k ≤ n ∧ i = .int .i64 k ∧ ∃ q, wr = w.drewN q) (fun _ i _ => n - (intOf i).toNat)
  case atStart => exact ⟨0, Nat.zero_le _, rfl, 0, rfl⟩
  case round =>
    obtain ⟨k, hk, rfl, q, rfl⟩ := hrel
    by_cases hlt : k < n
    · obtain ⟨b, o, rfl, hc⟩ := h k (by omega)
      obtain ⟨b', o', rfl, hc'⟩ := h' k (by omega)
      have hkl : (k : Int) < (n : Int) := by omega
      have hne : (zat z k != zat z k) = false := by simp
      go_wp2
      go_quiet (fail)
      go_wp2
      go_roundw
      case rel => exact ⟨k + 1, by omega, by go_num, _, by first | rfl | exact World.drewN_drewN _ _ _⟩
      case measure => simp [intOf]; omega
    · go_wp2
      go_ret
      exact ⟨rfl, q, rfl⟩

set_option maxRecDepth 100000 in
set_option maxHeartbeats 1000000 in
theorem manifest_bad (a : Option Addr) (cap n : Nat) (l : List UInt8) (w : World) (hL : Laid w) (hl : l.length = n) (hn : n ≤ 90000) (hcap : n ≤ cap) (hcm : cap ≤ 9223372036854775807) (hb : Bs w a l) (h : rdOk l = false) :
    Calls Tryd.prog 15 #[.slice a n cap] w fun e w' => e = .returned (.bool true) ∧ Below w.heap.size w w' := by
  have hnil := fun W => Lib.run_eql_slice_nil (P := Tryd.prog) W 42 3 none 0 0 0 0 Tryd.underlying42
  go_enter Tryd.func15, Tryd.ntmps15
  go_wp2_with fail
  refine (roomy_any a cap n l w hl (by omega) hb).mono ?_
  rintro e w1 ⟨rfl, ho1, hb1⟩
  have hs1 := ho1.lt _ rfl
  have hbs1 : Bs w1 (some ⟨w.heap.size, 0, none⟩) l := by
    have := ho1.bs 0 n (by omega)
    rwa [List.drop_zero, List.take_left' hl] at this
  go_wp2_with fail
  refine (readM_no _ (n + 2) n l w1 hl (by omega) (by omega) (by omega) hbs1 h).mono ?_
  rintro e w2 ⟨rfl, hb2⟩
  have ho2 := ho1.kept hb2 (Nat.le_refl _)
  have hs2 := hb2.size
  have hB2 : Below w.heap.size w w2 := hb1.trans (hb2.mono (by omega))
  clear hb2 hb1 ho1 hbs1
  have hB3 : Below w.heap.size w (w2.alloc Z45) := hB2.alloc (by omega) _
  have ho3 := ho2.alloc Z45
  go_wp2_with fail
  refine (tell_errno 6 _ (hL.below hB3 (Nat.le_refl _))).mono ?_
  rintro e w3 ⟨rfl, hb3⟩
  have ho4 := ho3.kept hb3 (Nat.le_refl _)
  have hs3 : w2.heap.size + 1 ≤ w3.heap.size := by have := hb3.size; simpa using this
  have hB4 : Below w.heap.size w w3 := hB3.trans (hb3.mono (by simp; omega))
  have r0 : w3.cell? ⟨w2.heap.size, 0, none⟩ = some (.int .u64 0) := by rw [hb3.cell (by simp)]; simp
  have r1 : w3.cell? ⟨w2.heap.size, 1, none⟩ = some (.slice none 0 0) := by rw [hb3.cell (by simp)]; simp
  clear hb3 ho3 hB3 ho2 hB2
  go_wp2_with fail
  refine (still_any w.heap.size w.heap.size a cap n l w3 hl hn (hb.kept hB4 (Nat.le_refl _)) ho4).mono ?_
  rintro e w4 ⟨rfl, hg4⟩
  have hB5 : Below w.heap.size w w4 := hB4.trans (grown_below hg4 (Nat.le_refl _) (by omega))
  have hc4 : ∀ j, w4.cell? ⟨w2.heap.size, j, none⟩ = w3.cell? ⟨w2.heap.size, j, none⟩ := fun j => World.cell?_of_block (hg4.block _ (by show w2.heap.size < _; omega) (by simp; omega))
  have t0 := (hc4 0).trans r0
  have t1 := (hc4 1).trans r1
  have hs4 := hg4.size
  clear hg4 ho4 hc4 r0 r1
  go_wp2_with fail
  refine (refReadM_no a cap n l w4 hl (by omega) hcap hcm (hb.kept hB5 (Nat.le_refl _)) h).mono ?_
  rintro e w5 ⟨rfl, hb5⟩
  have hc5 : ∀ j, w5.cell? ⟨w2.heap.size, j, none⟩ = w4.cell? ⟨w2.heap.size, j, none⟩ := fun j => hb5.cell (by show w2.heap.size < _; omega)
  have u0 := (hc5 0).trans t0
  have u1 := (hc5 1).trans t1
  have hs5 := hb5.size
  have hB6 : Below w.heap.size w w5 := hB5.trans (hb5.mono (by omega))
  clear hb5 hc5 t0 t1
  go_wp2
  go_ret
  exact ⟨rfl, hB6⟩

set_option maxRecDepth 100000 in
set_option maxHeartbeats 1000000 in
theorem manifest_good (a : Option Addr) (cap n : Nat) (l : List UInt8) (w : World) (hl : l.length = n) (hn : n ≤ 90000) (hcap : n ≤ cap) (hcm : cap ≤ 9223372036854775807) (hb : Bs w a l) (h : rdOk l = true) :
    Calls Tryd.prog 15 #[.slice a n cap] w fun e w' => e = .returned (.bool true) ∧ Below w.heap.size w w' := by
  have hm254 : 14 + 4 * rcnt l ≤ 254 := by have := rd_small l h; omega
  have hzl := rids_length l (rcnt l)
  have cd : ∀ W, Bs W (some ⟨w.heap.size, 0, none⟩) l → _ := fun W hW => readM_yes (some ⟨w.heap.size, 0, none⟩) (n + 2) n l W hl (by omega) (by omega) hW h
  have cr : ∀ W, Bs W a l → _ := fun W hW => refReadM_yes a cap n l W hl hcap hcm hW h
  generalize rgen l = gen at *
  generalize rids l (rcnt l) = z at *
  generalize rcnt l = m at *
  go_enter Tryd.func15, Tryd.ntmps15
  go_wp2_with fail
  refine (roomy_any a cap n l w hl (by omega) hb).mono ?_
  rintro e w1 ⟨rfl, ho1, hb1⟩
  have hs1 := ho1.lt _ rfl
  have hbs1 : Bs w1 (some ⟨w.heap.size, 0, none⟩) l := by
    have := ho1.bs 0 n (by omega)
    rwa [List.drop_zero, List.take_left' hl] at this
  go_wp2_with fail
  refine (cd w1 hbs1).mono ?_
  rintro e w2 ⟨g, rfl, hoi, hb2⟩
  have hgi := hoi.lt _ rfl
  have ho2 := ho1.kept hb2 (Nat.le_refl _)
  have hs2 := hb2.size
  have hB2 : Below w.heap.size w w2 := hb1.trans (hb2.mono (by omega))
  clear hb2 hb1 ho1 hbs1
  have hB3 : Below w.heap.size w (w2.alloc (.cells #[.int .u64 (gen : Int), .slice (some ⟨g, 0, none⟩) m m] 45)) := hB2.alloc (by omega) _
  have ho3 := ho2.alloc (.cells #[.int .u64 (gen : Int), .slice (some ⟨g, 0, none⟩) m m] 45)
  have hoi3 := hoi.alloc (.cells #[.int .u64 (gen : Int), .slice (some ⟨g, 0, none⟩) m m] 45)
  go_wp2_with fail
  refine (tell_nil _).mono ?_
  rintro e w3 ⟨rfl, hb3⟩
  have ho4 := ho3.kept hb3 (Nat.le_refl _)
  have hoi4 := hoi3.kept hb3 (Nat.le_refl _)
  have hs3 : w2.heap.size + 1 ≤ w3.heap.size := by have := hb3.size; simpa using this
  have hB4 : Below w.heap.size w w3 := hB3.trans (hb3.mono (by simp; omega))
  have r0 : w3.cell? ⟨w2.heap.size, 0, none⟩ = some (.int .u64 (gen : Int)) := by rw [hb3.cell (by simp)]; simp
  have r1 : w3.cell? ⟨w2.heap.size, 1, none⟩ = some (.slice (some ⟨g, 0, none⟩) m m) := by rw [hb3.cell (by simp)]; simp
  clear hb3 ho3 hB3 ho2 hB2 hoi hoi3
  go_wp2_with fail
  refine (still_any w.heap.size w.heap.size a cap n l w3 hl hn (hb.kept hB4 (Nat.le_refl _)) ho4).mono ?_
  rintro e w4 ⟨rfl, hg4⟩
  have hB5 : Below w.heap.size w w4 := hB4.trans (grown_below hg4 (Nat.le_refl _) (by omega))
  have hc4 : ∀ j, w4.cell? ⟨w2.heap.size, j, none⟩ = w3.cell? ⟨w2.heap.size, j, none⟩ := fun j => World.cell?_of_block (hg4.block _ (by show w2.heap.size < _; omega) (by simp; omega))
  have t0 := (hc4 0).trans r0
  have t1 := (hc4 1).trans r1
  have hs4 := hg4.size
  have hi4 : Is w4 (some ⟨g, 0, none⟩) z := by
    intro i hi
    refine ⟨g, 0, rfl, ?_⟩
    have h1 : w4.cell? ⟨g, 0 + i, none⟩ = w3.cell? ⟨g, 0 + i, none⟩ := World.cell?_of_block (hg4.block g (by have := hoi4.lt _ rfl; omega) (by simp; omega))
    rw [h1, Nat.zero_add]
    exact hoi4.cell i (by omega)
  clear hg4 ho4 hc4 r0 r1 hoi4
  go_wp2_with fail
  refine (cr w4 (hb.kept hB5 (Nat.le_refl _))).mono ?_
  rintro e w5 ⟨v5, rfl, ho5, hb5⟩
  obtain ⟨za, zc, hz, hzc, hzm, hzi, hznil⟩ := ho5.shape
  rw [hz]
  clear hz
  have hc5 : ∀ j, w5.cell? ⟨w2.heap.size, j, none⟩ = w4.cell? ⟨w2.heap.size, j, none⟩ := fun j => hb5.cell (by show w2.heap.size < _; omega)
  have u0 := (hc5 0).trans t0
  have u1 := (hc5 1).trans t1
  have hs5 := hb5.size
  have hB6 : Below w.heap.size w w5 := hB5.trans (hb5.mono (by omega))
  have csn := sameNumbers_yes (some ⟨g, 0, none⟩) za m zc m z w5 hzl (by omega) (hi4.kept hb5 (Nat.le_refl _)) hzi
  clear hb5 hc5 t0 t1 hi4 hzi ho5
  go_wp2_with fail
  refine csn.mono ?_
  rintro e w6 ⟨rfl, q, hw6⟩
  rw [hw6]
  clear hw6 csn
  go_wp2
  go_ret
  exact ⟨rfl, below_drewN hB6 q⟩
theorem manifest_any (a : Option Addr) (cap n : Nat) (l : List UInt8) (w : World) (hL : Laid w) (hl : l.length = n) (hn : n ≤ 90000) (hcap : n ≤ cap) (hcm : cap ≤ 9223372036854775807) (hb : Bs w a l) :
    Calls Tryd.prog 15 #[.slice a n cap] w fun e w' => e = .returned (.bool true) ∧ Below w.heap.size w w' := by
  cases h : rdOk l with
  | false => exact manifest_bad a cap n l w hL hl hn hcap hcm hb h
  | true => exact manifest_good a cap n l w hl hn hcap hcm hb h
end Go.Proofs.YtakjpgjcfecfiaaDoor
