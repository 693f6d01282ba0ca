import Derived.Test.YtlifhjmkklcobaaDoorMRR
/- manifest: ReadManifest of some bytes answers as the document does. -/
namespace Go.Proofs.YtlifhjmkklcobaaDoor
open Go.RowKit

set_option maxRecDepth 100000 in
set_option maxHeartbeats 1000000 in
theorem manifest_bad (a : Option Addr) (cap n : Nat) (l : List UInt8) (w : World) (hL : Laid w) (hl : l.length = n) (hn : n ≤ 90000) (hcap : n ≤ cap) (hcm : cap ≤ 9223372036854775807) (hb : Bs w a l) (h : rdOk l = false) :
    Calls Tryd.prog 15 #[.slice a n cap] w fun e w' => e = .returned (.bool true) ∧ Below w.heap.size w w' := by
  have hnil := fun W => Lib.run_eql_slice_nil (P := Tryd.prog) W 42 3 none 0 0 0 0 Tryd.underlying42
  go_enter Tryd.func15, Tryd.ntmps15
  go_wp2_with fail
  refine (roomy_any a cap n l w hl (by omega) hb).mono ?_
  rintro e w1 ⟨rfl, ho1, hb1⟩
  have hs1 := ho1.lt _ rfl
  have hbs1 : Bs w1 (some ⟨w.heap.size, 0, none⟩) l := by
    have := ho1.bs 0 n (by omega)
    rwa [List.drop_zero, List.take_left' hl] at this
  go_wp2_with fail
  refine (readM_no _ (n + 2) n l w1 hl (by omega) (by omega) (by omega) hbs1 h).mono ?_
  rintro e w2 ⟨rfl, hb2⟩
  have ho2 := ho1.kept hb2 (Nat.le_refl _)
  have hs2 := hb2.size
  have hB2 : Below w.heap.size w w2 := hb1.trans (hb2.mono (by omega))
  clear hb2 hb1 ho1 hbs1
  have hB3 : Below w.heap.size w (w2.alloc Z45) := hB2.alloc (by omega) _
  have ho3 := ho2.alloc Z45
  go_wp2_with fail
  refine (tell_errno 6 _ (hL.below hB3 (Nat.le_refl _))).mono ?_
  rintro e w3 ⟨rfl, hb3⟩
  have ho4 := ho3.kept hb3 (Nat.le_refl _)
  have hs3 : w2.heap.size + 1 ≤ w3.heap.size := by have := hb3.size; simpa using this
  have hB4 : Below w.heap.size w w3 := hB3.trans (hb3.mono (by simp; omega))
  have r0 : w3.cell? ⟨w2.heap.size, 0, none⟩ = some (.int .u64 0) := by rw [hb3.cell (by simp)]; simp
  have r1 : w3.cell? ⟨w2.heap.size, 1, none⟩ = some (.slice none 0 0) := by rw [hb3.cell (by simp)]; simp
  clear hb3 ho3 hB3 ho2 hB2
  go_wp2_with fail
  refine (still_any w.heap.size w.heap.size a cap n l w3 hl hn (hb.kept hB4 (Nat.le_refl _)) ho4).mono ?_
  rintro e w4 ⟨rfl, hg4⟩
  have hB5 : Below w.heap.size w w4 := hB4.trans (grown_below hg4 (Nat.le_refl _) (by omega))
  have hc4 : ∀ j, w4.cell? ⟨w2.heap.size, j, none⟩ = w3.cell? ⟨w2.heap.size, j, none⟩ := fun j => World.cell?_of_block (hg4.block _ (by show w2.heap.size < _; omega) (by simp; omega))
  have t0 := (hc4 0).trans r0
  have t1 := (hc4 1).trans r1
  have hs4 := hg4.size
  clear hg4 ho4 hc4 r0 r1
  go_wp2_with fail
  refine (refReadM_no a cap n l w4 hl (by omega) hcap hcm (hb.kept hB5 (Nat.le_refl _)) h).mono ?_
  rintro e w5 ⟨rfl, hb5⟩
  have hc5 : ∀ j, w5.cell? ⟨w2.heap.size, j, none⟩ = w4.cell? ⟨w2.heap.size, j, none⟩ := fun j => hb5.cell (by show w2.heap.size < _; omega)
  have u0 := (hc5 0).trans t0
  have u1 := (hc5 1).trans t1
  have hs5 := hb5.size
  have hB6 : Below w.heap.size w w5 := hB5.trans (hb5.mono (by omega))
  clear hb5 hc5 t0 t1
  go_wp2
  go_ret
  exact ⟨rfl, hB6⟩

set_option maxRecDepth 100000 in
set_option maxHeartbeats 1000000 in
theorem manifest_good (a : Option Addr) (cap n : Nat) (l : List UInt8) (w : World) (hl : l.length = n) (hn : n ≤ 90000) (hcap : n ≤ cap) (hcm : cap ≤ 9223372036854775807) (hb : Bs w a l) (h : rdOk l = true) :
    Calls Tryd.prog 15 #[.slice a n cap] w fun e w' => e = .returned (.bool true) ∧ Below w.heap.size w w' := by
  have hm254 : 14 + 4 * rcnt l ≤ 254 := by have := rd_small l h; omega
  have hzl := rids_length l (rcnt l)
  have cd : ∀ W, Bs W (some ⟨w.heap.size, 0, none⟩) l → _ := fun W hW => readM_yes (some ⟨w.heap.size, 0, none⟩) (n + 2) n l W hl (by omega) (by omega) hW h
  have cr : ∀ W, Bs W a l → _ := fun W hW => refReadM_yes a cap n l W hl hcap hcm hW h
  generalize rgen l = gen at *
  generalize rids l (rcnt l) = z at *
  generalize rcnt l = m at *
  go_enter Tryd.func15, Tryd.ntmps15
  go_wp2_with fail
  refine (roomy_any a cap n l w hl (by omega) hb).mono ?_
  rintro e w1 ⟨rfl, ho1, hb1⟩
  have hs1 := ho1.lt _ rfl
  have hbs1 : Bs w1 (some ⟨w.heap.size, 0, none⟩) l := by
    have := ho1.bs 0 n (by omega)
    rwa [List.drop_zero, List.take_left' hl] at this
  go_wp2_with fail
  refine (cd w1 hbs1).mono ?_
  rintro e w2 ⟨g, rfl, hoi, hb2⟩
  have hgi := hoi.lt _ rfl
  have ho2 := ho1.kept hb2 (Nat.le_refl _)
  have hs2 := hb2.size
  have hB2 : Below w.heap.size w w2 := hb1.trans (hb2.mono (by omega))
  clear hb2 hb1 ho1 hbs1
  have hB3 : Below w.heap.size w (w2.alloc (.cells #[.int .u64 (gen : Int), .slice (some ⟨g, 0, none⟩) m m] 45)) := hB2.alloc (by omega) _
  have ho3 := ho2.alloc (.cells #[.int .u64 (gen : Int), .slice (some ⟨g, 0, none⟩) m m] 45)
  have hoi3 := hoi.alloc (.cells #[.int .u64 (gen : Int), .slice (some ⟨g, 0, none⟩) m m] 45)
  go_wp2_with fail
  refine (tell_nil _).mono ?_
  rintro e w3 ⟨rfl, hb3⟩
  have ho4 := ho3.kept hb3 (Nat.le_refl _)
  have hoi4 := hoi3.kept hb3 (Nat.le_refl _)
  have hs3 : w2.heap.size + 1 ≤ w3.heap.size := by have := hb3.size; simpa using this
  have hB4 : Below w.heap.size w w3 := hB3.trans (hb3.mono (by simp; omega))
  have r0 : w3.cell? ⟨w2.heap.size, 0, none⟩ = some (.int .u64 (gen : Int)) := by rw [hb3.cell (by simp)]; simp
  have r1 : w3.cell? ⟨w2.heap.size, 1, none⟩ = some (.slice (some ⟨g, 0, none⟩) m m) := by rw [hb3.cell (by simp)]; simp
  clear hb3 ho3 hB3 ho2 hB2 hoi hoi3
  go_wp2_with fail
  refine (still_any w.heap.size w.heap.size a cap n l w3 hl hn (hb.kept hB4 (Nat.le_refl _)) ho4).mono ?_
  rintro e w4 ⟨rfl, hg4⟩
  have hB5 : Below w.heap.size w w4 := hB4.trans (grown_below hg4 (Nat.le_refl _) (by omega))
  have hc4 : ∀ j, w4.cell? ⟨w2.heap.size, j, none⟩ = w3.cell? ⟨w2.heap.size, j, none⟩ := fun j => World.cell?_of_block (hg4.block _ (by show w2.heap.size < _; omega) (by simp; omega))
  have t0 := (hc4 0).trans r0
  have t1 := (hc4 1).trans r1
  have hs4 := hg4.size
  have hi4 : Is w4 (some ⟨g, 0, none⟩) z := by
    intro i hi
    refine ⟨g, 0, rfl, ?_⟩
    have h1 : w4.cell? ⟨g, 0 + i, none⟩ = w3.cell? ⟨g, 0 + i, none⟩ := World.cell?_of_block (hg4.block g (by have := hoi4.lt _ rfl; omega) (by simp; omega))
    rw [h1, Nat.zero_add]
    exact hoi4.cell i (by omega)
  clear hg4 ho4 hc4 r0 r1 hoi4
  go_wp2_with fail
  refine (cr w4 (hb.kept hB5 (Nat.le_refl _))).mono ?_
  rintro e w5 ⟨v5, rfl, ho5, hb5⟩
  obtain ⟨za, zc, hz, hzc, hzm, hzi, hznil⟩ := ho5.shape
  rw [hz]
  clear hz
  have hc5 : ∀ j, w5.cell? ⟨w2.heap.size, j, none⟩ = w4.cell? ⟨w2.heap.size, j, none⟩ := fun j => hb5.cell (by show w2.heap.size < _; omega)
  have u0 := (hc5 0).trans t0
  have u1 := (hc5 1).trans t1
  have hs5 := hb5.size
  have hB6 : Below w.heap.size w w5 := hB5.trans (hb5.mono (by omega))
  have csn := sameNumbers_yes (some ⟨g, 0, none⟩) za m zc m z w5 hzl (by omega) (hi4.kept hb5 (Nat.le_refl _)) hzi
  clear hb5 hc5 t0 t1 hi4 hzi ho5
  go_wp2_with fail
  refine csn.mono ?_
  rintro e w6 ⟨rfl, q, hw6⟩
  rw [hw6]
  clear hw6 csn
  go_wp2
  go_ret
  exact ⟨rfl, below_drewN hB6 q⟩
theorem manifest_any (a : Option Addr) (cap n : Nat) (l : List UInt8) (w : World) (hL : Laid w) (hl : l.length = n) (hn : n ≤ 90000) (hcap : n ≤ cap) (hcm : cap ≤ 9223372036854775807) (hb : Bs w a l) :
    Calls Tryd.prog 15 #[.slice a n cap] w fun e w' => e = .returned (.bool true) ∧ Below w.heap.size w w' := by
  cases h : rdOk l with
  | false => exact manifest_bad a cap n l w hL hl hn hcap hcm hb h
  | true => exact manifest_good a cap n l w hl hn hcap hcm hb h
end Go.Proofs.YtlifhjmkklcobaaDoor
