import Derived.Test.YtakjpgjcfecfiaaDoorRefDec
import Derived.Test.YtakjpgjcfecfiaaDoorRoomy
import Derived.Test.YtakjpgjcfecfiaaDoorTell
/- decodes: Decode of some bytes answers as the document does. -/
namespace Go.Proofs.YtakjpgjcfecfiaaDoor
open Go.RowKit

theorem grown_below {w w' : World} {g B : Nat} (h : w.grownBy w' (some g)) (hg : B ≤ g) (hB : B ≤ w.heap.size) : Below B w w' :=
  ⟨h.os, h.tape, h.output, h.size, fun k hk => h.block k (by omega) (by simp; omega)⟩

theorem refDecode_bad (a : Option Addr) (cap n : Nat) (l : List UInt8) (w : World) (hl : l.length = n) (hm : n ≤ 100000) (hcap : n ≤ cap) (hcm : cap ≤ 9223372036854775807) (hb : Bs w a l) (h : decOk l = false) :
    Calls Tryd.prog 23 #[.slice a n cap] w fun e w' => e = .returned (.tuple #[zref, .bool false]) ∧ Below w.heap.size w w' := by
  by_cases h16 : n < 16
  · exact refDecode_short a cap n w h16
  · obtain ⟨b, o, rfl, _⟩ := hb 0 (by omega)
    exact refDecode_no b o cap n l w hl (by omega) hm hcap hcm hb h
theorem refDecode_good (a : Option Addr) (cap n : Nat) (l : List UInt8) (w : World) (hl : l.length = n) (hm : n ≤ 100000) (hcap : n ≤ cap) (hcm : cap ≤ 9223372036854775807) (hb : Bs w a l) (h : decOk l = true) :
    Calls Tryd.prog 23 #[.slice a n cap] w fun e w' =>
      e = .returned (.tuple #[.agg #[.int .u64 (dseq l : Nat), .string (dkey l), .string (dval l), .bool (ddel l), .int .i64 ((16 + kl l + vl l : Nat) : Int)], .bool true]) ∧ Below w.heap.size w w' := by
  have hs : splitOk l = true := by unfold decOk at h; exact (Bool.and_eq_true_iff.1 h).1
  have h' : 16 ≤ l.length ∧ kl l ≤ 16 ∧ vl l ≤ 64 ∧ 16 + kl l + vl l ≤ l.length := of_decide_eq_true hs
  obtain ⟨b, o, rfl, _⟩ := hb 0 (by omega)
  exact refDecode_yes b o cap n l w hl (by omega) hm hcap hcm hb h

set_option maxRecDepth 100000 in
set_option maxHeartbeats 1000000 in
theorem decodes_bad (a : Option Addr) (cap n : Nat) (l : List UInt8) (w : World) (hL : Laid w) (hl : l.length = n) (hn : n ≤ 90000) (hcap : n ≤ cap) (hcm : cap ≤ 9223372036854775807) (hb : Bs w a l) (h : decOk l = false) :
    Calls Tryd.prog 11 #[.slice a n cap] w fun e w' => e = .returned (.bool true) ∧ Below w.heap.size w w' := by
  go_enter Tryd.func11, Tryd.ntmps11
  go_wp2_with fail
  refine (roomy_any a cap n l w hl (by omega) hb).mono ?_
  rintro e w1 ⟨rfl, ho1, hb1⟩
  have hs1 := ho1.lt _ rfl
  have hbs1 : Bs w1 (some ⟨w.heap.size, 0, none⟩) l := by
    have := ho1.bs 0 n (by omega)
    rwa [List.drop_zero, List.take_left' hl] at this
  go_wp2_with fail
  refine (decode_bad _ (n + 2) n l w1 hl (by omega) (by omega) (by omega) hbs1 h).mono ?_
  rintro e w2 ⟨rfl, hb2⟩
  have ho2 := ho1.kept hb2 (Nat.le_refl _)
  have hs2 := hb2.size
  have hB2 : Below w.heap.size w w2 := hb1.trans (hb2.mono (by omega))
  clear hb2 hb1 ho1 hbs1
  have hB3 : Below w.heap.size w (w2.alloc Z24) := hB2.alloc (by omega) _
  have ho3 := ho2.alloc Z24
  go_wp2_with fail
  refine (tell_errno 3 _ (hL.below hB3 (Nat.le_refl _))).mono ?_
  rintro e w3 ⟨rfl, hb3⟩
  have ho4 := ho3.kept hb3 (Nat.le_refl _)
  have hs3 : w2.heap.size + 1 ≤ w3.heap.size := by have := hb3.size; simpa using this
  have hB4 : Below w.heap.size w w3 := hB3.trans (hb3.mono (by simp; omega))
  have r0 : w3.cell? ⟨w2.heap.size, 0, none⟩ = some (.int .u64 0) := by rw [hb3.cell (by simp)]; simp
  have r1 : w3.cell? ⟨w2.heap.size, 1, none⟩ = some (.string ⟨#[]⟩) := by rw [hb3.cell (by simp)]; simp
  have r2 : w3.cell? ⟨w2.heap.size, 2, none⟩ = some (.string ⟨#[]⟩) := by rw [hb3.cell (by simp)]; simp
  have r3 : w3.cell? ⟨w2.heap.size, 3, none⟩ = some (.bool false) := by rw [hb3.cell (by simp)]; simp
  clear hb3 ho3 hB3 ho2 hB2
  go_wp2_with fail
  refine (still_any w.heap.size w.heap.size a cap n l w3 hl hn (hb.kept hB4 (Nat.le_refl _)) ho4).mono ?_
  rintro e w4 ⟨rfl, hg4⟩
  have hB5 : Below w.heap.size w w4 := hB4.trans (grown_below hg4 (Nat.le_refl _) (by omega))
  have hc4 : ∀ j, w4.cell? ⟨w2.heap.size, j, none⟩ = w3.cell? ⟨w2.heap.size, j, none⟩ := fun j => World.cell?_of_block (hg4.block _ (by show w2.heap.size < _; omega) (by simp; omega))
  have t0 := (hc4 0).trans r0
  have t1 := (hc4 1).trans r1
  have t2 := (hc4 2).trans r2
  have t3 := (hc4 3).trans r3
  have hs4 := hg4.size
  clear hg4 ho4 hc4 r0 r1 r2 r3
  go_wp2_with fail
  refine (refDecode_bad a cap n l w4 hl (by omega) hcap hcm (hb.kept hB5 (Nat.le_refl _)) h).mono ?_
  rintro e w5 ⟨rfl, hb5⟩
  have hc5 : ∀ j, w5.cell? ⟨w2.heap.size, j, none⟩ = w4.cell? ⟨w2.heap.size, j, none⟩ := fun j => hb5.cell (by show w2.heap.size < _; omega)
  have u0 := (hc5 0).trans t0
  have u1 := (hc5 1).trans t1
  have u2 := (hc5 2).trans t2
  have u3 := (hc5 3).trans t3
  have hs5 := hb5.size
  have hB6 : Below w.heap.size w w5 := hB5.trans (hb5.mono (by omega))
  clear hb5 hc5 t0 t1 t2 t3
  have hlt : w2.heap.size < w5.heap.size := by omega
  go_wp2
  go_ret
  exact ⟨rfl, hB6.alloc (by omega) _⟩
set_option maxRecDepth 100000 in
set_option maxHeartbeats 1000000 in
theorem decodes_good (a : Option Addr) (cap n : Nat) (l : List UInt8) (w : World) (hl : l.length = n) (hn : n ≤ 90000) (hcap : n ≤ cap) (hcm : cap ≤ 9223372036854775807) (hb : Bs w a l) (h : decOk l = true) :
    Calls Tryd.prog 11 #[.slice a n cap] w fun e w' => e = .returned (.bool true) ∧ Below w.heap.size w w' := by
  have cd : ∀ W, Bs W (some ⟨w.heap.size, 0, none⟩) l → _ := fun W hW => decode_good (some ⟨w.heap.size, 0, none⟩) (n + 2) n l W hl (by omega) (by omega) (by omega) hW h
  have cr : ∀ W, Bs W a l → _ := fun W hW => refDecode_good a cap n l W hl (by omega) hcap hcm hW h
  generalize dseq l = sq at *
  generalize dkey l = ks at *
  generalize dval l = vs at *
  generalize ddel l = d at *
  generalize ((16 + kl l + vl l : Nat) : Int) = N at *
  go_enter Tryd.func11, Tryd.ntmps11
  go_wp2_with fail
  refine (roomy_any a cap n l w hl (by omega) hb).mono ?_
  rintro e w1 ⟨rfl, ho1, hb1⟩
  have hs1 := ho1.lt _ rfl
  have hbs1 : Bs w1 (some ⟨w.heap.size, 0, none⟩) l := by
    have := ho1.bs 0 n (by omega)
    rwa [List.drop_zero, List.take_left' hl] at this
  go_wp2_with fail
  refine (cd w1 hbs1).mono ?_
  rintro e w2 ⟨rfl, hb2⟩
  have ho2 := ho1.kept hb2 (Nat.le_refl _)
  have hs2 := hb2.size
  have hB2 : Below w.heap.size w w2 := hb1.trans (hb2.mono (by omega))
  clear hb2 hb1 ho1 hbs1
  have hB3 : Below w.heap.size w (w2.alloc (.cells #[.int .u64 (sq : Int), .string ks, .string vs, .bool d] 24)) := hB2.alloc (by omega) _
  have ho3 := ho2.alloc (.cells #[.int .u64 (sq : Int), .string ks, .string vs, .bool d] 24)
  go_wp2_with fail
  refine (tell_nil _).mono ?_
  rintro e w3 ⟨rfl, hb3⟩
  have ho4 := ho3.kept hb3 (Nat.le_refl _)
  have hs3 : w2.heap.size + 1 ≤ w3.heap.size := by have := hb3.size; simpa using this
  have hB4 : Below w.heap.size w w3 := hB3.trans (hb3.mono (by simp; omega))
  have r0 : w3.cell? ⟨w2.heap.size, 0, none⟩ = some (.int .u64 (sq : Int)) := by rw [hb3.cell (by simp)]; simp
  have r1 : w3.cell? ⟨w2.heap.size, 1, none⟩ = some (.string ks) := by rw [hb3.cell (by simp)]; simp
  have r2 : w3.cell? ⟨w2.heap.size, 2, none⟩ = some (.string vs) := by rw [hb3.cell (by simp)]; simp
  have r3 : w3.cell? ⟨w2.heap.size, 3, none⟩ = some (.bool d) := by rw [hb3.cell (by simp)]; simp
  clear hb3 ho3 hB3 ho2 hB2
  go_wp2_with fail
  refine (still_any w.heap.size w.heap.size a cap n l w3 hl hn (hb.kept hB4 (Nat.le_refl _)) ho4).mono ?_
  rintro e w4 ⟨rfl, hg4⟩
  have hB5 : Below w.heap.size w w4 := hB4.trans (grown_below hg4 (Nat.le_refl _) (by omega))
  have hc4 : ∀ j, w4.cell? ⟨w2.heap.size, j, none⟩ = w3.cell? ⟨w2.heap.size, j, none⟩ := fun j => World.cell?_of_block (hg4.block _ (by show w2.heap.size < _; omega) (by simp; omega))
  have t0 := (hc4 0).trans r0
  have t1 := (hc4 1).trans r1
  have t2 := (hc4 2).trans r2
  have t3 := (hc4 3).trans r3
  have hs4 := hg4.size
  clear hg4 ho4 hc4 r0 r1 r2 r3
  go_wp2_with fail
  refine (cr w4 (hb.kept hB5 (Nat.le_refl _))).mono ?_
  rintro e w5 ⟨rfl, hb5⟩
  have hc5 : ∀ j, w5.cell? ⟨w2.heap.size, j, none⟩ = w4.cell? ⟨w2.heap.size, j, none⟩ := fun j => hb5.cell (by show w2.heap.size < _; omega)
  have u0 := (hc5 0).trans t0
  have u1 := (hc5 1).trans t1
  have u2 := (hc5 2).trans t2
  have u3 := (hc5 3).trans t3
  have hs5 := hb5.size
  have hB6 : Below w.heap.size w w5 := hB5.trans (hb5.mono (by omega))
  clear hb5 hc5 t0 t1 t2 t3
  have hlt : w2.heap.size < w5.heap.size := by omega
  go_wp2
  go_ret
  exact ⟨rfl, hB6.alloc (by omega) _⟩
end Go.Proofs.YtakjpgjcfecfiaaDoor
