import Derived.Test.YtakjpgjcfecfiaaDoorSplit
/- bytes.Equal, bytes.HasPrefix, DecodeRecord. -/
namespace Go.Proofs.YtakjpgjcfecfiaaDoor
open Go.RowKit

set_option maxHeartbeats 400000 in
theorem hasPrefix_any (b o c g o' c' n n' : Nat) (l m : List UInt8) (w : World) (hl : l.length = n) (hm : m.length = n') (hle : n' ≤ n) (_hn : n ≤ 1000000) (hcap : n ≤ c) (_hcm : c ≤ 9223372036854775807) (h : Bs w (some ⟨b, o, none⟩) l) (h' : Bs w (some ⟨g, o', none⟩) m) :
    Calls Tryd.prog 44 #[.slice (some ⟨b, o, none⟩) n c, .slice (some ⟨g, o', none⟩) n' c'] w fun e w' => e = .returned (.bool (decide (l.take n' = m))) ∧ w' = w := by
  have hp := h.part 0 n' (by omega)
  rw [List.drop_zero, Nat.add_zero] at hp
  have ce := fun cc => equal_any b o cc g o' c' n' n' (l.take n') m w (by simp; omega) hm hp h'
  have hb : decide ((n' : Int) ≤ n) = true := by simp; omega
  have hb2 : (n' : Int) ≤ (c : Int) := by omega
  go_enter Tryd.func44, Tryd.ntmps44
  go_wp2_with fail
  refine (ce _).mono ?_
  rintro e w' ⟨rfl, rfl⟩
  go_wp2
  go_ret
  exact ⟨rfl, rfl⟩

/-- a block of the zero record, that may be written -/
structure ZB (g : Nat) (w : World) : Prop where
  c0 : w.cell? ⟨g, 0, none⟩ = some (.int .u64 0)
  c1 : w.cell? ⟨g, 1, none⟩ = some (.string ⟨#[]⟩)
  c2 : w.cell? ⟨g, 2, none⟩ = some (.string ⟨#[]⟩)
  c3 : w.cell? ⟨g, 3, none⟩ = some (.bool false)
  f0 : w.frozen? ⟨g, 0, none⟩ = false
  f1 : w.frozen? ⟨g, 1, none⟩ = false
  f2 : w.frozen? ⟨g, 2, none⟩ = false
  f3 : w.frozen? ⟨g, 3, none⟩ = false
theorem ZB.start (w : World) : ZB w.heap.size (w.alloc Z24) := ⟨by simp, by simp, by simp, by simp, by simp, by simp, by simp, by simp⟩
theorem ZB.step {g B : Nat} {w w' : World} (h : ZB g w) (hb : Below B w w') (hg : g < B) : ZB g w' := by
  have hc : ∀ j, w'.cell? ⟨g, j, none⟩ = w.cell? ⟨g, j, none⟩ := fun j => hb.cell hg
  have hf : ∀ j, w'.frozen? ⟨g, j, none⟩ = w.frozen? ⟨g, j, none⟩ := fun j => hb.frozen hg
  exact ⟨(hc 0).trans h.c0, (hc 1).trans h.c1, (hc 2).trans h.c2, (hc 3).trans h.c3, (hf 0).trans h.f0, (hf 1).trans h.f1, (hf 2).trans h.f2, (hf 3).trans h.f3⟩

set_option maxRecDepth 100000 in
set_option maxHeartbeats 400000 in
theorem decode_no1 (a : Option Addr) (cap n : Nat) (w : World)
    (hs : ∀ W, Below w.heap.size w W → Calls Tryd.prog 43 #[.slice a n cap] W fun e w' => e = .returned (.tuple #[zrec, .bool false]) ∧ Below W.heap.size W w') :
    Calls Tryd.prog 35 #[.slice a n cap] w fun e w' => e = .returned (.tuple #[zrec, .int .i64 0, .iface 30 (.int .i64 3)]) ∧ Below w.heap.size w w' := by
  have hB : Below w.heap.size w (w.alloc Z24) := (Below.refl _ w).alloc (Nat.le_refl _) _
  have z0 := ZB.start w
  go_enter Tryd.func35, Tryd.ntmps35
  go_wp2_with fail
  refine (hs _ hB).mono ?_
  rintro e w1 ⟨rfl, hb1⟩
  have z1 := z0.step hb1 (by simp)
  obtain ⟨q0, q1, q2, q3, f0, f1, f2, f3⟩ := z1
  have hsz : w.heap.size < w1.heap.size := by have := hb1.size; simp at this; omega
  have hB1 : Below w.heap.size w w1 := hB.trans (hb1.mono (by simp))
  clear hb1 hs z0 hB
  go_wp2
  refine bodyPost_ret (v := .tuple #[zrec, .int .i64 0, .iface 30 (.int .i64 3)]) ?_ rfl ⟨rfl, ?_⟩
  · simp [results, Tryd.results35, go_sem, q0, q1, q2, q3, hsz]
  · exact ((((hB1.setCell (Nat.le_refl _) _).setCell (Nat.le_refl _) _).setCell (Nat.le_refl _) _).setCell (Nat.le_refl _) _).alloc (by simp; omega) _
set_option maxRecDepth 100000 in
set_option maxHeartbeats 400000 in
/-- what splitRecord gave is no record that could be written -/
theorem decode_no2 (a : Option Addr) (cap n sq : Nat) (ks vs : ByteArray) (d : Bool) (c : Int) (w : World)
    (hs : ∀ W, Below w.heap.size w W → Calls Tryd.prog 43 #[.slice a n cap] W fun e w' => e = .returned (.tuple #[.agg #[.int .u64 (sq : Int), .string ks, .string vs, .bool d], .bool true]) ∧ Below W.heap.size W w')
    (he : ∀ W, Calls Tryd.prog 16 #[.agg #[.int .u64 (sq : Int), .string ks, .string vs, .bool d]] W fun e w' => e = .returned (.tuple #[.slice none 0 0, .iface 30 (.int .i64 c)]) ∧ Below W.heap.size W w') :
    Calls Tryd.prog 35 #[.slice a n cap] w fun e w' => e = .returned (.tuple #[zrec, .int .i64 0, .iface 30 (.int .i64 3)]) ∧ Below w.heap.size w w' := by
  have hB : Below w.heap.size w (w.alloc Z24) := (Below.refl _ w).alloc (Nat.le_refl _) _
  have z0 := ZB.start w
  go_enter Tryd.func35, Tryd.ntmps35
  go_wp2_with fail
  refine (hs _ hB).mono ?_
  rintro e w1 ⟨rfl, hb1⟩
  have z1 := z0.step hb1 (by simp)
  have hsz1 : w.heap.size < w1.heap.size := by have := hb1.size; simp at this; omega
  have hB1 : Below w.heap.size w w1 := hB.trans (hb1.mono (by simp))
  have hB2 : Below w.heap.size w (w1.alloc (.cells #[.int .u64 (sq : Int), .string ks, .string vs, .bool d] 24)) := hB1.alloc (by omega) _
  have z2 := z1.step ((Below.refl _ w1).alloc (Nat.le_refl _) (.cells #[.int .u64 (sq : Int), .string ks, .string vs, .bool d] 24)) hsz1
  clear hb1 hs z0 hB z1
  go_wp2_with fail
  refine (he _).mono ?_
  rintro e w3 ⟨rfl, hb3⟩
  obtain ⟨q0, q1, q2, q3, f0, f1, f2, f3⟩ := z2.step hb3 (by simp; omega)
  have hsz3 : w.heap.size < w3.heap.size := by have := hb3.size; simp at this; omega
  have hB3 : Below w.heap.size w w3 := hB2.trans (hb3.mono (by simp; omega))
  clear hb3 he z2 hB2 hB1 hsz1
  go_wp2
  refine bodyPost_ret (v := .tuple #[zrec, .int .i64 0, .iface 30 (.int .i64 3)]) ?_ rfl ⟨rfl, ?_⟩
  · simp [results, Tryd.results35, go_sem, q0, q1, q2, q3]
  · exact (((hB3.setCell (Nat.le_refl _) _).setCell (Nat.le_refl _) _).setCell (Nat.le_refl _) _).setCell (Nat.le_refl _) _

set_option maxRecDepth 100000 in
set_option maxHeartbeats 400000 in
/-- it could be written, and so: does b begin with those bytes? -/
theorem decode_yes (b o cap n sq N : Nat) (l m : List UInt8) (ks vs : ByteArray) (d : Bool) (w : World) (hl : l.length = n) (hm : m.length = N) (hN : N ≤ n) (hn : n ≤ 1000000) (hcap : n ≤ cap) (hcm : cap ≤ 9223372036854775807) (hp : l.take N = m) (hb : Bs w (some ⟨b, o, none⟩) l)
    (hs : ∀ W, Below w.heap.size w W → Calls Tryd.prog 43 #[.slice (some ⟨b, o, none⟩) n cap] W fun e w' => e = .returned (.tuple #[.agg #[.int .u64 (sq : Int), .string ks, .string vs, .bool d], .bool true]) ∧ Below W.heap.size W w')
    (he : ∀ W, Calls Tryd.prog 16 #[.agg #[.int .u64 (sq : Int), .string ks, .string vs, .bool d]] W fun e w' =>
      ∃ g, e = .returned (.tuple #[.slice (some ⟨g, 0, none⟩) N N, .nilIface]) ∧ Own w' W.heap.size (.slice (some ⟨g, 0, none⟩) N N) N m ∧ Below W.heap.size W w') :
    Calls Tryd.prog 35 #[.slice (some ⟨b, o, none⟩) n cap] w fun e w' =>
      e = .returned (.tuple #[.agg #[.int .u64 (sq : Int), .string ks, .string vs, .bool d], .int .i64 (N : Int), .nilIface]) ∧ Below w.heap.size w w' := by
  have HP : Hid (l.take N = m) := hp
  clear hp
  have hB : Below w.heap.size w (w.alloc Z24) := (Below.refl _ w).alloc (Nat.le_refl _) _
  have z0 := ZB.start w
  go_enter Tryd.func35, Tryd.ntmps35
  go_wp2_with fail
  refine (hs _ hB).mono ?_
  rintro e w1 ⟨rfl, hb1⟩
  have z1 := z0.step hb1 (by simp)
  have hsz1 : w.heap.size < w1.heap.size := by have := hb1.size; simp at this; omega
  have hB1 : Below w.heap.size w w1 := hB.trans (hb1.mono (by simp))
  have hB2 : Below w.heap.size w (w1.alloc (.cells #[.int .u64 (sq : Int), .string ks, .string vs, .bool d] 24)) := hB1.alloc (by omega) _
  have z2 := z1.step ((Below.refl _ w1).alloc (Nat.le_refl _) (.cells #[.int .u64 (sq : Int), .string ks, .string vs, .bool d] 24)) hsz1
  clear hb1 hs z0 hB z1
  go_wp2_with fail
  refine (he _).mono ?_
  rintro e w3 ⟨g, rfl, ho3, hb3⟩
  obtain ⟨q0, q1, q2, q3, f0, f1, f2, f3⟩ := z2.step hb3 (by simp; omega)
  have hsz3 : w.heap.size < w3.heap.size := by have := hb3.size; simp at this; omega
  have hB3 : Below w.heap.size w w3 := hB2.trans (hb3.mono (by simp; omega))
  have r0 : w3.cell? ⟨w1.heap.size, 0, none⟩ = some (.int .u64 (sq : Int)) := by rw [hb3.cell (by simp)]; simp
  have r1 : w3.cell? ⟨w1.heap.size, 1, none⟩ = some (.string ks) := by rw [hb3.cell (by simp)]; simp
  have r2 : w3.cell? ⟨w1.heap.size, 2, none⟩ = some (.string vs) := by rw [hb3.cell (by simp)]; simp
  have r3 : w3.cell? ⟨w1.heap.size, 3, none⟩ = some (.bool d) := by rw [hb3.cell (by simp)]; simp
  have hbs := hb.kept hB3 (Nat.le_refl _)
  have hbm : Bs w3 (some ⟨g, 0, none⟩) m := by
    have := ho3.bs 0 N (by omega)
    rwa [List.drop_zero, List.take_of_length_le (by omega)] at this
  have cp := hasPrefix_any b o cap g 0 N n N l m w3 hl hm hN hn hcap hcm hbs hbm
  clear hb3 he z2 hB2 hB1 hbs hbm ho3 hb
  have hd : decide (l.take N = m) = true := by simp [HP.out]
  rw [hd] at cp
  clear hd
  go_wp2_with fail
  refine cp.mono ?_
  rintro e w' ⟨rfl, rfl⟩
  go_wp2
  refine bodyPost_ret (v := .tuple #[.agg #[.int .u64 (sq : Int), .string ks, .string vs, .bool d], .int .i64 (N : Int), .nilIface]) ?_ rfl ⟨rfl, ?_⟩
  · simp [results, Tryd.results35, go_sem, q0, q1, q2, q3]
  · exact (((hB3.setCell (Nat.le_refl _) _).setCell (Nat.le_refl _) _).setCell (Nat.le_refl _) _).setCell (Nat.le_refl _) _

set_option maxRecDepth 100000 in
set_option maxHeartbeats 400000 in
/-- it could be written, and so: does b begin with those bytes? -/
theorem decode_no3 (b o cap n sq N : Nat) (l m : List UInt8) (ks vs : ByteArray) (d : Bool) (w : World) (hl : l.length = n) (hm : m.length = N) (hN : N ≤ n) (hn : n ≤ 1000000) (hcap : n ≤ cap) (hcm : cap ≤ 9223372036854775807) (hp : ¬ l.take N = m) (hb : Bs w (some ⟨b, o, none⟩) l)
    (hs : ∀ W, Below w.heap.size w W → Calls Tryd.prog 43 #[.slice (some ⟨b, o, none⟩) n cap] W fun e w' => e = .returned (.tuple #[.agg #[.int .u64 (sq : Int), .string ks, .string vs, .bool d], .bool true]) ∧ Below W.heap.size W w')
    (he : ∀ W, Calls Tryd.prog 16 #[.agg #[.int .u64 (sq : Int), .string ks, .string vs, .bool d]] W fun e w' =>
      ∃ g, e = .returned (.tuple #[.slice (some ⟨g, 0, none⟩) N N, .nilIface]) ∧ Own w' W.heap.size (.slice (some ⟨g, 0, none⟩) N N) N m ∧ Below W.heap.size W w') :
    Calls Tryd.prog 35 #[.slice (some ⟨b, o, none⟩) n cap] w fun e w' =>
      e = .returned (.tuple #[zrec, .int .i64 0, .iface 30 (.int .i64 3)]) ∧ Below w.heap.size w w' := by
  have HP : Hid (¬ l.take N = m) := hp
  clear hp
  have hB : Below w.heap.size w (w.alloc Z24) := (Below.refl _ w).alloc (Nat.le_refl _) _
  have z0 := ZB.start w
  go_enter Tryd.func35, Tryd.ntmps35
  go_wp2_with fail
  refine (hs _ hB).mono ?_
  rintro e w1 ⟨rfl, hb1⟩
  have z1 := z0.step hb1 (by simp)
  have hsz1 : w.heap.size < w1.heap.size := by have := hb1.size; simp at this; omega
  have hB1 : Below w.heap.size w w1 := hB.trans (hb1.mono (by simp))
  have hB2 : Below w.heap.size w (w1.alloc (.cells #[.int .u64 (sq : Int), .string ks, .string vs, .bool d] 24)) := hB1.alloc (by omega) _
  have z2 := z1.step ((Below.refl _ w1).alloc (Nat.le_refl _) (.cells #[.int .u64 (sq : Int), .string ks, .string vs, .bool d] 24)) hsz1
  clear hb1 hs z0 hB z1
  go_wp2_with fail
  refine (he _).mono ?_
  rintro e w3 ⟨g, rfl, ho3, hb3⟩
  obtain ⟨q0, q1, q2, q3, f0, f1, f2, f3⟩ := z2.step hb3 (by simp; omega)
  have hsz3 : w.heap.size < w3.heap.size := by have := hb3.size; simp at this; omega
  have hB3 : Below w.heap.size w w3 := hB2.trans (hb3.mono (by simp; omega))
  have r0 : w3.cell? ⟨w1.heap.size, 0, none⟩ = some (.int .u64 (sq : Int)) := by rw [hb3.cell (by simp)]; simp
  have r1 : w3.cell? ⟨w1.heap.size, 1, none⟩ = some (.string ks) := by rw [hb3.cell (by simp)]; simp
  have r2 : w3.cell? ⟨w1.heap.size, 2, none⟩ = some (.string vs) := by rw [hb3.cell (by simp)]; simp
  have r3 : w3.cell? ⟨w1.heap.size, 3, none⟩ = some (.bool d) := by rw [hb3.cell (by simp)]; simp
  have hbs := hb.kept hB3 (Nat.le_refl _)
  have hbm : Bs w3 (some ⟨g, 0, none⟩) m := by
    have := ho3.bs 0 N (by omega)
    rwa [List.drop_zero, List.take_of_length_le (by omega)] at this
  have cp := hasPrefix_any b o cap g 0 N n N l m w3 hl hm hN hn hcap hcm hbs hbm
  clear hb3 he z2 hB2 hB1 hbs hbm ho3 hb
  have hd : decide (l.take N = m) = false := by simp [HP.out]
  rw [hd] at cp
  clear hd
  go_wp2_with fail
  refine cp.mono ?_
  rintro e w' ⟨rfl, rfl⟩
  go_wp2
  refine bodyPost_ret (v := .tuple #[zrec, .int .i64 0, .iface 30 (.int .i64 3)]) ?_ rfl ⟨rfl, ?_⟩
  · simp [results, Tryd.results35, go_sem, q0, q1, q2, q3]
  · exact (((hB3.setCell (Nat.le_refl _) _).setCell (Nat.le_refl _) _).setCell (Nat.le_refl _) _).setCell (Nat.le_refl _) _

end Go.Proofs.YtakjpgjcfecfiaaDoor
