import Derived.Test.YtakjpgjcfecfiaaDoorLaw
import Derived.Laws.AppendOwnNone
import Derived.Laws.OwnMore
import Derived.Lib.LazyBuf
/- Records. -/
namespace Go.Proofs.YtakjpgjcfecfiaaDoor
open Go.RowKit

theorem Own.shape2 {w : World} {base n : Nat} {v : Value} {l : List UInt8} (h : Own w base v n l) (hn : 0 < n) :
    ∃ g cap, v = .slice (some ⟨g, 0, none⟩) n cap ∧ base ≤ g ∧ g < w.heap.size ∧ n ≤ cap ∧ cap ≤ 9223372036854775807 := by
  obtain ⟨h1, h2, h3⟩ := h
  rcases h3 with ⟨_, e⟩ | ⟨g, cap, cur, e, hb, hg, hnc, hm, _⟩
  · omega
  · exact ⟨g, cap, e, hb, (Array.getElem?_eq_some_iff.1 hg).1, hnc, by unfold maxLen at hm; omega⟩
theorem decodes_any (a : Option Addr) (cap n : Nat) (l : List UInt8) (w : World) (hL : Laid w) (hl : l.length = n) (hn : n ≤ 90000) (hcap : n ≤ cap) (hcm : cap ≤ 9223372036854775807) (hb : Bs w a l) :
    Calls Tryd.prog 11 #[.slice a n cap] w fun e w' => e = .returned (.bool true) ∧ Below w.heap.size w w' := by
  cases h : decOk l with
  | false => exact decodes_bad a cap n l w hL hl hn hcap hcm hb h
  | true => exact decodes_good a cap n l w hl hn hcap hcm hb h

set_option maxHeartbeats 400000 in
theorem record_any (seq : Nat) (k v : ByteArray) (d : Bool) (w : World) :
    Calls Tryd.prog 7 #[.agg #[.int .u64 (seq : Int), .string k, .string v, .bool d]] w fun e w' =>
      e = .returned (.agg #[.int .u64 (seq : Int), .string k, .string v, .bool d, .int .i64 0]) ∧ Below w.heap.size w w' := by
  go_enter Tryd.func7, Tryd.ntmps7
  go_wp2
  refine bodyPost_ret (v := .agg #[.int .u64 (seq : Int), .string k, .string v, .bool d, .int .i64 0]) (by simp [results, Tryd.results7, go_sem]) rfl ⟨rfl, ?_⟩
  exact ((Below.refl _ w).alloc (Nat.le_refl _) _).alloc (by simp) _

set_option maxHeartbeats 400000 in
theorem encode_wrap (seq : Nat) (k v : ByteArray) (d : Bool) (w : World) (R : Value → World → World → Prop)
    (he : ∀ W, Below w.heap.size w W → Calls Tryd.prog 16 #[.agg #[.int .u64 (seq : Int), .string k, .string v, .bool d]] W fun e w' => ∃ x y, e = .returned (.tuple #[x, y]) ∧ R (.tuple #[x, y]) W w' ∧ Below W.heap.size W w') :
    Calls Tryd.prog 5 #[.agg #[.int .u64 (seq : Int), .string k, .string v, .bool d]] w fun e w' => ∃ x y W, e = .returned (.tuple #[x, y]) ∧ R (.tuple #[x, y]) W w' ∧ Below w.heap.size w W ∧ Below w.heap.size w w' := by
  have hB : Below w.heap.size w (w.alloc (.cells #[.int .u64 (seq : Int), .string k, .string v, .bool d] 24)) := (Below.refl _ w).alloc (Nat.le_refl _) _
  go_enter Tryd.func5, Tryd.ntmps5
  go_wp2_with fail
  refine (he _ hB).mono ?_
  rintro e w' ⟨x, y, rfl, hR, hb⟩
  have hB2 : Below w.heap.size w w' := hB.trans (hb.mono (by simp))
  clear hb he
  go_wp2
  go_ret2
  exact ⟨x, y, _, rfl, hR, hB, hB2⟩

theorem encode_err (seq : Nat) (k v : ByteArray) (d : Bool) (c : Int) (w : World)
    (he : ∀ W, Calls Tryd.prog 16 #[.agg #[.int .u64 (seq : Int), .string k, .string v, .bool d]] W fun e w' => e = .returned (.tuple #[.slice none 0 0, .iface 30 (.int .i64 c)]) ∧ Below W.heap.size W w') :
    Calls Tryd.prog 5 #[.agg #[.int .u64 (seq : Int), .string k, .string v, .bool d]] w fun e w' => e = .returned (.tuple #[.slice none 0 0, .iface 30 (.int .i64 c)]) ∧ Below w.heap.size w w' := by
  refine (encode_wrap seq k v d w (fun x _ _ => x = .tuple #[.slice none 0 0, .iface 30 (.int .i64 c)]) (fun W _ => (he W).mono (by rintro e w' ⟨rfl, hb⟩; exact ⟨_, _, rfl, rfl, hb⟩))).mono ?_
  rintro e w' ⟨x, y, W, rfl, hR, _, hb⟩
  exact ⟨by rw [hR], hb⟩
theorem encode_ok (seq : Nat) (k v : ByteArray) (d : Bool) (w : World) (hs : seq < 18446744073709551616) (hkey : keyOk k = true) (hval : valOk v d = true) :
    Calls Tryd.prog 5 #[.agg #[.int .u64 (seq : Int), .string k, .string v, .bool d]] w fun e w' =>
      ∃ g, e = .returned (.tuple #[.slice (some ⟨g, 0, none⟩) (16 + k.size + v.size) (16 + k.size + v.size), .nilIface]) ∧
      Own w' w.heap.size (.slice (some ⟨g, 0, none⟩) (16 + k.size + v.size) (16 + k.size + v.size)) (16 + k.size + v.size) (recBytes seq k v d) ∧ Below w.heap.size w w' := by
  refine (encode_wrap seq k v d w (fun x W w' => ∃ g, x = .tuple #[.slice (some ⟨g, 0, none⟩) (16 + k.size + v.size) (16 + k.size + v.size), .nilIface] ∧ Own w' W.heap.size (.slice (some ⟨g, 0, none⟩) (16 + k.size + v.size) (16 + k.size + v.size)) (16 + k.size + v.size) (recBytes seq k v d)) (fun W _ => (encodeRecord_ok seq k v d W hs hkey hval).mono (by rintro e w' ⟨g, rfl, ho, hb⟩; exact ⟨_, _, rfl, ⟨g, rfl, ho⟩, hb⟩))).mono ?_
  rintro e w' ⟨x, y, W, rfl, ⟨g, hx, ho⟩, hB, hb⟩
  exact ⟨g, by rw [hx], ho.mono hB.size, hb⟩

set_option maxHeartbeats 400000 in
theorem num_any (n : Int) (w : World) : Calls Tryd.prog 10 #[.int .i64 n] w fun e w' => e = .returned (.int .i64 n) ∧ w = w' := by
  go_enter Tryd.func10, Tryd.ntmps10
  go_wp2
  go_ret
  exact ⟨rfl, rfl⟩

set_option maxHeartbeats 400000 in
theorem records_big (seq : Nat) (k v : ByteArray) (d : Bool) (a : Option Addr) (cap n : Nat) (w : World) (hk : k.size ≤ 1000000000000000) (hv : v.size ≤ 1000000000000000) (hn : n ≤ 1000000000000000) (h : 40000 < k.size + v.size + n) :
    Calls Tryd.prog 3 #[.agg #[.int .u64 (seq : Int), .string k, .string v, .bool d], .slice a n cap] w fun e w' => e = .returned (.bool true) ∧ Below w.heap.size w w' := by
  have hb : decide ((40000 : Int) < (k.size : Int) + (v.size : Int) + (n : Int)) = true := by simp; omega
  go_enter Tryd.func3, Tryd.ntmps3
  go_wp2
  go_ret
  exact ⟨rfl, (Below.refl _ w).alloc (Nat.le_refl _) _⟩

set_option maxRecDepth 100000 in
set_option maxHeartbeats 1000000 in
theorem records_err (seq : Nat) (k v : ByteArray) (d : Bool) (c : Int) (hc : c ≠ 0) (a : Option Addr) (cap n : Nat) (l : List UInt8) (w : World) (hL : Laid w) (h : k.size + v.size + n ≤ 40000) (hl : l.length = n) (hcap : n ≤ cap) (hcm : cap ≤ 9223372036854775807) (hb : Bs w a l)
    (he : ∀ W, Calls Tryd.prog 5 #[.agg #[.int .u64 (seq : Int), .string k, .string v, .bool d]] W fun e w' => e = .returned (.tuple #[.slice none 0 0, .iface 30 (.int .i64 c)]) ∧ Below W.heap.size W w')
    (hr : ∀ W, Calls Tryd.prog 8 #[.agg #[.int .u64 (seq : Int), .string k, .string v, .bool d, .int .i64 0]] W fun e w' => e = .returned (.tuple #[.slice none 0 0, .int .i64 c]) ∧ Below W.heap.size W w') :
    Calls Tryd.prog 3 #[.agg #[.int .u64 (seq : Int), .string k, .string v, .bool d], .slice a n cap] w fun e w' => e = .returned (.bool true) ∧ Below w.heap.size w w' := by
  have hb0 : decide ((40000 : Int) < (k.size : Int) + (v.size : Int) + (n : Int)) = false := by simp; omega
  have hcb : (c != 0) = true := by simp [hc]
  have hcc : (c != c) = false := by simp
  have hB0 : Below w.heap.size w (w.alloc (.cells #[.int .u64 (seq : Int), .string k, .string v, .bool d] 24)) := (Below.refl _ w).alloc (Nat.le_refl _) _
  have hnil := fun W => Lib.run_eql_slice_nil (P := Tryd.prog) W 25 5 none 0 0 0 0 Tryd.underlying25
  go_enter Tryd.func3, Tryd.ntmps3
  go_wp2_with fail
  refine (he _).mono ?_
  rintro e w1 ⟨rfl, hb1⟩
  have q0 : w1.cell? ⟨w.heap.size, 0, none⟩ = some (.int .u64 (seq : Int)) := by rw [hb1.cell (by simp)]; simp
  have q1 : w1.cell? ⟨w.heap.size, 1, none⟩ = some (.string k) := by rw [hb1.cell (by simp)]; simp
  have q2 : w1.cell? ⟨w.heap.size, 2, none⟩ = some (.string v) := by rw [hb1.cell (by simp)]; simp
  have q3 : w1.cell? ⟨w.heap.size, 3, none⟩ = some (.bool d) := by rw [hb1.cell (by simp)]; simp
  have hs1 : w.heap.size + 1 ≤ w1.heap.size := by have := hb1.size; simpa using this
  have hB1 : Below w.heap.size w w1 := hB0.trans (hb1.mono (by simp))
  clear hb1 hB0 he
  go_wp2_with fail
  refine (tell_errno c _ (hL.below hB1 (Nat.le_refl _))).mono ?_
  rintro e w2 ⟨rfl, hb2⟩
  have hB2 : Below w.heap.size w w2 := hB1.trans (hb2.mono (by omega))
  have hcm2 : ∀ j, w2.cell? ⟨w.heap.size, j, none⟩ = w1.cell? ⟨w.heap.size, j, none⟩ := fun j => hb2.cell (by show w.heap.size < _; omega)
  have r0 := (hcm2 0).trans q0
  have r1 := (hcm2 1).trans q1
  have r2 := (hcm2 2).trans q2
  have r3 := (hcm2 3).trans q3
  have hs2 := hb2.size
  clear hb2 hcm2 q0 q1 q2 q3
  go_wp2_with fail
  refine (record_any seq k v d _).mono ?_
  rintro e w3 ⟨rfl, hb3⟩
  have hB3 : Below w.heap.size w w3 := hB2.trans (hb3.mono (by omega))
  have hs3 := hb3.size
  clear hb3 r0 r1 r2 r3
  have hB4 : Below w.heap.size w (w3.alloc (.cells #[.int .u64 (seq : Int), .string k, .string v, .bool d, .int .i64 0] 34)) := hB3.alloc (by omega) _
  go_wp2_with fail
  refine (hr _).mono ?_
  rintro e w5 ⟨rfl, hb5⟩
  have hB5 : Below w.heap.size w w5 := hB4.trans (hb5.mono (by simp; omega))
  have hs5 : w3.heap.size + 1 ≤ w5.heap.size := by have := hb5.size; simpa using this
  clear hb5 hB4 hr
  have csm : Calls Tryd.prog 9 #[.slice none 0 0, .slice none 0 0] w5 fun e w' => e = .returned (.bool true) ∧ ∃ n, w' = w5.drewN n := by
    have := same_any none none 0 0 [] [] w5 (by simp) (by simp) (fun i hi => by simp at hi) (fun i hi => by simp at hi)
    simpa using this
  go_wp2_with fail
  refine csm.mono ?_
  rintro e w6 ⟨rfl, nq, hw6⟩
  have hB6 : Below w.heap.size w w6 := by rw [hw6]; exact below_drewN hB5 nq
  have hs6 : w5.heap.size ≤ w6.heap.size := by rw [hw6]; exact Nat.le_refl _
  clear hw6 csm
  go_wp2_with (first | (go_at_call 10; refine (num_any _ _).mono ?_; rintro e w' ⟨rfl, rfl⟩))
  refine (decodes_any a cap n l w6 (hL.below hB6 (Nat.le_refl _)) hl (by omega) hcap hcm (hb.kept hB6 (Nat.le_refl _))).mono ?_
  rintro e w7 ⟨rfl, hb7⟩
  have hB7 : Below w.heap.size w w7 := hB6.trans (hb7.mono (by omega))
  clear hb7
  go_wp2
  go_ret
  exact ⟨rfl, hB7⟩
set_option maxRecDepth 100000 in
set_option maxHeartbeats 1000000 in
theorem records_ok (seq : Nat) (k v : ByteArray) (d : Bool) (hq : seq < 18446744073709551616) (hkey : keyOk k = true) (hval : valOk v d = true) (a : Option Addr) (cap n : Nat) (l : List UInt8) (w : World) (hL : Laid w) (h : k.size + v.size + n ≤ 40000) (hl : l.length = n) (hcap : n ≤ cap) (hcm : cap ≤ 9223372036854775807) (hb : Bs w a l) (hnil : a = none → n = 0 ∧ cap = 0) :
    Calls Tryd.prog 3 #[.agg #[.int .u64 (seq : Int), .string k, .string v, .bool d], .slice a n cap] w fun e w' => e = .returned (.bool true) ∧ Below w.heap.size w w' := by
  have hb0 : decide ((40000 : Int) < (k.size : Int) + (v.size : Int) + (n : Int)) = false := by simp; omega
  have hN : 16 + k.size + v.size ≤ 96 ∧ 17 ≤ 16 + k.size + v.size := by
    have h1 : 1 ≤ k.size ∧ k.size ≤ 16 := of_decide_eq_true hkey
    have h2 : v.size ≤ 64 ∧ (d = true → v.size = 0) := of_decide_eq_true hval
    omega
  have hrl := recBytes_length seq k v d
  have hB0 : Below w.heap.size w (w.alloc (.cells #[.int .u64 (seq : Int), .string k, .string v, .bool d] 24)) := (Below.refl _ w).alloc (Nat.le_refl _) _
  go_enter Tryd.func3, Tryd.ntmps3
  go_wp2_with fail
  refine (encode_ok seq k v d _ hq hkey hval).mono ?_
  rintro e w1 ⟨g, rfl, ho1, hb1⟩
  have q0 : w1.cell? ⟨w.heap.size, 0, none⟩ = some (.int .u64 (seq : Int)) := by rw [hb1.cell (by simp)]; simp
  have q1 : w1.cell? ⟨w.heap.size, 1, none⟩ = some (.string k) := by rw [hb1.cell (by simp)]; simp
  have q2 : w1.cell? ⟨w.heap.size, 2, none⟩ = some (.string v) := by rw [hb1.cell (by simp)]; simp
  have q3 : w1.cell? ⟨w.heap.size, 3, none⟩ = some (.bool d) := by rw [hb1.cell (by simp)]; simp
  have hs1 : w.heap.size + 1 ≤ w1.heap.size := by have := hb1.size; simpa using this
  have hB1 : Below w.heap.size w w1 := hB0.trans (hb1.mono (by simp))
  clear hb1 hB0
  have hg1 := ho1.lt _ rfl
  go_wp2_with fail
  refine (tell_nil _).mono ?_
  rintro e w2 ⟨rfl, hb2⟩
  have hB2 : Below w.heap.size w w2 := hB1.trans (hb2.mono (by omega))
  have hcm2 : ∀ j, w2.cell? ⟨w.heap.size, j, none⟩ = w1.cell? ⟨w.heap.size, j, none⟩ := fun j => hb2.cell (by show w.heap.size < _; omega)
  have r0 := (hcm2 0).trans q0
  have r1 := (hcm2 1).trans q1
  have r2 := (hcm2 2).trans q2
  have r3 := (hcm2 3).trans q3
  have hs2 := hb2.size
  have ho2 := ho1.kept hb2 (Nat.le_refl _)
  clear ho1
  clear hb2 hcm2 q0 q1 q2 q3
  go_wp2_with fail
  refine (record_any seq k v d _).mono ?_
  rintro e w3 ⟨rfl, hb3⟩
  have hB3 : Below w.heap.size w w3 := hB2.trans (hb3.mono (by omega))
  have hs3 := hb3.size
  have ho3 := ho2.kept hb3 (Nat.le_refl _)
  clear ho2
  clear hb3 r0 r1 r2 r3
  have hB4 : Below w.heap.size w (w3.alloc (.cells #[.int .u64 (seq : Int), .string k, .string v, .bool d, .int .i64 0] 34)) := hB3.alloc (by omega) _
  have ho4 := ho3.alloc (.cells #[.int .u64 (seq : Int), .string k, .string v, .bool d, .int .i64 0] 34)
  clear ho3
  go_wp2_with fail
  refine (refEncode_ok seq k v d 0 _ hq hkey hval).mono ?_
  rintro e w5 ⟨vc, rfl, hoc, hb5⟩
  have hB5 : Below w.heap.size w w5 := hB4.trans (hb5.mono (by simp; omega))
  have hs5 : w3.heap.size + 1 ≤ w5.heap.size := by have := hb5.size; simpa using this
  have ho5 := ho4.kept hb5 (Nat.le_refl _)
  clear hb5 hB4 ho4
  obtain ⟨gc, capc, hvc, hgc1, hgc2, hcapc⟩ := hoc.shape (by omega)
  rw [hvc] at hoc ⊢
  clear hvc
  have csm : ∀ c1 c2, Calls Tryd.prog 9 #[.slice (some ⟨g, 0, none⟩) (16 + k.size + v.size) c1, .slice (some ⟨gc, 0, none⟩) (16 + k.size + v.size) c2] w5 fun e w' => e = .returned (.bool true) ∧ ∃ n, w' = w5.drewN n := fun c1 c2 => by
    have h1 : Bs w5 (some ⟨g, 0, none⟩) (recBytes seq k v d) := by
      have := ho5.bs 0 (16 + k.size + v.size) (by omega)
      rwa [List.drop_zero, List.take_of_length_le (by omega)] at this
    have h2 : Bs w5 (some ⟨gc, 0, none⟩) (recBytes seq k v d) := by
      have := hoc.bs 0 (16 + k.size + v.size) (by omega)
      rwa [List.drop_zero, List.take_of_length_le (by omega)] at this
    exact same_at g (some ⟨gc, 0, none⟩) c1 c2 (16 + k.size + v.size) (recBytes seq k v d) w5 (by omega) hrl h1 h2
  go_wp2_with fail
  refine (csm _ _).mono ?_
  rintro e w6 ⟨rfl, nq, hw6⟩
  have hB6 : Below w.heap.size w w6 := by rw [hw6]; exact below_drewN hB5 nq
  have hs6 : w5.heap.size ≤ w6.heap.size := by rw [hw6]; exact Nat.le_refl _
  have ho6 := ho5.drewN nq
  rw [← hw6] at ho6
  clear hw6 csm ho5 hoc
  go_wp2_with (first | (go_at_call 10; refine (num_any _ _).mono ?_; rintro e w' ⟨rfl, rfl⟩))
  refine (decodes_any a cap n l w6 (hL.below hB6 (Nat.le_refl _)) hl (by omega) hcap hcm (hb.kept hB6 (Nat.le_refl _))).mono ?_
  rintro e w7 ⟨rfl, hb7⟩
  have hB7 : Below w.heap.size w w7 := hB6.trans (hb7.mono (by omega))
  have hs7 := hb7.size
  have ho7 := ho6.kept hb7 (Nat.le_refl _)
  clear hb7 ho6
  have hbs7 := hb.kept hB7 (Nat.le_refl _)
  cases a with
  | none =>
    obtain ⟨i0, hi, hz0, hz1, hz2⟩ := info_parts Tryd.info8
    obtain ⟨rfl, rfl⟩ := hnil rfl
    have hrun := fun ty => run_append_owned_none (P := Tryd.prog) w7 _ 25 ty 5 i0 1 Tryd.underlying25 hi _ _ _ ho7.2
    have hbr : Bs w7 (some ⟨g, 0, none⟩) (recBytes seq k v d) := by
      have := ho7.bs 0 (16 + k.size + v.size) (by omega)
      rwa [List.drop_zero, List.take_of_length_le (by omega)] at this
    clear hi hz0 hz1 hz2
    go_wp2_with fail
    refine (decodes_any _ _ _ (recBytes seq k v d) w7 (hL.below hB7 (Nat.le_refl _)) hrl (by omega) (by omega) (by omega) hbr).mono ?_
    rintro e w8 ⟨rfl, hb8⟩
    have hB8 : Below w.heap.size w w8 := hB7.trans (hb8.mono (by omega))
    clear hb8
    go_wp2
    go_ret
    exact ⟨rfl, hB8⟩
  | some ad =>
    have hnews : ∀ j, j < n → w7.cell? (ad.add j) = some (.int .u8 (at8 l j)) := by
      intro j hj
      obtain ⟨b, o, e, hc⟩ := hbs7 j (by omega)
      cases e
      rw [Addr.add_lit]; exact hc
    have hbase : (w.alloc (.cells #[.int .u64 (seq : Int), .string k, .string v, .bool d] 24)).heap.size ≤ w7.heap.size := by simp; omega
    go_wp2_with (at_builtin; refine app_own _ rfl _ _ rfl _ (16 + k.size + v.size) _ _ rfl ho7 ad n cap l rfl hl hnews ?e1 hbase ?_)
    case e1 => omega
    intro v9 w9 ho9 _ hb9
    obtain ⟨g9, cap9, hv9, hg91, hg92, hcap9, hcm9⟩ := ho9.shape2 (by omega)
    rw [hv9] at ho9 ⊢
    clear hv9
    have hB9 : Below w.heap.size w w9 := hB7.trans (hb9.mono (by simp))
    have hlen : (recBytes seq k v d ++ l).length = 16 + k.size + v.size + n := by rw [List.length_append, hrl, hl]
    have hbr : Bs w9 (some ⟨g9, 0, none⟩) (recBytes seq k v d ++ l) := by
      have := ho9.bs 0 (16 + k.size + v.size + n) (by omega)
      rwa [List.drop_zero, List.take_of_length_le (by omega)] at this
    have hs9 := hb9.size
    clear hb9 ho9 ho7 hnews hbs7
    go_wp2_with fail
    refine (decodes_any _ _ _ (recBytes seq k v d ++ l) w9 (hL.below hB9 (Nat.le_refl _)) hlen (by omega) (by omega) (by omega) hbr).mono ?_
    rintro e w8 ⟨rfl, hb8⟩
    have hB8 : Below w.heap.size w w8 := hB9.trans (hb8.mono (by omega))
    clear hb8
    go_wp2
    go_ret
    exact ⟨rfl, hB8⟩

theorem records_any (seq : Nat) (k v : ByteArray) (d : Bool) (a : Option Addr) (cap n : Nat) (l : List UInt8) (w : World) (hL : Laid w) (hq : seq < 18446744073709551616)
    (hk : k.size ≤ 1000000000000000) (hv : v.size ≤ 1000000000000000) (hn : n ≤ 1000000000000000) (hl : l.length = n) (hcap : n ≤ cap) (hcm : cap ≤ 9223372036854775807) (hb : Bs w a l) (hnil : a = none → n = 0 ∧ cap = 0) :
    Calls Tryd.prog 3 #[.agg #[.int .u64 (seq : Int), .string k, .string v, .bool d], .slice a n cap] w fun e w' => e = .returned (.bool true) ∧ Below w.heap.size w w' := by
  by_cases h : 40000 < k.size + v.size + n
  · exact records_big seq k v d a cap n w hk hv hn h
  · cases hkey : keyOk k with
    | false => exact records_err seq k v d 1 (by decide) a cap n l w hL (by omega) hl hcap hcm hb (fun W => encode_err seq k v d 1 W (fun W => encodeRecord_key seq k v d W (by omega) hkey)) (fun W => refEncode_key seq k v d 0 W (by omega) hkey)
    | true =>
      cases hval : valOk v d with
      | false => exact records_err seq k v d 2 (by decide) a cap n l w hL (by omega) hl hcap hcm hb (fun W => encode_err seq k v d 2 W (fun W => encodeRecord_val seq k v d W (by omega) (by omega) hkey hval)) (fun W => refEncode_val seq k v d 0 W (by omega) (by omega) hkey hval)
      | true => exact records_ok seq k v d hq hkey hval a cap n l w hL (by omega) hl hcap hcm hb hnil
end Go.Proofs.YtakjpgjcfecfiaaDoor
