import Derived.Test.YtakjpgjcfecfiaaDoorSplit
import Derived.Test.YtakjpgjcfecfiaaDoorEncM
/- roomy and still: the statement's own memory around the bytes that are handed in. -/
namespace Go.Proofs.YtakjpgjcfecfiaaDoor
open Go.RowKit

/-- copy(out, b), out being a slice of the call's own -/
theorem copy_run (w : World) (g n cap base m sc : Nat) (sp : Option Addr) (l ys : List UInt8) (hm : ys.length = m) (hle : m ≤ n)
    (hown : Own w base (.slice (some ⟨g, 0, none⟩) n cap) n l) (hb : Bs w sp ys) :
    ∃ w', (∀ ty, (Builtin.copy_ #[25, 25] ty #[.slice (some ⟨g, 0, none⟩) n cap, .slice sp m sc]).run Tryd.prog w = .ok (goInt m) w') ∧
      Own w' base (.slice (some ⟨g, 0, none⟩) n cap) n (splice l 0 ys) ∧ w.grownBy w' (some g) := by
  obtain ⟨i0, hi, hz0, hz1, hz2⟩ := info_parts Tryd.info8
  have hsz : (Tryd.prog.info? 5).map (·.size) = some 1 := by rw [hi]; simp [hz1]
  by_cases h0 : m = 0
  · subst h0
    obtain rfl : ys = [] := List.eq_nil_of_length_eq_zero hm
    refine ⟨w, fun ty => ?_, by rw [splice_nil]; exact hown, grown_refl _ _⟩
    exact run_copy_none (P := Tryd.prog) w 25 25 ty 5 _ sp n cap 0 sc Tryd.underlying25 hsz (by simp)
  · obtain ⟨b, o', rfl, _⟩ := hb 0 (by omega)
    obtain ⟨cur, hg, hc, ho1, ho2⟩ := hown.row (o := 0) (m := ys) (by omega)
    refine ⟨_, fun ty => ?_, ho1, ho2⟩
    have := run_copy_row Tryd.prog w 25 25 ty 5 g 0 n cap ⟨b, o', none⟩ m sc cur 5 (cells ys) Tryd.underlying25 hsz hg (by rw [cells_length, hm]; exact (Nat.min_eq_left hle).symm) (by
      intro j v hj
      by_cases hjm : j < ys.length
      · rw [cells_get ys j hjm] at hj
        rw [Addr.add_lit, hb.at j hjm]; exact hj
      · rw [List.getElem?_eq_none (by rw [cells_length]; omega)] at hj; cases hj) (by rw [cells_length]; omega) (cells_oneCell _)
    rw [cells_length, hm] at this
    rw [hm]
    exact this

theorem roomy_list (l : List UInt8) (n : Nat) (h : l.length = n) : ((splice (List.replicate (n + 2) 0) 0 l).set n 71).set (n + 1) 72 = l ++ [71, 72] := by
  subst h
  have e : splice (List.replicate (l.length + 2) (0 : UInt8)) 0 l = l ++ (0 :: [0]) := by
    have h2 : List.replicate (l.length + 2) (0 : UInt8) = [] ++ (List.replicate l.length 0 ++ [0, 0]) := by
      have h3 : ∀ a b : Nat, List.replicate (a + b) (0 : UInt8) = List.replicate a 0 ++ List.replicate b 0 := fun a b => by simp
      rw [h3]; rfl
    rw [h2, splice_mid [] _ _ _ 0 rfl (by simp)]; rfl
  rw [e, set_mid l [0] 0 71 l.length rfl, show l ++ (71 : UInt8) :: [0] = (l ++ [71]) ++ (0 :: []) by simp, set_mid _ _ _ _ _ (by simp)]
  simp

set_option maxRecDepth 100000 in
set_option maxHeartbeats 400000 in
theorem roomy_any (a : Option Addr) (cap n : Nat) (l : List UInt8) (w : World) (hl : l.length = n) (hn : n ≤ 900000) (hb : Bs w a l) :
    Calls Tryd.prog 20 #[.slice a n cap] w fun e w' => e = .returned (.slice (some ⟨w.heap.size, 0, none⟩) n (n + 2)) ∧
      Own w' w.heap.size (.slice (some ⟨w.heap.size, 0, none⟩) (n + 2) (n + 2)) (n + 2) (l ++ [71, 72]) ∧ Below w.heap.size w w' := by
  go_enter Tryd.func20, Tryd.ntmps20
  go_wp2_with (at_make; refine make_own _ rfl _ _ rfl (n + 2) _ _ rfl rfl ?c1 ?c2 ?c3 ?_)
  case c1 => omega
  case c2 => omega
  case c3 => omega
  intro w1 ho1 hb1
  have hbs1 := hb.kept hb1 (Nat.le_refl _)
  obtain ⟨w2, hrun, ho2, hg2⟩ := copy_run w1 w.heap.size (n + 2) (n + 2) w.heap.size n cap a _ l hl (by omega) ho1 hbs1
  have hB2 : Below w.heap.size w w2 := hb1.trans ⟨hg2.os, hg2.tape, hg2.output, hg2.size, fun k hk => hg2.block k (by have := hb1.size; omega) (by simp; omega)⟩
  have hc1 := ho2.cell n (by omega)
  have hf1 := ho2.frozen n
  have hc2 := ho2.cell (n + 1) (by omega)
  have hf2 := ho2.frozen (n + 1)
  have s3 : Own (w2.setCell ⟨w.heap.size, n, none⟩ (.int .u8 71)) w.heap.size (.slice (some ⟨w.heap.size, 0, none⟩) (n + 2) (n + 2)) (n + 2) _ := (ho2.stored n 71).1
  have s4 : Own ((w2.setCell ⟨w.heap.size, n, none⟩ (.int .u8 71)).setCell ⟨w.heap.size, n + 1, none⟩ (.int .u8 72)) w.heap.size (.slice (some ⟨w.heap.size, 0, none⟩) (n + 2) (n + 2)) (n + 2) _ := (s3.stored (n + 1) 72).1
  rw [roomy_list l n hl] at s4
  have hB4 : Below w.heap.size w ((w2.setCell ⟨w.heap.size, n, none⟩ (.int .u8 71)).setCell ⟨w.heap.size, n + 1, none⟩ (.int .u8 72)) := (hB2.setCell (Nat.le_refl _) _).setCell (Nat.le_refl _) _
  clear s3
  clear ho1 ho2 hg2 hbs1 hb1 hb
  go_wp2
  go_ret
  exact ⟨rfl, s4, hB4⟩
theorem xor85 (l : List UInt8) (k : Nat) : ∃ c : UInt8, bits .xor .u8 (at8 l k) 85 = (c.toNat : Int) := by
  obtain ⟨n, hn, e, _⟩ := at8_nat l k
  have := u8_xor_nat n 85 hn (by omega)
  have hlt : n ^^^ 85 < 256 := by
    have := Nat.xor_lt_two_pow (n := 8) (x := n) (y := 85) (by simpa using hn) (by decide)
    simpa using this
  exact ⟨UInt8.ofNat (n ^^^ 85), by
    rw [e, show ((85 : Int)) = ((85 : Nat) : Int) from rfl, this, UInt8.toNat_ofNat', Nat.mod_eq_of_lt hlt]⟩
theorem same_at (g : Nat) (a : Option Addr) (cap cap' n : Nat) (l : List UInt8) (w : World) (hn : n ≤ 2000000) (hl : l.length = n) (h : Bs w (some ⟨g, 0, none⟩) l) (h' : Bs w a l) :
    Calls Tryd.prog 9 #[.slice (some ⟨g, 0, none⟩) n cap, .slice a n cap'] w fun e w' => e = .returned (.bool true) ∧ ∃ n, w' = w.drewN n := by
  subst hl
  have := same_any (some ⟨g, 0, none⟩) a cap cap' l l w hn hn h h'
  simpa using this

set_option maxRecDepth 100000 in
set_option maxHeartbeats 400000 in
theorem still_any (g base : Nat) (a : Option Addr) (cap n : Nat) (l : List UInt8) (w : World) (hl : l.length = n) (hn : n ≤ 90000) (hb : Bs w a l)
    (ho : Own w base (.slice (some ⟨g, 0, none⟩) (n + 2) (n + 2)) (n + 2) (l ++ [71, 72])) :
    Calls Tryd.prog 22 #[.slice (some ⟨g, 0, none⟩) n (n + 2), .slice a n cap] w fun e w' => e = .returned (.bool true) ∧ w.grownBy w' (some g) := by
  have hbs : Bs w (some ⟨g, 0, none⟩) l := by
    have := ho.bs 0 n (by omega)
    rwa [List.drop_zero, List.take_left' hl] at this
  have cs := fun c => same_at g a c cap n l w (by omega) hl hbs hb
  have e1 : at8 (l ++ [71, 72]) n = 71 := by unfold at8; rw [List.getD_eq_getElem?_getD, List.getElem?_append_right (by omega), hl, Nat.sub_self]; rfl
  have e2 : at8 (l ++ [71, 72]) (n + 1) = 72 := by unfold at8; rw [List.getD_eq_getElem?_getD, List.getElem?_append_right (by omega), hl, Nat.add_sub_cancel_left]; rfl
  have q1 := ho.cell n (by omega)
  have q2 := ho.cell (n + 1) (by omega)
  rw [e1] at q1
  rw [e2] at q2
  clear e1 e2 hbs
  go_enter Tryd.func22, Tryd.ntmps22
  go_wp2_with fail
  refine (cs _).mono ?_
  rintro e w1 ⟨rfl, nq, hw1⟩
  rw [hw1]
  clear hw1 cs
  go_wp2
  go_loopw [8] (fun i wr => ∃ k : Nat, k ≤ n + 2 ∧ i = .int .i64 k ∧ (∃ L, Own wr base (.slice (some ⟨g, 0, none⟩) (n + 2) (n + 2)) (n + 2) L) ∧ w.grownBy wr (some g)) (fun i _ => n + 2 - (intOf i).toNat)
  case atStart => exact ⟨0, Nat.zero_le _, rfl, ⟨_, ho.drewN nq⟩, ⟨rfl, rfl, rfl, Nat.le_refl _, fun _ _ _ => rfl⟩⟩
  case round =>
    obtain ⟨k, hk, rfl, ⟨L, hL⟩, hg⟩ := hrel
    by_cases hlt : k < n + 2
    · have hc := hL.cell k hlt
      have hf := hL.frozen k
      obtain ⟨c, hx⟩ := xor85 L k
      have hs := hL.stored k c
      rw [← hx] at hs
      clear hx
      go_wp2
      go_roundw
      case rel => exact ⟨k + 1, by omega, by go_num, ⟨_, hs.1⟩, grown_trans hg hs.2⟩
      case measure => simp [intOf]; omega
    · go_wp2
      go_ret
      exact ⟨rfl, hg⟩
end Go.Proofs.YtakjpgjcfecfiaaDoor
