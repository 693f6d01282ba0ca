import Derived.Test.YtakjpgjcfecfiaaGreatDoorLName
import Derived.Deep.QuietTactic
import Derived.BigQuiet
/- A directory as the statements are handed it; small. -/
namespace Go.Proofs.YtakjpgjcfecfiaaGreatDoor
open Go.RowKit Go.Maps Go.Joins

abbrev reachN : Nat := 140737488351232
/-- records that came in -/
def RecsAt (w : World) (a : Option Addr) (n : Nat) : Prop :=
  n ≤ reachN ∧ ∀ k, k < n → ∃ b o sq key val del, a = some ⟨b, o, none⟩ ∧ w.cell? ⟨b, o + k * 4, none⟩ = some (.int .u64 ((sq : Nat) : Int)) ∧ sq < 18446744073709551616 ∧ w.cell? ⟨b, o + k * 4 + 1, none⟩ = some (.string key) ∧ w.cell? ⟨b, o + k * 4 + 2, none⟩ = some (.string val) ∧
    w.cell? ⟨b, o + k * 4 + 3, none⟩ = some (.bool del) ∧ key.size ≤ reachN ∧ val.size ≤ reachN
/-- bytes that came in -/
def BytesAt (w : World) (a : Option Addr) (n cap : Nat) : Prop := n ≤ reachN ∧ (a = none → n = 0 ∧ cap = 0) ∧ ∃ l : List UInt8, l.length = n ∧ Bs w a l
/-- a segment -/
def SegsAt (w : World) (a : Option Addr) (n : Nat) : Prop :=
  ∀ i, i < n → ∃ b o id ar nr cr at' nt ct l g, a = some ⟨b, o, none⟩ ∧ w.cell? ⟨b, o + i * 5, none⟩ = some (.int .i64 id) ∧ w.cell? ⟨b, o + i * 5 + 1, none⟩ = some (.slice ar nr cr) ∧ w.cell? ⟨b, o + i * 5 + 2, none⟩ = some (.slice at' nt ct) ∧
    w.cell? ⟨b, o + i * 5 + 3, none⟩ = some (.bool l) ∧ w.cell? ⟨b, o + i * 5 + 4, none⟩ = some (.bool g) ∧ RecsAt w ar nr ∧ BytesAt w at' nt ct
/-- other files -/
def OthsAt (w : World) (a : Option Addr) (n : Nat) : Prop :=
  ∀ i, i < n → ∃ b o s hint ab nb cb, a = some ⟨b, o, none⟩ ∧ w.cell? ⟨b, o + i * 3, none⟩ = some (encStr s) ∧ w.cell? ⟨b, o + i * 3 + 1, none⟩ = some (.int .i64 hint) ∧ w.cell? ⟨b, o + i * 3 + 2, none⟩ = some (.slice ab nb cb) ∧ s.length ≤ reachN ∧ BytesAt w ab nb cb
theorem Below.keepc {a b : World} (h : Below a.heap.size a b) {p : Addr} {v : Value} (hc : a.cell? p = some v) : b.cell? p = some v := (h.cell (World.block_lt_of_cell? _ _ hc)).trans hc
section
variable {w w' : World}
theorem RecsAt.stay {a : Option Addr} {n : Nat} (h : RecsAt w a n) (hb : Below w.heap.size w w') : RecsAt w' a n := by
  refine ⟨h.1, fun k hk => ?_⟩
  obtain ⟨b, o, sq, key, val, del, e, h1, h2, h3, h4, h5, h6⟩ := h.2 k hk
  exact ⟨b, o, sq, key, val, del, e, Below.keepc hb h1, h2, Below.keepc hb h3, Below.keepc hb h4, Below.keepc hb h5, h6⟩
theorem BytesAt.stay {a : Option Addr} {n cap : Nat} (h : BytesAt w a n cap) (hb : Below w.heap.size w w') : BytesAt w' a n cap := by
  obtain ⟨h1, h2, l, h3, h4⟩ := h
  exact ⟨h1, h2, l, h3, h4.stay hb⟩
theorem SegsAt.stay {a : Option Addr} {n : Nat} (h : SegsAt w a n) (hb : Below w.heap.size w w') : SegsAt w' a n := by
  intro i hi
  obtain ⟨b, o, id, ar, nr, cr, at', nt, ct, l, g, e, h1, h2, h3, h4, h5, h6, h7⟩ := h i hi
  exact ⟨b, o, id, ar, nr, cr, at', nt, ct, l, g, e, Below.keepc hb h1, Below.keepc hb h2, Below.keepc hb h3, Below.keepc hb h4, Below.keepc hb h5, h6.stay hb, h7.stay hb⟩
theorem OthsAt.stay {a : Option Addr} {n : Nat} (h : OthsAt w a n) (hb : Below w.heap.size w w') : OthsAt w' a n := by
  intro i hi
  obtain ⟨b, o, s, hint, ab, nb, cb, e, h1, h2, h3, h4, h5⟩ := h i hi
  exact ⟨b, o, s, hint, ab, nb, cb, e, Below.keepc hb h1, Below.keepc hb h2, Below.keepc hb h3, h4, h5.stay hb⟩
end
/-- a directory, as a value -/
abbrev dirV (sa : Option Addr) (ns cs : Nat) (oa : Option Addr) (no co gen : Nat) (pa : Option Addr) (np cp : Nat) (wh wo : Bool) : Value :=
  .agg #[.slice sa ns cs, .slice oa no co, .int .u64 (gen : Int), .slice pa np cp, .bool wh, .bool wo]
/-- the bounds of a directory that is small -/
structure SmallDir (w : World) (sa : Option Addr) (ns : Nat) (oa : Option Addr) (no np : Nat) (z : Int) : Prop where
  bns : ns ≤ 60
  bno : no ≤ 300
  bnp : np ≤ 40000
  seg : ∀ i b o ar nr cr at' nt ct, i < ns → sa = some ⟨b, o, none⟩ → w.cell? ⟨b, o + i * 5 + 1, none⟩ = some (.slice ar nr cr) → w.cell? ⟨b, o + i * 5 + 2, none⟩ = some (.slice at' nt ct) → 20 * (nr : Int) ≤ z ∧ (nt : Int) ≤ z
  oth : ∀ i b o ab nb cb, i < no → oa = some ⟨b, o, none⟩ → w.cell? ⟨b, o + i * 3 + 2, none⟩ = some (.slice ab nb cb) → (nb : Int) ≤ z

/-- where small stands: the box of its argument -/
structure Here (w wr : World) (X : Nat) (sa : Option Addr) (ns cs : Nat) (oa : Option Addr) (no co : Nat) : Prop where
  c0 : wr.cell? ⟨X, 0, none⟩ = some (.slice sa ns cs)
  c1 : wr.cell? ⟨X, 1, none⟩ = some (.slice oa no co)
  below : Below w.heap.size w wr
theorem Here.drews {w wr : World} {X : Nat} {sa : Option Addr} {ns cs : Nat} {oa : Option Addr} {no co : Nat} (h : Here w wr X sa ns cs oa no co) (q : Nat) : Here w (wr.drewN q) X sa ns cs oa no co :=
  ⟨h.c0, h.c1, ⟨h.below.os, h.below.tape, h.below.output, h.below.size, h.below.block⟩⟩
def segB (w : World) (sa : Option Addr) (i : Nat) (z : Int) : Prop := ∀ i' b o ar nr cr at' nt ct, i' < i → sa = some ⟨b, o, none⟩ → w.cell? ⟨b, o + i' * 5 + 1, none⟩ = some (.slice ar nr cr) → w.cell? ⟨b, o + i' * 5 + 2, none⟩ = some (.slice at' nt ct) → 20 * (nr : Int) ≤ z ∧ (nt : Int) ≤ z
def othB (w : World) (oa : Option Addr) (i : Nat) (z : Int) : Prop := ∀ i' b o ab nb cb, i' < i → oa = some ⟨b, o, none⟩ → w.cell? ⟨b, o + i' * 3 + 2, none⟩ = some (.slice ab nb cb) → (nb : Int) ≤ z
theorem segB.mono {w : World} {sa : Option Addr} {i : Nat} {z z' : Int} (h : segB w sa i z) (hz : z ≤ z') : segB w sa i z' := fun i' b o ar nr cr at' nt ct h1 h2 h3 h4 => by
  have := h i' b o ar nr cr at' nt ct h1 h2 h3 h4; omega
theorem othB.mono {w : World} {sa : Option Addr} {i : Nat} {z z' : Int} (h : othB w sa i z) (hz : z ≤ z') : othB w sa i z' := fun i' b o ab nb cb h1 h2 h3 => by
  have := h i' b o ab nb cb h1 h2 h3; omega

set_option maxRecDepth 100000 in
set_option maxHeartbeats 2000000 in
theorem small_any (w : World) (sa : Option Addr) (ns cs : Nat) (oa : Option Addr) (no co gen : Nat) (pa : Option Addr) (np cp : Nat) (wh wo : Bool) (hns : ns ≤ reachN) (hno : no ≤ reachN) (_hnp : np ≤ reachN) (hs : SegsAt w sa ns) (ho : OthsAt w oa no) :
    Calls Tryz.prog 12 #[dirV sa ns cs oa no co gen pa np cp wh wo] w fun e w' => ∃ r : Bool, e = .returned (.bool r) ∧ Below w.heap.size w w' ∧ (r = true → SmallDir w sa ns oa no np 40000) := by
  by_cases hbig : ns ≤ 60 ∧ no ≤ 300 ∧ np ≤ 40000
  · obtain ⟨h1, h2, h3⟩ := hbig
    have b1 : decide ((60 : Int) < ns) = false := by simp; omega
    have b2 : decide ((300 : Int) < no) = false := by simp; omega
    have b3 : decide ((40000 : Int) < np) = false := by simp; omega
    go_enter Tryz.func12, Tryz.ntmps12
    go_wp2
    go_loopw [3, 4] (fun n i wr => ∃ (k : Nat) (z : Int), k ≤ ns ∧ i = .int .i64 k ∧ n = .int .i64 z ∧ 0 ≤ z ∧ z ≤ 40000 + (k : Int) * 140737488351232 ∧ segB w sa k z ∧ Here w wr w.heap.size sa ns cs oa no co) (fun _ i _ => ns - (intOf i).toNat)
    case atStart => exact ⟨0, 0, Nat.zero_le _, rfl, rfl, by omega, by omega, fun i' b o ar nr cr at' nt ct h => by omega, by simp, by simp, (Below.refl _ w).alloc (Nat.le_refl _) _⟩
    case round =>
      obtain ⟨k, z, hk, rfl, rfl, hz0, hz1, hsb, hh⟩ := hrel
      have q0 := hh.c0
      have q1 := hh.c1
      by_cases hlt : k < ns
      · obtain ⟨b, o, id, ar, nr, cr, at', nt, ct, l, g, rfl, e1, e2, e3, e4, e5, e6, e7⟩ := hs k hlt
        have r2 := Below.keepc hh.below e2
        have r3 := Below.keepc hh.below e3
        have hki : (k : Int) < (ns : Int) := by omega
        have hnr := e6.1
        have hnt := e7.1
        have hw1 : wrap64 (z + (nt : Int)) = z + (nt : Int) := by unfold wrap64; unfold reachN at hnt; omega
        have hz2 : z + (nt : Int) ≤ 40000 + ((k : Int) + 1) * 140737488351232 := by unfold reachN at hnt; omega
        have hz3 : 0 ≤ z + (nt : Int) := by omega
        have HS : Hid (segB w (some ⟨b, o, none⟩) k z) := hsb
        clear hsb
        go_wp2
        go_loopw [3, 5] (fun n i wr => ∃ (j : Nat) (y : Int), j ≤ nr ∧ i = .int .i64 j ∧ n = .int .i64 y ∧ z + (nt : Int) + 20 * (j : Int) ≤ y ∧ y ≤ 40000 + ((k : Int) + 1) * 140737488351232 ∧ Here w wr w.heap.size (some ⟨b, o, none⟩) ns cs oa no co) (fun _ i _ => nr - (intOf i).toNat)
        case atStart => exact ⟨0, z + (nt : Int), Nat.zero_le _, rfl, rfl, by omega, hz2, hh⟩
        case round =>
          obtain ⟨j, y, hj, rfl, rfl, hy0, hy1, hh2⟩ := hrel
          have p0 := hh2.c0
          have p1 := hh2.c1
          have p2 := Below.keepc hh2.below e2
          have p3 := Below.keepc hh2.below e3
          by_cases hltj : j < nr
          · obtain ⟨b', o', sq, key, val, del, rfl, d1, d2, d3, d4, d5, d6, d7⟩ := e6.2 j hltj
            have s1 := Below.keepc hh2.below d3
            have s2 := Below.keepc hh2.below d4
            have hji : (j : Int) < (nr : Int) := by omega
            unfold reachN at d6 d7
            have w1 : wrap64 (y + 20) = y + 20 := by unfold wrap64; omega
            have w2 : wrap64 (y + 20 + (key.size : Int)) = y + 20 + (key.size : Int) := by unfold wrap64; omega
            have w3 : wrap64 (y + 20 + (key.size : Int) + (val.size : Int)) = y + 20 + (key.size : Int) + (val.size : Int) := by unfold wrap64; omega
            have hki2 : (k : Int) < (ns : Int) := by omega
            go_wp2
            go_quiet (fail)
            by_cases hbig3 : (40000 : Int) < y + 20 + (key.size : Int) + (val.size : Int)
            · have b4 : decide ((40000 : Int) < y + 20 + (key.size : Int) + (val.size : Int)) = true := by simpa using hbig3
              clear hbig3
              go_wp2
              go_ret
              exact ⟨false, rfl, (hh2.drews nq).below, fun h => by cases h⟩
            · have b4 : decide ((40000 : Int) < y + 20 + (key.size : Int) + (val.size : Int)) = false := by simpa using hbig3
              have HY : Hid (y + 20 + (key.size : Int) + (val.size : Int) ≤ 40000) := (by omega : y + 20 + (key.size : Int) + (val.size : Int) ≤ 40000)
              clear hbig3
              go_wp2
              go_roundw
              case rel => exact ⟨j + 1, _, by omega, by go_num, rfl, by have := HY.out; omega, by have := HY.out; omega, hh2.drews nq⟩
              case measure => simp [intOf]; omega
          · obtain rfl : j = nr := by omega
            go_wp2
            go_roundw
            case rel =>
              refine ⟨k + 1, y, by omega, by go_num, rfl, by omega, by omega, fun i' b1 o1 ar1 nr1 cr1 at1 nt1 ct1 hi' hsa f1 f2 => ?_, hh2⟩
              by_cases hik : i' = k
              · subst hik
                cases hsa
                rw [e2] at f1; cases f1
                rw [e3] at f2; cases f2
                omega
              · have := HS.out i' b1 o1 ar1 nr1 cr1 at1 nt1 ct1 (by omega) hsa f1 f2
                omega
            case measure => simp [intOf]; omega
      · obtain rfl : k = ns := by omega
        have HS : Hid (segB w sa k z) := hsb
        clear hsb
        have hz9 : z ≤ 9000000000000000 := by omega
        clear hz1
        go_wp2
        go_loopw [3, 6] (fun n i wr => ∃ (j : Nat) (y : Int), j ≤ no ∧ i = .int .i64 j ∧ n = .int .i64 y ∧ z ≤ y ∧ y ≤ 9000000000000000 ∧ othB w oa j y ∧ Here w wr w.heap.size sa k cs oa no co) (fun _ i _ => no - (intOf i).toNat)
        case atStart => exact ⟨0, z, Nat.zero_le _, rfl, rfl, by omega, hz9, fun i' b o ab nb cb h => by omega, hh⟩
        case round =>
          obtain ⟨j, y, hj, rfl, rfl, hy0, hy1, hob, hh2⟩ := hrel
          have HO : Hid (othB w oa j y) := hob
          clear hob
          have p0 := hh2.c0
          have p1 := hh2.c1
          by_cases hltj : j < no
          · obtain ⟨b, o, s, hint, ab, nb, cb, rfl, e1, e2, e3, e4, e5⟩ := ho j hltj
            have s1 := Below.keepc hh2.below e1
            have s2 := Below.keepc hh2.below e3
            have hji : (j : Int) < (no : Int) := by omega
            have hnb := e5.1
            unfold reachN at e4 hnb
            have w1 : wrap64 (y + (nb : Int)) = y + (nb : Int) := by unfold wrap64; omega
            have w2 : wrap64 (y + (nb : Int) + (s.length : Int)) = y + (nb : Int) + (s.length : Int) := by unfold wrap64; omega
            go_wp2
            go_quiet (fail)
            by_cases hbig3 : (40000 : Int) < y + (nb : Int) + (s.length : Int)
            · have b4 : decide ((40000 : Int) < y + (nb : Int) + (s.length : Int)) = true := by simpa using hbig3
              clear hbig3
              go_wp2
              go_ret
              exact ⟨false, rfl, (hh2.drews nq).below, fun h => by cases h⟩
            · have b4 : decide ((40000 : Int) < y + (nb : Int) + (s.length : Int)) = false := by simpa using hbig3
              have HY : Hid (y + (nb : Int) + (s.length : Int) ≤ 40000) := (by omega : y + (nb : Int) + (s.length : Int) ≤ 40000)
              clear hbig3
              go_wp2
              go_roundw
              case rel =>
                refine ⟨j + 1, _, by omega, by go_num, rfl, by omega, by have := HY.out; omega, fun i' b1 o1 ab1 nb1 cb1 hi' hsa f1 => ?_, hh2.drews nq⟩
                by_cases hik : i' = j
                · subst hik
                  cases hsa
                  rw [e3] at f1; cases f1
                  omega
                · have := HO.out i' b1 o1 ab1 nb1 cb1 (by omega) hsa f1
                  omega
              case measure => simp [intOf]; omega
          · obtain rfl : j = no := by omega
            go_wp2
            go_ret
            refine ⟨decide (y ≤ 40000), rfl, hh2.below, fun h => ?_⟩
            have hy : y ≤ 40000 := by simpa using h
            exact ⟨h1, h2, h3, (HS.out.mono (by omega) : segB w sa k 40000), (HO.out.mono hy : othB w oa j 40000)⟩
  · have key : (decide ((60 : Int) < ns) = true) ∨ (decide ((60 : Int) < ns) = false ∧ decide ((300 : Int) < no) = true) ∨ (decide ((60 : Int) < ns) = false ∧ decide ((300 : Int) < no) = false ∧ decide ((40000 : Int) < np) = true) := by
      simp only [decide_eq_true_iff, decide_eq_false_iff_not]; omega
    rcases key with b1 | ⟨b1, b2⟩ | ⟨b1, b2, b3⟩
    all_goals
      go_enter Tryz.func12, Tryz.ntmps12
      go_wp2
      go_ret
      exact ⟨false, rfl, (Below.refl _ w).alloc (Nat.le_refl _) _, fun h => by cases h⟩
end Go.Proofs.YtakjpgjcfecfiaaGreatDoor
