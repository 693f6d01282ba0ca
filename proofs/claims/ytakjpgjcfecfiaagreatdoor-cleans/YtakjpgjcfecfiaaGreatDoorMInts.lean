import Derived.Test.YtakjpgjcfecfiaaGreatDoorMid
/- Lists of numbers: what a slice of them holds; slices.Contains; the checks of a manifest's numbers. -/
namespace Go.Proofs.YtakjpgjcfecfiaaGreatDoor
open Go.RowKit

/-- the k-th number -/
def zat (z : List Int) (k : Nat) : Int := z.getD k 0
/-- the slice value at a holds the numbers z -/
def Is (w : World) (a : Option Addr) (z : List Int) : Prop :=
  ∀ i, i < z.length → ∃ b o, a = some ⟨b, o, none⟩ ∧ w.cell? ⟨b, o + i, none⟩ = some (.int .i64 (zat z i))
theorem Is.kept {w w' : World} {a : Option Addr} {z : List Int} {B : Nat} (h : Is w a z) (hb : Below B w w') (hB : w.heap.size ≤ B) : Is w' a z := by
  intro i hi
  obtain ⟨b, o, e, hc⟩ := h i hi
  exact ⟨b, o, e, (hb.cell (p := ⟨b, o + i, none⟩) (Nat.lt_of_lt_of_le (World.block_lt_of_cell? _ _ hc) hB)).trans hc⟩
theorem Is.drewN {w : World} {a : Option Addr} {z : List Int} (h : Is w a z) (k : Nat) : Is (w.drewN k) a z := h.kept (below_drewN (Below.refl w.heap.size w) k) (Nat.le_refl _)

def hasZ (z : List Int) (n : Nat) (v : Int) : Bool := (List.range n).any fun j => zat z j == v
theorem hasZ_true {z : List Int} {n j : Nat} {v : Int} (hj : j < n) (h : zat z j = v) : hasZ z n v = true := by
  unfold hasZ; rw [List.any_eq_true]; exact ⟨j, List.mem_range.2 hj, by simp [h]⟩
theorem hasZ_false {z : List Int} {n : Nat} {v : Int} (h : ∀ j, j < n → zat z j ≠ v) : hasZ z n v = false := by
  unfold hasZ; rw [List.any_eq_false]; intro j hj; simpa using h j (List.mem_range.1 hj)
theorem hasZ_iff (z : List Int) (n : Nat) (v : Int) : hasZ z n v = true ↔ ∃ j, j < n ∧ zat z j = v := by
  unfold hasZ; rw [List.any_eq_true]; simp

set_option maxHeartbeats 400000 in
theorem index_any (a : Option Addr) (c n : Nat) (z : List Int) (v : Int) (w : World) (hn : n ≤ z.length) (hm : n ≤ 2000000) (h : Is w a z) :
    Calls Tryz.prog 219 #[.slice a n c, .int .i64 v] w fun e w' => (∃ r : Int, e = .returned (.int .i64 r) ∧ decide ((0 : Int) ≤ r) = hasZ z n v) ∧ w' = w := by
  go_enter Tryz.func219, Tryz.ntmps219
  go_wp2
  go_loop [4, 5, 8] (fun _ _ i => ∃ k : Nat, k ≤ n ∧ i = .int .i64 k ∧ ∀ j, j < k → zat z j ≠ v) (fun _ _ i => n - (intOf i).toNat)
  case atStart => exact ⟨0, Nat.zero_le _, rfl, fun j hj => by omega⟩
  case round =>
    obtain ⟨k, hk, rfl, hno⟩ := hrel
    by_cases hlt : k < n
    · obtain ⟨b, o, rfl, hc⟩ := h k (by omega)
      by_cases he : v = zat z k
      · have hb : (v == zat z k) = true := by simpa using he
        have HE : Hid (v = zat z k) := he
        clear he
        go_wp2
        go_ret
        exact ⟨⟨_, rfl, by rw [hasZ_true hlt HE.out.symm]; simp⟩, rfl⟩
      · have hb : (v == zat z k) = false := by simpa using he
        have HE : Hid (¬ v = zat z k) := he
        clear he
        go_wp2
        go_round
        case rel =>
          refine ⟨k + 1, by omega, by go_num, fun j hj => ?_⟩
          rcases Nat.lt_or_ge j k with h1 | h1
          · exact hno j h1
          · rw [show j = k by omega]; exact fun e => HE.out e.symm
        case measure => simp [intOf]; omega
    · go_wp2
      go_ret
      exact ⟨⟨_, rfl, by rw [hasZ_false (fun j hj => hno j (by omega))]; rfl⟩, rfl⟩

set_option maxHeartbeats 400000 in
theorem contains_any (a : Option Addr) (c n : Nat) (z : List Int) (v : Int) (w : World) (hn : n ≤ z.length) (hm : n ≤ 2000000) (h : Is w a z) :
    Calls Tryz.prog 194 #[.slice a n c, .int .i64 v] w fun e w' => e = .returned (.bool (hasZ z n v)) ∧ w' = w := by
  go_enter Tryz.func194, Tryz.ntmps194
  go_wp2_with fail
  refine (index_any a c n z v w hn hm h).mono ?_
  rintro e w' ⟨⟨r, rfl, hr⟩, rfl⟩
  have HR : Hid (decide ((0 : Int) ≤ r) = hasZ z n v) := hr
  clear hr
  go_wp2
  go_ret
  exact ⟨ret_bool HR.out, rfl⟩

/-- may a manifest list the first k numbers? -/
def okTo (z : List Int) (k : Nat) : Prop := ∀ i, i < k → 1 ≤ zat z i ∧ zat z i ≤ 999999 ∧ ∀ j, j < i → zat z j ≠ zat z i
def okZ (z : List Int) : Prop := z.length ≤ 60 ∧ okTo z z.length
def validZ (z : List Int) : Bool := decide (z.length ≤ 60) && (List.range z.length).all fun i => decide (1 ≤ zat z i ∧ zat z i ≤ 999999) && !hasZ z i (zat z i)
theorem validZ_iff (z : List Int) : validZ z = true ↔ okZ z := by
  unfold validZ okZ okTo
  rw [Bool.and_eq_true_iff, decide_eq_true_iff, List.all_eq_true]
  refine and_congr Iff.rfl ⟨fun h i hi => ?_, fun h i hi => ?_⟩
  · have h1 := h i (List.mem_range.2 hi)
    rw [Bool.and_eq_true_iff, decide_eq_true_iff] at h1
    refine ⟨h1.1.1, h1.1.2, fun j hj e => ?_⟩
    rw [hasZ_true hj e] at h1; simp at h1
  · have h1 := h i (List.mem_range.1 hi)
    rw [Bool.and_eq_true_iff, decide_eq_true_iff]
    exact ⟨⟨h1.1, h1.2.1⟩, by rw [hasZ_false h1.2.2]; rfl⟩
theorem validZ_true {z : List Int} (h : okZ z) : validZ z = true := (validZ_iff z).2 h
theorem validZ_false {z : List Int} (h : ¬ okZ z) : validZ z = false := by
  cases e : validZ z with
  | false => rfl
  | true => exact absurd ((validZ_iff z).1 e) h
theorem okTo_succ {z : List Int} {k : Nat} (h : okTo z k) (h1 : 1 ≤ zat z k) (h2 : zat z k ≤ 999999) (h3 : hasZ z k (zat z k) = false) : okTo z (k + 1) := by
  intro i hi
  rcases Nat.lt_or_ge i k with h4 | h4
  · exact h i h4
  · rw [show i = k by omega]
    refine ⟨h1, h2, fun j hj e => ?_⟩
    rw [hasZ_true hj e] at h3; cases h3

set_option maxRecDepth 100000 in
set_option maxHeartbeats 400000 in
theorem validIDs_any (a : Option Addr) (c n : Nat) (z : List Int) (w : World) (hn : z.length = n) (hm : n ≤ 2000000) (hcap : n ≤ c) (_hcm : c ≤ 9223372036854775807) (h : Is w a z) :
    Calls Tryz.prog 200 #[.slice a n c] w fun e w' => e = .returned (.bool (validZ z)) ∧ w' = w := by
  by_cases h60 : 60 < n
  · have hb : decide ((60 : Int) < (n : Int)) = true := by simp; omega
    go_enter Tryz.func200, Tryz.ntmps200
    go_wp2
    go_ret
    exact ⟨ret_bool (validZ_false (fun h => absurd h.1 (by omega))).symm, rfl⟩
  · have hb : decide ((60 : Int) < (n : Int)) = false := by simp; omega
    go_enter Tryz.func200, Tryz.ntmps200
    go_wp2
    go_loop [2, 3, 4, 10] (fun _ _ _ i => ∃ k : Nat, k ≤ n ∧ i = .int .i64 k ∧ okTo z k) (fun _ _ _ i => n - (intOf i).toNat)
    case atStart => exact ⟨0, Nat.zero_le _, rfl, fun j hj => by omega⟩
    case round =>
      obtain ⟨k, hk, rfl, hok⟩ := hrel
      by_cases hlt : k < n
      · obtain ⟨b, o, rfl, hc⟩ := h k (by omega)
        have hno : ∀ {P : Prop}, ¬ (1 ≤ zat z k ∧ zat z k ≤ 999999 ∧ ∀ j, j < k → zat z j ≠ zat z k) → okZ z → P := fun h1 h2 => absurd (h2.2 k (by omega)) h1
        have hkc : (k : Int) ≤ (c : Int) := by omega
        have HN : Hid (¬ (1 ≤ zat z k ∧ zat z k ≤ 999999 ∧ ∀ j, j < k → zat z j ≠ zat z k) → ¬ okZ z) := fun h1 h2 => hno h1 h2
        clear hno
        by_cases g1 : zat z k < 1
        · have b1 : decide (zat z k < 1) = true := by simpa using g1
          go_wp2
          go_ret
          exact ⟨ret_bool (validZ_false (HN.out (by omega))).symm, rfl⟩
        · have b1 : decide (zat z k < 1) = false := by simpa using g1
          by_cases g2 : 999999 < zat z k
          · have b2 : decide (999999 < zat z k) = true := by simpa using g2
            go_wp2
            go_ret
            exact ⟨ret_bool (validZ_false (HN.out (by omega))).symm, rfl⟩
          · have b2 : decide (999999 < zat z k) = false := by simpa using g2
            have cc := fun c' => contains_any (some ⟨b, o, none⟩) c' k z (zat z k) w (by omega) (by omega) h
            cases hh : hasZ z k (zat z k) with
            | true =>
              rw [hh] at cc
              have HH : Hid (hasZ z k (zat z k) = true) := hh
              clear hh
              go_wp2_with fail
              refine (cc _).mono ?_
              rintro e w' ⟨rfl, rfl⟩
              go_wp2
              go_ret
              refine ⟨ret_bool (validZ_false (HN.out (fun ⟨_, _, h3⟩ => ?_))).symm, rfl⟩
              obtain ⟨j, hj, e⟩ := (hasZ_iff _ _ _).1 HH.out
              exact h3 j hj e
            | false =>
              rw [hh] at cc
              have HH : Hid (hasZ z k (zat z k) = false) := hh
              clear hh
              go_wp2_with fail
              refine (cc _).mono ?_
              rintro e w' ⟨rfl, rfl⟩
              go_wp2
              go_round
              case rel => exact ⟨k + 1, by omega, by go_num, okTo_succ hok (by omega) (by omega) HH.out⟩
              case measure => simp [intOf]; omega
      · go_wp2
        go_ret
        exact ⟨ret_bool (validZ_true ⟨by omega, by rw [hn, show n = k by omega]; exact hok⟩).symm, rfl⟩

set_option maxRecDepth 100000 in
set_option maxHeartbeats 1000000 in
theorem checkIDs_any (a : Option Addr) (c n : Nat) (z : List Int) (w : World) (hn : z.length = n) (_hm : n ≤ 2000000) (h : Is w a z) :
    Calls Tryz.prog 78 #[.slice a n c] w fun e w' => e = .returned (.bool (validZ z)) ∧ ∃ q, w' = w.drewN q := by
  by_cases h60 : 60 < n
  · have hb : decide ((60 : Int) < (n : Int)) = true := by simp; omega
    go_enter Tryz.func78, Tryz.ntmps78
    go_wp2
    go_ret
    exact ⟨ret_bool (validZ_false (fun h => absurd h.1 (by omega))).symm, 0, rfl⟩
  · have hb : decide ((60 : Int) < (n : Int)) = false := by simp; omega
    go_enter Tryz.func78, Tryz.ntmps78
    go_wp2
    go_loopw [2, 3, 4] (fun _ i _ wr => ∃ k : Nat, k ≤ n ∧ i = .int .i64 k ∧ okTo z k ∧ ∃ q, wr = w.drewN q) (fun _ i _ _ => n - (intOf i).toNat)
    case atStart => exact ⟨0, Nat.zero_le _, rfl, fun j hj => by omega, 0, rfl⟩
    case round =>
      obtain ⟨k, hk, rfl, hok, q, rfl⟩ := hrel
      by_cases hlt : k < n
      · obtain ⟨b, o, rfl, hc⟩ := h k (by omega)
        have HN : Hid (¬ (1 ≤ zat z k ∧ zat z k ≤ 999999 ∧ ∀ j, j < k → zat z j ≠ zat z k) → ¬ okZ z) := fun h1 h2 => h1 (h2.2 k (by omega))
        by_cases g1 : zat z k < 1
        · have b1 : decide (zat z k < 1) = true := by simpa using g1
          go_wp2
          go_ret
          exact ⟨ret_bool (validZ_false (HN.out (by omega))).symm, q, rfl⟩
        · have b1 : decide (zat z k < 1) = false := by simpa using g1
          by_cases g2 : 999999 < zat z k
          · have b2 : decide (999999 < zat z k) = true := by simpa using g2
            go_wp2
            go_ret
            exact ⟨ret_bool (validZ_false (HN.out (by omega))).symm, q, rfl⟩
          · have b2 : decide (999999 < zat z k) = false := by simpa using g2
            go_wp2
            go_loopw [2, 4] (fun _ i wr => ∃ j : Nat, j ≤ k ∧ i = .int .i64 j ∧ (∀ m, m < j → zat z m ≠ zat z k) ∧ ∃ q, wr = w.drewN q) (fun _ i _ => k - (intOf i).toNat)
            case atStart => exact ⟨0, Nat.zero_le _, rfl, fun m hm => by omega, q, rfl⟩
            case round =>
              obtain ⟨j, hj, rfl, hne, q2, rfl⟩ := hrel
              by_cases hjk : j < k
              · obtain ⟨b', o', e, hcj⟩ := h j (by omega)
                cases e
                have i1 : (j : Int) < (n : Int) := by omega
                have i2 : (k : Int) < (n : Int) := by omega
                by_cases he : zat z j = zat z k
                · have hbe : (zat z j == zat z k) = true := by simpa using he
                  have HE : Hid (zat z j = zat z k) := he
                  clear he
                  go_wp2
                  go_quiet (fail)
                  go_wp2
                  go_ret
                  exact ⟨ret_bool (validZ_false (HN.out (fun ⟨_, _, h3⟩ => h3 j hjk HE.out))).symm, _, World.drewN_drewN _ _ _⟩
                · have hbe : (zat z j == zat z k) = false := by simpa using he
                  have HE : Hid (¬ zat z j = zat z k) := he
                  clear he
                  go_wp2
                  go_quiet (fail)
                  go_wp2
                  go_roundw
                  case rel =>
                    refine ⟨j + 1, by omega, by go_num, fun m hm => ?_, _, by first | rfl | exact World.drewN_drewN _ _ _⟩
                    rcases Nat.lt_or_ge m j with h1 | h1
                    · exact hne m h1
                    · rw [show m = j by omega]; exact HE.out
                  case measure => simp [intOf]; omega
              · go_wp2
                go_roundw
                case rel =>
                  exact ⟨k + 1, by omega, by go_num, okTo_succ hok (by omega) (by omega) (hasZ_false (fun m hm => hne m (by omega))), q2, rfl⟩
                case measure => simp [intOf]; omega
      · go_wp2
        go_ret
        exact ⟨ret_bool (validZ_true ⟨by omega, by rw [hn, show n = k by omega]; exact hok⟩).symm, q, rfl⟩

end Go.Proofs.YtakjpgjcfecfiaaGreatDoor
