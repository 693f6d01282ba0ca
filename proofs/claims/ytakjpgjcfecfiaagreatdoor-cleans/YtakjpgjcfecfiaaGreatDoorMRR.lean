import Derived.Test.YtakjpgjcfecfiaaGreatDoorMRd
/- The document's own ReadManifest. -/
namespace Go.Proofs.YtakjpgjcfecfiaaGreatDoor
open Go.RowKit

abbrev noRd : Value := .tuple #[.int .u64 0, .slice none 0 0, .bool false]

set_option maxHeartbeats 400000 in
theorem refRead_short (a : Option Addr) (cap n : Nat) (w : World) (h : n < 14) :
    Calls Tryz.prog 40 #[.slice a n cap] w fun e w' => e = .returned noRd ∧ Below w.heap.size w w' := by
  have hb : decide ((n : Int) < 14) = true := by simp; omega
  go_enter Tryz.func40, Tryz.ntmps40
  go_wp2
  go_ret3
  exact ⟨rfl, Below.refl _ _⟩

set_option maxRecDepth 100000 in
set_option maxHeartbeats 1000000 in
theorem refRead_sum (b o cap n : Nat) (l : List UInt8) (w : World) (hl : l.length = n) (hn : 14 ≤ n) (hm : n ≤ 2000000) (hcap : n ≤ cap) (hcm : cap ≤ 9223372036854775807) (hb : Bs w (some ⟨b, o, none⟩) l)
    (h : ¬ (n = 14 + 4 * rcnt l ∧ num (l.take 4) = crc (l.drop 4))) :
    Calls Tryz.prog 40 #[.slice (some ⟨b, o, none⟩) n cap] w fun e w' => e = .returned noRd ∧ Below w.heap.size w w' := by
  have b1 : decide ((n : Int) < 14) = false := by simp; omega
  have hc := rcnt_lt l
  have cn : ∀ c, Calls Tryz.prog 76 #[.slice (some ⟨b, o + 12, none⟩) 2 c] w fun e w' => e = .returned (.int .u64 (rcnt l : Nat)) ∧ w' = w :=
    fun c => refNumber_at b (o + 12) c 2 _ w (by omega) (by simp; omega) (hb.part 12 2 (by omega))
  have cs : ∀ c, Calls Tryz.prog 77 #[.slice (some ⟨b, o + 4, none⟩) (n - 4) c] w fun e w' => e = .returned (.int .u32 (crc (l.drop 4) : Nat)) ∧ w' = w :=
    fun c => refSum_at' b (o + 4) c _ _ w (by omega) (by simp; omega) (by
      have := hb.part 4 (n - 4) (by omega)
      rwa [List.take_of_length_le (by simp; omega)] at this)
  have cn4 : ∀ c, Calls Tryz.prog 76 #[.slice (some ⟨b, o, none⟩) 4 c] w fun e w' => e = .returned (.int .u64 (num (l.take 4) : Nat)) ∧ w' = w :=
    fun c => refNumber_at b o c 4 (l.take 4) _ (by omega) (by simp; omega) (by simpa using hb.part 0 4 (by omega))
  have hcr := crc_lt (l.drop 4)
  have hn4 : num (l.take 4) < 4294967296 := by have := num_lt (l.take 4); rwa [show (l.take 4).length = 4 by simp; omega] at this
  have n12 : ¬ cap = 12 := by omega
  have n4 : ¬ cap = 4 := by omega
  clear hb hl
  generalize rcnt l = m at *
  generalize num (l.take 4) = s4 at *
  generalize crc (l.drop 4) = cr at *
  have key : (((n : Int) != 14 + 4 * (m : Int)) = true) ∨ (((n : Int) != 14 + 4 * (m : Int)) = false ∧ ((s4 : Int) != (cr : Int)) = true) := by
    simp only [bne_iff_ne, bne_eq_false_iff_eq]; omega
  clear h
  rcases key with g1 | ⟨g1, g2⟩
  · go_enter Tryz.func40, Tryz.ntmps40
    go_wp2_with fail
    refine (cn _).mono ?_
    rintro e w' ⟨rfl, rfl⟩
    go_wp2_with fail
    refine (cs _).mono ?_
    rintro e w' ⟨rfl, rfl⟩
    go_wp2
    go_ret3
    exact ⟨rfl, Below.refl _ _⟩
  · go_enter Tryz.func40, Tryz.ntmps40
    go_wp2_with fail
    refine (cn _).mono ?_
    rintro e w' ⟨rfl, rfl⟩
    go_wp2_with fail
    refine (cs _).mono ?_
    rintro e w' ⟨rfl, rfl⟩
    go_wp2_with fail
    refine (cn4 _).mono ?_
    rintro e w' ⟨rfl, rfl⟩
    go_wp2
    go_ret3
    exact ⟨rfl, Below.refl _ _⟩

theorem rids_succ (l : List UInt8) (k : Nat) : rids l (k + 1) = rids l k ++ [(rnum l k : Int)] := by simp [rids, List.range_succ]

set_option maxRecDepth 100000 in
set_option maxHeartbeats 1000000 in
theorem refRead_inv (b o cap n m : Nat) (l : List UInt8) (w : World) (hl : l.length = n) (hn : 14 ≤ n) (hm : n ≤ 2000000) (hcap : n ≤ cap) (hcm : cap ≤ 9223372036854775807) (hb : Bs w (some ⟨b, o, none⟩) l)
    (hmm : rcnt l = m) (h1 : n = 14 + 4 * m) (h2 : num (l.take 4) = crc (l.drop 4)) (hv : validZ (rids l m) = false) :
    Calls Tryz.prog 40 #[.slice (some ⟨b, o, none⟩) n cap] w fun e w' => e = .returned noRd ∧ Below w.heap.size w w' := by
  have b1 : decide ((n : Int) < 14) = false := by simp; omega
  have hc := rcnt_lt l
  have cn : ∀ c, Calls Tryz.prog 76 #[.slice (some ⟨b, o + 12, none⟩) 2 c] w fun e w' => e = .returned (.int .u64 (rcnt l : Nat)) ∧ w' = w :=
    fun c => refNumber_at b (o + 12) c 2 _ w (by omega) (by simp; omega) (hb.part 12 2 (by omega))
  have cs : ∀ c, Calls Tryz.prog 77 #[.slice (some ⟨b, o + 4, none⟩) (n - 4) c] w fun e w' => e = .returned (.int .u32 (crc (l.drop 4) : Nat)) ∧ w' = w :=
    fun c => refSum_at' b (o + 4) c _ _ w (by omega) (by simp; omega) (by
      have := hb.part 4 (n - 4) (by omega)
      rwa [List.take_of_length_le (by simp; omega)] at this)
  have cn4 : ∀ c, Calls Tryz.prog 76 #[.slice (some ⟨b, o, none⟩) 4 c] w fun e w' => e = .returned (.int .u64 (num (l.take 4) : Nat)) ∧ w' = w :=
    fun c => refNumber_at b o c 4 (l.take 4) _ (by omega) (by simp; omega) (by simpa using hb.part 0 4 (by omega))
  rw [hmm] at cn hc
  rw [h2] at cn4
  have hcr := crc_lt (l.drop 4)
  have g1 : ((n : Int) != 14 + 4 * (m : Int)) = false := by simp only [bne_eq_false_iff_eq]; omega
  have g2 : (((crc (l.drop 4) : Nat) : Int) != ((crc (l.drop 4) : Nat) : Int)) = false := by simp
  have n12 : ¬ cap = 12 := by omega
  have n4 : ¬ cap = 4 := by omega
  have hn4 : 14 + 4 * m ≤ n := by omega
  clear h1 h2 hmm
  generalize crc (l.drop 4) = cr at *
  go_enter Tryz.func40, Tryz.ntmps40
  go_wp2_with fail
  refine (cn _).mono ?_
  rintro e w' ⟨rfl, hw⟩
  rw [hw]
  clear hw w'
  go_wp2_with fail
  refine (cs _).mono ?_
  rintro e w' ⟨rfl, hw⟩
  rw [hw]
  clear hw w'
  go_wp2_with fail
  refine (cn4 _).mono ?_
  rintro e w' ⟨rfl, hw⟩
  rw [hw]
  clear hw w' cn cs cn4
  go_wp2
  go_loopw [7, 8] (fun v i wr => ∃ k : Nat, k ≤ m ∧ i = .int .i64 k ∧ OwnI wr w.heap.size v k (rids l k) ∧ Below w.heap.size w wr) (fun _ i _ => m - (intOf i).toNat)
  case atStart => exact ⟨0, Nat.zero_le _, rfl, OwnI.nil _ _, Below.refl _ _⟩
  case round =>
    obtain ⟨k, hk, rfl, ho, hB⟩ := hrel
    by_cases hlt : k < m
    · have cn : ∀ len c, len = 4 → Calls Tryz.prog 76 #[.slice (some ⟨b, o + (14 + 4 * k), none⟩) len c] wr fun e w' => e = .returned (.int .u64 (rnum l k : Nat)) ∧ w' = wr :=
        fun len c hlen => refNumber_at b (o + (14 + 4 * k)) c len _ wr (by omega) (by simp; omega) ((hb.kept hB (Nat.le_refl _)).part (14 + 4 * k) 4 (by omega))
      have nk : ¬ cap = 14 + 4 * k := by omega
      have hrn := rnum_lt l k
      go_wp2_with fail
      refine (cn _ _ ?_).mono ?_
      · omega
      rintro e w' ⟨rfl, hw⟩
      rw [hw]
      clear hw cn
      go_wp2_with (at_builtin; refine app_ints _ rfl _ _ rfl w.heap.size k _ _ rfl (ho.alloc _) ⟨wr.heap.size, 0, none⟩ 1 1 [(rnum l k : Int)] rfl rfl ?c1 ?c2 ?c3 ?_)
      case c1 =>
        intro i hi
        obtain rfl : i = 0 := by omega
        simp only [Addr.add]
        simp [zat]
      case c2 => omega
      case c3 => have := hB.size; simp; omega
      intro v' w2 ho' hb'
      have hB2 : Below w.heap.size w w2 := (hB.alloc hB.size _).trans hb'
      rw [← rids_succ] at ho'
      clear hb' ho
      go_wp2
      go_roundw
      case rel => exact ⟨k + 1, by omega, by go_num, ho', hB2⟩
      case measure => simp [intOf]; omega
    · obtain rfl : k = m := by omega
      obtain ⟨za, zc, hz, hzc, hzm, hzi, hznil⟩ := ho.shape
      rw [hz] at ho ⊢
      clear hz
      have cv := checkIDs_any za zc k (rids l k) wr (rids_length l k) (by omega) hzi
      rw [hv] at cv
      clear hv hzi
      go_wp2_with fail
      refine cv.mono ?_
      rintro e w3 ⟨rfl, q, hw3⟩
      have hB3 : Below w.heap.size w w3 := by rw [hw3]; exact below_drewN hB q
      have ho3 : OwnI w3 w.heap.size (.slice za k zc) k (rids l k) := by rw [hw3]; exact ho.kept (below_drewN (Below.refl wr.heap.size wr) q) (Nat.le_refl _)
      clear cv hw3 ho
      go_wp2
      go_ret3
      exact ⟨rfl, hB3⟩

set_option maxRecDepth 100000 in
set_option maxHeartbeats 1000000 in
theorem refRead_ok (b o cap n m : Nat) (l : List UInt8) (w : World) (hl : l.length = n) (hn : 14 ≤ n) (hm : n ≤ 2000000) (hcap : n ≤ cap) (hcm : cap ≤ 9223372036854775807) (hb : Bs w (some ⟨b, o, none⟩) l)
    (hmm : rcnt l = m) (h1 : n = 14 + 4 * m) (h2 : num (l.take 4) = crc (l.drop 4)) (hv : validZ (rids l m) = true) :
    Calls Tryz.prog 40 #[.slice (some ⟨b, o, none⟩) n cap] w fun e w' => ∃ v, e = .returned (.tuple #[.int .u64 (rgen l : Nat), v, .bool true]) ∧ OwnI w' w.heap.size v m (rids l m) ∧ Below w.heap.size w w' := by
  have b1 : decide ((n : Int) < 14) = false := by simp; omega
  have hc := rcnt_lt l
  have cn : ∀ c, Calls Tryz.prog 76 #[.slice (some ⟨b, o + 12, none⟩) 2 c] w fun e w' => e = .returned (.int .u64 (rcnt l : Nat)) ∧ w' = w :=
    fun c => refNumber_at b (o + 12) c 2 _ w (by omega) (by simp; omega) (hb.part 12 2 (by omega))
  have cs : ∀ c, Calls Tryz.prog 77 #[.slice (some ⟨b, o + 4, none⟩) (n - 4) c] w fun e w' => e = .returned (.int .u32 (crc (l.drop 4) : Nat)) ∧ w' = w :=
    fun c => refSum_at' b (o + 4) c _ _ w (by omega) (by simp; omega) (by
      have := hb.part 4 (n - 4) (by omega)
      rwa [List.take_of_length_le (by simp; omega)] at this)
  have cn4 : ∀ c, Calls Tryz.prog 76 #[.slice (some ⟨b, o, none⟩) 4 c] w fun e w' => e = .returned (.int .u64 (num (l.take 4) : Nat)) ∧ w' = w :=
    fun c => refNumber_at b o c 4 (l.take 4) _ (by omega) (by simp; omega) (by simpa using hb.part 0 4 (by omega))
  rw [hmm] at cn hc
  rw [h2] at cn4
  have hcr := crc_lt (l.drop 4)
  have g1 : ((n : Int) != 14 + 4 * (m : Int)) = false := by simp only [bne_eq_false_iff_eq]; omega
  have g2 : (((crc (l.drop 4) : Nat) : Int) != ((crc (l.drop 4) : Nat) : Int)) = false := by simp
  have n12 : ¬ cap = 12 := by omega
  have n4 : ¬ cap = 4 := by omega
  have hn4 : 14 + 4 * m ≤ n := by omega
  clear h1 h2 hmm
  generalize crc (l.drop 4) = cr at *
  go_enter Tryz.func40, Tryz.ntmps40
  go_wp2_with fail
  refine (cn _).mono ?_
  rintro e w' ⟨rfl, hw⟩
  rw [hw]
  clear hw w'
  go_wp2_with fail
  refine (cs _).mono ?_
  rintro e w' ⟨rfl, hw⟩
  rw [hw]
  clear hw w'
  go_wp2_with fail
  refine (cn4 _).mono ?_
  rintro e w' ⟨rfl, hw⟩
  rw [hw]
  clear hw w' cn cs cn4
  go_wp2
  go_loopw [7, 8] (fun v i wr => ∃ k : Nat, k ≤ m ∧ i = .int .i64 k ∧ OwnI wr w.heap.size v k (rids l k) ∧ Below w.heap.size w wr) (fun _ i _ => m - (intOf i).toNat)
  case atStart => exact ⟨0, Nat.zero_le _, rfl, OwnI.nil _ _, Below.refl _ _⟩
  case round =>
    obtain ⟨k, hk, rfl, ho, hB⟩ := hrel
    by_cases hlt : k < m
    · have cn : ∀ len c, len = 4 → Calls Tryz.prog 76 #[.slice (some ⟨b, o + (14 + 4 * k), none⟩) len c] wr fun e w' => e = .returned (.int .u64 (rnum l k : Nat)) ∧ w' = wr :=
        fun len c hlen => refNumber_at b (o + (14 + 4 * k)) c len _ wr (by omega) (by simp; omega) ((hb.kept hB (Nat.le_refl _)).part (14 + 4 * k) 4 (by omega))
      have nk : ¬ cap = 14 + 4 * k := by omega
      have hrn := rnum_lt l k
      go_wp2_with fail
      refine (cn _ _ ?_).mono ?_
      · omega
      rintro e w' ⟨rfl, hw⟩
      rw [hw]
      clear hw cn
      go_wp2_with (at_builtin; refine app_ints _ rfl _ _ rfl w.heap.size k _ _ rfl (ho.alloc _) ⟨wr.heap.size, 0, none⟩ 1 1 [(rnum l k : Int)] rfl rfl ?c1 ?c2 ?c3 ?_)
      case c1 =>
        intro i hi
        obtain rfl : i = 0 := by omega
        simp only [Addr.add]
        simp [zat]
      case c2 => omega
      case c3 => have := hB.size; simp; omega
      intro v' w2 ho' hb'
      have hB2 : Below w.heap.size w w2 := (hB.alloc hB.size _).trans hb'
      rw [← rids_succ] at ho'
      clear hb' ho
      go_wp2
      go_roundw
      case rel => exact ⟨k + 1, by omega, by go_num, ho', hB2⟩
      case measure => simp [intOf]; omega
    · obtain rfl : k = m := by omega
      obtain ⟨za, zc, hz, hzc, hzm, hzi, hznil⟩ := ho.shape
      rw [hz] at ho ⊢
      clear hz
      have cv := checkIDs_any za zc k (rids l k) wr (rids_length l k) (by omega) hzi
      rw [hv] at cv
      clear hv hzi
      go_wp2_with fail
      refine cv.mono ?_
      rintro e w3 ⟨rfl, q, hw3⟩
      have hB3 : Below w.heap.size w w3 := by rw [hw3]; exact below_drewN hB q
      have ho3 : OwnI w3 w.heap.size (.slice za k zc) k (rids l k) := by rw [hw3]; exact ho.kept (below_drewN (Below.refl wr.heap.size wr) q) (Nat.le_refl _)
      clear cv hw3 ho
      have cn : ∀ c, Calls Tryz.prog 76 #[.slice (some ⟨b, o + 4, none⟩) 8 c] w3 fun e w' => e = .returned (.int .u64 (rgen l : Nat)) ∧ w' = w3 :=
        fun c => refNumber_at b (o + 4) c 8 _ w3 (by omega) (by simp; omega) ((hb.kept hB3 (Nat.le_refl _)).part 4 8 (by omega))
      go_wp2_with fail
      refine (cn _).mono ?_
      rintro e w' ⟨rfl, hw⟩
      rw [hw]
      clear hw cn
      go_wp2
      go_ret3
      exact ⟨_, rfl, ho3, hB3⟩

theorem refReadM_no (a : Option Addr) (cap n : Nat) (l : List UInt8) (w : World) (hl : l.length = n) (hm : n ≤ 2000000) (hcap : n ≤ cap) (hcm : cap ≤ 9223372036854775807) (hb : Bs w a l) (h : rdOk l = false) :
    Calls Tryz.prog 40 #[.slice a n cap] w fun e w' => e = .returned noRd ∧ Below w.heap.size w w' := by
  by_cases h14 : n < 14
  · exact refRead_short a cap n w h14
  · obtain ⟨b, o, rfl, _⟩ := hb 0 (by omega)
    by_cases hs : n = 14 + 4 * rcnt l ∧ num (l.take 4) = crc (l.drop 4)
    · refine refRead_inv b o cap n (rcnt l) l w hl (by omega) hm hcap hcm hb rfl hs.1 hs.2 ?_
      cases hv : validZ (rids l (rcnt l)) with
      | false => rfl
      | true =>
        have : rdOk l = true := by
          unfold rdOk
          rw [Bool.and_eq_true_iff, decide_eq_true_iff]
          exact ⟨⟨by omega, by omega, hs.2⟩, hv⟩
        rw [this] at h; cases h
    · exact refRead_sum b o cap n l w hl (by omega) hm hcap hcm hb hs
theorem refReadM_yes (a : Option Addr) (cap n : Nat) (l : List UInt8) (w : World) (hl : l.length = n) (hcap : n ≤ cap) (hcm : cap ≤ 9223372036854775807) (hb : Bs w a l) (h : rdOk l = true) :
    Calls Tryz.prog 40 #[.slice a n cap] w fun e w' => ∃ v, e = .returned (.tuple #[.int .u64 (rgen l : Nat), v, .bool true]) ∧ OwnI w' w.heap.size v (rcnt l) (rids l (rcnt l)) ∧ Below w.heap.size w w' := by
  obtain ⟨h14, h254, hc, hs, hv⟩ := rd_small l h
  obtain ⟨b, o, rfl, _⟩ := hb 0 (by omega)
  exact refRead_ok b o cap n (rcnt l) l w hl (by omega) (by omega) hcap hcm hb rfl (by omega) hs hv
end Go.Proofs.YtakjpgjcfecfiaaGreatDoor
