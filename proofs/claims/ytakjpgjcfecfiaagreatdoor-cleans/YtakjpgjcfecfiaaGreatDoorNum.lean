import Derived.Test.YtakjpgjcfecfiaaGreatDoorSum
import Derived.Deep.QuietTactic
import Derived.BigQuiet
/- Numbers in bytes: reading. -/
namespace Go.Proofs.YtakjpgjcfecfiaaGreatDoor
open Go.RowKit

/-- the number that bytes tell -/
def num (l : List UInt8) : Nat := l.foldl (fun n b => n * 256 + b.toNat) 0
def numTo (l : List UInt8) (k : Nat) : Nat := num (l.take k)
theorem num_snoc (l : List UInt8) (b : UInt8) : num (l ++ [b]) = num l * 256 + b.toNat := by simp [num, List.foldl_append]
theorem numTo_succ (l : List UInt8) (k : Nat) (h : k < l.length) : numTo l (k + 1) = numTo l k * 256 + (l.getD k 0).toNat := by
  unfold numTo
  rw [List.take_succ_eq_append_getElem h, num_snoc]
  simp [h]
theorem num_acc (l : List UInt8) : ∀ n, l.foldl (fun n b => n * 256 + b.toNat) n = n * 256 ^ l.length + num l := by
  induction l with
  | nil => intro n; simp [num]
  | cons b l ih =>
    intro n
    have h0 : num (b :: l) = (0 * 256 + b.toNat) * 256 ^ l.length + num l := by rw [← ih]; rfl
    rw [List.foldl_cons, ih, h0, List.length_cons, Nat.pow_succ, Nat.add_mul, Nat.zero_mul, Nat.zero_add, ← Nat.add_assoc, Nat.mul_assoc, Nat.mul_comm 256]
theorem num_cons (b : UInt8) (l : List UInt8) : num (b :: l) = b.toNat * 256 ^ l.length + num l := by
  have := num_acc l (0 * 256 + b.toNat)
  rw [Nat.zero_mul, Nat.zero_add] at this
  rw [num, List.foldl_cons, Nat.zero_mul, Nat.zero_add, this]
theorem num_lt (l : List UInt8) : num l < 256 ^ l.length := by
  induction l with
  | nil => simp [num]
  | cons b l ih =>
    rw [num_cons, List.length_cons, Nat.pow_succ]
    have h1 : b.toNat * 256 ^ l.length ≤ 255 * 256 ^ l.length := Nat.mul_le_mul_right _ (by have := b.toNat_lt; omega)
    omega
theorem numTo_lt (l : List UInt8) (k : Nat) : numTo l k < 256 ^ k := by
  have h := num_lt (l.take k)
  exact Nat.lt_of_lt_of_le h (Nat.pow_le_pow_right (by omega) (by simp; omega))
theorem numTo_lt7 (l : List UInt8) (k : Nat) (h : k < 8) : numTo l k < 72057594037927936 := by
  have := numTo_lt l k
  exact Nat.lt_of_lt_of_le this (by have := Nat.pow_le_pow_right (n := 256) (by omega) (show k ≤ 7 by omega); simpa using this)
theorem num_lt64 (l : List UInt8) (h : l.length ≤ 8) : num l < 18446744073709551616 := by
  have := num_lt l
  exact Nat.lt_of_lt_of_le this (by have := Nat.pow_le_pow_right (n := 256) (by omega) h; simpa using this)

theorem or_step (l : List UInt8) (k : Nat) (h : k < l.length) (hk : numTo l k < 72057594037927936) :
    bits .or .u64 (((numTo l k : Nat) : Int) * 256) (at8 l k) = ((numTo l (k + 1) : Nat) : Int) := by
  obtain ⟨n, hn, e, e'⟩ := at8_nat l k
  have := u64_or_nat (numTo l k * 256) n (by omega) (by omega)
  rw [nat_join 8 _ _ (by simp) (by simpa using hn)] at this
  rw [e, numTo_succ l k h, e']
  simpa using this
theorem add_step (l : List UInt8) (k : Nat) (h : k < l.length) :
    ((numTo l k : Nat) : Int) * 256 + at8 l k = ((numTo l (k + 1) : Nat) : Int) := by
  rw [numTo_succ l k h]; unfold at8; omega

set_option maxHeartbeats 400000 in
theorem number_any (a : Option Addr) (cap : Nat) (l : List UInt8) (w : World) (hl : l.length ≤ 8) (h : Bs w a l) :
    Calls Tryz.prog 190 #[.slice a l.length cap] w fun e w' => e = .returned (.int .u64 (num l : Nat)) ∧ w' = w := by
  go_enter Tryz.func190, Tryz.ntmps190
  go_wp2
  go_loop [3, 8] (fun c i => ∃ k : Nat, k ≤ l.length ∧ i = .int .i64 k ∧ c = .int .u64 (numTo l k : Nat)) (fun _ i => l.length - (intOf i).toNat)
  case atStart => exact ⟨0, Nat.zero_le _, rfl, rfl⟩
  case round =>
    obtain ⟨k, hk, rfl, rfl⟩ := hrel
    by_cases hlt : k < l.length
    · obtain ⟨b, o, rfl, hc⟩ := h k hlt
      have hb := at8_bd l k
      have hn := numTo_lt7 l k (by omega)
      go_wp2
      go_round
      case rel => exact ⟨k + 1, by omega, by go_num, int_eq (or_step l k hlt hn)⟩
      case measure => simp [intOf]; omega
    · go_wp2
      go_ret
      exact ⟨ret_int (by rw [show k = l.length by omega, numTo, List.take_length]), rfl⟩

set_option maxHeartbeats 400000 in
theorem refNumber_any (a : Option Addr) (cap : Nat) (l : List UInt8) (w : World) (hl : l.length ≤ 8) (h : Bs w a l) :
    Calls Tryz.prog 76 #[.slice a l.length cap] w fun e w' => e = .returned (.int .u64 (num l : Nat)) ∧ w' = w := by
  go_enter Tryz.func76, Tryz.ntmps76
  go_wp2
  go_loop [3, 4] (fun c i => ∃ k : Nat, k ≤ l.length ∧ i = .int .i64 k ∧ c = .int .u64 (numTo l k : Nat)) (fun _ i => l.length - (intOf i).toNat)
  case atStart => exact ⟨0, Nat.zero_le _, rfl, rfl⟩
  case round =>
    obtain ⟨k, hk, rfl, rfl⟩ := hrel
    by_cases hlt : k < l.length
    · obtain ⟨b, o, rfl, hc⟩ := h k hlt
      have hb := at8_bd l k
      have hn := numTo_lt7 l k (by omega)
      go_wp2
      go_round
      case rel => exact ⟨k + 1, by omega, by go_num, int_eq (add_step l k hlt)⟩
      case measure => simp [intOf]; omega
    · go_wp2
      go_ret
      exact ⟨ret_int (by rw [show k = l.length by omega, numTo, List.take_length]), rfl⟩

theorem at8_inj {l m : List UInt8} {k : Nat} (h : at8 l k = at8 m k) : l.getD k 0 = m.getD k 0 := by
  unfold at8 at h; exact UInt8.toNat_inj.1 (by omega)
theorem list_ext_getD {l m : List UInt8} (hl : l.length = m.length) (h : ∀ j, j < l.length → l.getD j 0 = m.getD j 0) : l = m := by
  apply List.ext_getElem hl
  intro i h1 h2
  have := h i h1
  simpa [h1, h2] using this

set_option maxHeartbeats 400000 in
theorem same_any (a c : Option Addr) (cap cap' : Nat) (l m : List UInt8) (w : World) (hl : l.length ≤ 2000000) (_hm : m.length ≤ 2000000) (h : Bs w a l) (h' : Bs w c m) :
    Calls Tryz.prog 16 #[.slice a l.length cap, .slice c m.length cap'] w fun e w' => e = .returned (.bool (decide (l = m))) ∧ ∃ n, w' = w.drewN n := by
  by_cases hlen : l.length = m.length
  · have hb : ((l.length : Int) != (m.length : Int)) = false := by simp [hlen]
    have HL : Hid (l.length = m.length) := hlen
    clear hlen
    go_enter Tryz.func16, Tryz.ntmps16
    go_wp2
    go_loopw [4, 5] (fun _ i wr => ∃ k : Nat, k ≤ l.length ∧ i = .int .i64 k ∧ (∀ j, j < k → l.getD j 0 = m.getD j 0) ∧ ∃ n, wr = w.drewN n) (fun _ i _ => l.length - (intOf i).toNat)
    case atStart => exact ⟨0, Nat.zero_le _, rfl, fun j hj => by omega, 0, rfl⟩
    case round =>
      obtain ⟨k, hk, rfl, heq, n, rfl⟩ := hrel
      by_cases hlt : k < l.length
      · obtain ⟨b, o, rfl, hc⟩ := h k hlt
        obtain ⟨b', o', rfl, hc'⟩ := h' k (by have := HL.out; omega)
        have hkl : (k : Int) < (l.length : Int) := by omega
        have hkm : (k : Int) < (m.length : Int) := by have := HL.out; omega
        by_cases he : at8 l k = at8 m k
        · have hne : (at8 l k != at8 m k) = false := by simp [he]
          have HE : Hid (at8 l k = at8 m k) := he
          clear he
          go_wp2
          go_quiet (fail)
          go_wp2
          go_roundw
          case rel =>
            refine ⟨k + 1, by omega, by go_num, fun j hj => ?_, _, rfl⟩
            rcases Nat.lt_or_ge j k with h1 | h1
            · exact heq j h1
            · rw [show j = k by omega]; exact at8_inj HE.out
          case measure => simp [intOf]; omega
        · have hne : (at8 l k != at8 m k) = true := by simp [he]
          go_wp2
          go_quiet (fail)
          go_wp2
          go_ret
          refine ⟨?_, _, World.drewN_drewN _ _ _⟩
          rw [decide_eq_false (fun e => he (by rw [e]))]
          rfl
      · go_wp2
        go_ret
        refine ⟨?_, n, rfl⟩
        rw [decide_eq_true (list_ext_getD HL.out (fun j hj => heq j (by omega)))]
        rfl
  · have hb : ((l.length : Int) != (m.length : Int)) = true := by simp; omega
    go_enter Tryz.func16, Tryz.ntmps16
    go_wp2
    go_ret
    exact ⟨by rw [decide_eq_false (fun e => hlen (by rw [e]))]; rfl, 0, rfl⟩
end Go.Proofs.YtakjpgjcfecfiaaGreatDoor
