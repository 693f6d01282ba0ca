import Derived.Test.YtakjpgjcfecfiaaGreatDoorProg
import Derived.Test.YtakjpgjcfecfiaaGreatDoorPure
import Derived.WalkKit
import Derived.WalkSpells
import Derived.WalkLawsBesides
/- The two sums. -/
namespace Go.Proofs.YtakjpgjcfecfiaaGreatDoor
open Go.RowKit

/-- the slice value at a holds the bytes l -/
def Bs (w : World) (a : Option Addr) (l : List UInt8) : Prop :=
  ∀ i, i < l.length → ∃ b o, a = some ⟨b, o, none⟩ ∧ w.cell? ⟨b, o + i, none⟩ = some (.int .u8 (at8 l i))

theorem int_eq {k : IntKind} {a b : Int} (h : a = b) : Value.int k a = .int k b := by rw [h]
theorem ret_int {k : IntKind} {a b : Int} (h : a = b) : Ending.returned (.int k a) = .returned (.int k b) := by rw [h]

set_option maxHeartbeats 400000 in
theorem sum_any (a : Option Addr) (cap : Nat) (l : List UInt8) (w : World) (hl : l.length ≤ 2000000) (h : Bs w a l) :
    Calls Tryz.prog 218 #[.slice a l.length cap] w fun e w' => e = .returned (.int .u32 (crc l : Nat)) ∧ w' = w := by
  go_enter Tryz.func218, Tryz.ntmps218
  go_wp2
  go_loop [3, 8] (fun c i => ∃ k : Nat, k ≤ l.length ∧ i = .int .i64 k ∧ c = .int .u32 (crcTo l k : Nat)) (fun _ i => l.length - (intOf i).toNat)
  case atStart => exact ⟨0, Nat.zero_le _, rfl, rfl⟩
  case round =>
    obtain ⟨k, hk, rfl, rfl⟩ := hrel
    have hcl := crcTo_lt l k
    by_cases hlt : k < l.length
    · obtain ⟨b, o, rfl, hc⟩ := h k hlt
      have hb := at8_bd l k
      go_wp2
      go_loop [3, 16] (fun c i => ∃ j : Nat, j ≤ 8 ∧ i = .int .i64 j ∧ c = .int .u32 (crcIn l k j : Nat)) (fun _ i => 8 - (intOf i).toNat)
      case atStart => exact ⟨0, Nat.zero_le _, rfl, int_eq (crcIn_zero l k)⟩
      case round =>
        obtain ⟨j, hj, rfl, rfl⟩ := hrel
        have hil := crcIn_lt l k j
        by_cases hlt2 : j < 8
        · go_wp2
          go_round
          case rel => exact ⟨j + 1, by omega, by go_num, int_eq (crcIn_succ l k j)⟩
          case measure => simp [intOf]; omega
        · go_wp2
          go_round
          case rel => exact ⟨k + 1, by omega, by go_num, int_eq (by rw [← crcIn_eight l k hlt, show j = 8 by omega])⟩
          case measure => simp [intOf]; omega
    · go_wp2
      go_ret
      exact ⟨ret_int (by rw [show k = l.length by omega]; exact crc_not l), rfl⟩

set_option maxHeartbeats 400000 in
theorem refSum_any (a : Option Addr) (cap : Nat) (l : List UInt8) (w : World) (hl : l.length ≤ 2000000) (h : Bs w a l) :
    Calls Tryz.prog 77 #[.slice a l.length cap] w fun e w' => e = .returned (.int .u32 (crc l : Nat)) ∧ w' = w := by
  go_enter Tryz.func77, Tryz.ntmps77
  go_wp2
  go_loop [3, 4] (fun c i => ∃ k : Nat, k ≤ l.length ∧ i = .int .i64 k ∧ c = .int .u32 (crcTo l k : Nat)) (fun _ i => l.length - (intOf i).toNat)
  case atStart => exact ⟨0, Nat.zero_le _, rfl, rfl⟩
  case round =>
    obtain ⟨k, hk, rfl, rfl⟩ := hrel
    have hcl := crcTo_lt l k
    by_cases hlt : k < l.length
    · obtain ⟨b, o, rfl, hc⟩ := h k hlt
      have hb := at8_bd l k
      go_wp2
      go_loop [3, 5] (fun c i => ∃ j : Nat, j ≤ 8 ∧ i = .int .i64 j ∧ c = .int .u32 (crcIn l k j : Nat)) (fun _ i => 8 - (intOf i).toNat)
      case atStart => exact ⟨0, Nat.zero_le _, rfl, int_eq (crcIn_zero l k)⟩
      case round =>
        obtain ⟨j, hj, rfl, rfl⟩ := hrel
        have hil := crcIn_lt l k j
        by_cases hlt2 : j < 8
        · by_cases hodd : ((crcIn l k j : Nat) : Int) % 2 = 1
          · have HO : Hid (((crcIn l k j : Nat) : Int) % 2 = 1) := hodd
            have hb2 : (((crcIn l k j : Nat) : Int) % 2 == 1) = true := by simpa using hodd
            clear hodd
            go_wp2
            go_round
            case rel => exact ⟨j + 1, by omega, by go_num, int_eq (crcIn_odd l k j HO.out)⟩
            case measure => simp [intOf]; omega
          · have HO : Hid (¬ ((crcIn l k j : Nat) : Int) % 2 = 1) := hodd
            have hb2 : (((crcIn l k j : Nat) : Int) % 2 == 1) = false := by simpa using hodd
            clear hodd
            go_wp2
            go_round
            case rel => exact ⟨j + 1, by omega, by go_num, int_eq (crcIn_even l k j HO.out)⟩
            case measure => simp [intOf]; omega
        · go_wp2
          go_round
          case rel => exact ⟨k + 1, by omega, by go_num, int_eq (by rw [← crcIn_eight l k hlt, show j = 8 by omega])⟩
          case measure => simp [intOf]; omega
    · go_wp2
      go_ret
      exact ⟨ret_int (by rw [show k = l.length by omega]; exact crc_not2 l), rfl⟩
end Go.Proofs.YtakjpgjcfecfiaaGreatDoor
