import Derived.Test.YtakjpgjcfecfiaaDoorSeal
import Derived.Test.YtakjpgjcfecfiaaDoorMid
/- checkRecord, and the plain answer of Encode. -/
namespace Go.Proofs.YtakjpgjcfecfiaaDoor
open Go.RowKit

/-- a record as a value -/
def recV (seq : Nat) (k v : ByteArray) (d : Bool) : Value := .agg #[.int .u64 (seq : Int), .string k, .string v, .bool d]
set_option maxHeartbeats 400000 in
theorem check_key (seq : Nat) (k v : ByteArray) (d : Bool) (w : World) (hk : k.size ≤ 100000) (h : keyOk k = false) :
    Calls Tryd.prog 28 #[.agg #[.int .u64 (seq : Int), .string k, .string v, .bool d]] w fun e w' => e = .returned (.iface 30 (.int .i64 1)) ∧ w' = w.alloc (.cells #[.int .u64 (seq : Int), .string k, .string v, .bool d] 24) := by
  have h' : ¬ (1 ≤ k.size ∧ k.size ≤ 16) := by simpa [keyOk] using h
  clear h
  by_cases h1 : k.size < 1
  · have hb : decide ((k.size : Int) < 1) = true := by simp; omega
    go_enter Tryd.func28, Tryd.ntmps28
    go_wp2
    go_ret
    exact ⟨rfl, rfl⟩
  · have hb : decide ((k.size : Int) < 1) = false := by simp; omega
    have hb2 : decide ((16 : Int) < k.size) = true := by simp; omega
    go_enter Tryd.func28, Tryd.ntmps28
    go_wp2
    go_ret
    exact ⟨rfl, rfl⟩
set_option maxHeartbeats 400000 in
theorem check_val (seq : Nat) (k v : ByteArray) (d : Bool) (w : World) (hk : k.size ≤ 100000) (hv : v.size ≤ 100000) (hkey : keyOk k = true) (h : valOk v d = false) :
    Calls Tryd.prog 28 #[.agg #[.int .u64 (seq : Int), .string k, .string v, .bool d]] w fun e w' => e = .returned (.iface 30 (.int .i64 2)) ∧ w' = w.alloc (.cells #[.int .u64 (seq : Int), .string k, .string v, .bool d] 24) := by
  have h' : ¬ (v.size ≤ 64 ∧ (d = true → v.size = 0)) := by simpa [valOk] using h
  have hk' : 1 ≤ k.size ∧ k.size ≤ 16 := by simpa [keyOk] using hkey
  clear h hkey
  have hb1 : decide ((k.size : Int) < 1) = false := by simp; omega
  have hb2 : decide ((16 : Int) < k.size) = false := by simp; omega
  by_cases h1 : 64 < v.size
  · have hb3 : decide ((64 : Int) < v.size) = true := by simp; omega
    go_enter Tryd.func28, Tryd.ntmps28
    go_wp2
    go_ret
    exact ⟨rfl, rfl⟩
  · have hb3 : decide ((64 : Int) < v.size) = false := by simp; omega
    cases d with
    | false => exact absurd ⟨by omega, by intro h; cases h⟩ h'
    | true =>
    have hv0 : ¬ v.size = 0 := fun e => h' ⟨by omega, fun _ => e⟩
    have hb4 := str_ne_empty hv0
    clear h'
    go_enter Tryd.func28, Tryd.ntmps28
    go_wp2
    go_ret
    exact ⟨rfl, rfl⟩
set_option maxHeartbeats 400000 in
theorem check_ok (seq : Nat) (k v : ByteArray) (d : Bool) (w : World) (hkey : keyOk k = true) (h : valOk v d = true) :
    Calls Tryd.prog 28 #[.agg #[.int .u64 (seq : Int), .string k, .string v, .bool d]] w fun e w' => e = .returned .nilIface ∧ w' = w.alloc (.cells #[.int .u64 (seq : Int), .string k, .string v, .bool d] 24) := by
  have h' : v.size ≤ 64 ∧ (d = true → v.size = 0) := of_decide_eq_true h
  have hk' : 1 ≤ k.size ∧ k.size ≤ 16 := by simpa [keyOk] using hkey
  clear h hkey
  have hb1 : decide ((k.size : Int) < 1) = false := by simp; omega
  have hb2 : decide ((16 : Int) < k.size) = false := by simp; omega
  have hb3 : decide ((64 : Int) < v.size) = false := by simp; omega
  cases d with
  | false =>
    clear h'
    go_enter Tryd.func28, Tryd.ntmps28
    go_wp2
    go_ret
    exact ⟨rfl, rfl⟩
  | true =>
    have hb4 := str_empty (h'.2 rfl)
    clear h'
    go_enter Tryd.func28, Tryd.ntmps28
    go_wp2
    go_ret
    exact ⟨rfl, rfl⟩
end Go.Proofs.YtakjpgjcfecfiaaDoor
