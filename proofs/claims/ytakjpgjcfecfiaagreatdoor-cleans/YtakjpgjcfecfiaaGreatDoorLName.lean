import Derived.Test.YtakjpgjcfecfiaaGreatDoorDiskX
/- keydirlaw.id, keydirref.Name, In. -/
namespace Go.Proofs.YtakjpgjcfecfiaaGreatDoor
open Go.RowKit Go.Maps Go.Joins

set_option maxHeartbeats 400000 in
theorem id_any (n : Int) (w : World) : Calls Tryz.prog 47 #[.int .i64 n] w fun e w' => ∃ k : Nat, e = .returned (.int .i64 (k : Int)) ∧ 1 ≤ k ∧ k ≤ 999999 ∧ w' = w := by
  have hy : ∀ z : Int, 0 ≤ (IntKind.u64.wrap z).tmod 999999 ∧ (IntKind.u64.wrap z).tmod 999999 ≤ 999998 := fun z => by
    have h0 : 0 ≤ IntKind.u64.wrap z := by rw [IntKind.wrap_u64]; omega
    rw [Int.tmod_eq_emod_of_nonneg h0]; omega
  go_enter Tryz.func47, Tryz.ntmps47
  go_wp2
  go_ret
  obtain ⟨h1, h2⟩ := hy (wrap64 (n - 1))
  generalize (IntKind.u64.wrap (wrap64 (n - 1))).tmod 999999 = y at h1 h2
  have e1 : wrap64 y = y := by unfold wrap64; omega
  have e2 : wrap64 (1 + y) = 1 + y := by unfold wrap64; omega
  refine ⟨(1 + y).toNat, ?_, by omega, by omega, rfl⟩
  show Ending.returned (.int .i64 (wrap64 (1 + wrap64 y))) = _
  rw [e1, e2]
  congr 2; omega

/-- string([]byte{x}) -/
theorem conv_one (wr : World) (x : Int) : (Go.convert 25 9 (.slice (some ⟨wr.heap.size, 0, none⟩) 1 1)).run Tryz.prog (wr.alloc (.cells #[.int .u8 x] 5)) = .ok (.string ⟨#[UInt8.ofNat x.toNat]⟩) (wr.alloc (.cells #[.int .u8 x] 5)) := by
  have hc : ∀ i, i < 1 → (wr.alloc (.cells #[.int .u8 x] 5)).cell? ⟨wr.heap.size, 0 + i, none⟩ = some (.int .u8 ([x].getD i 0)) := by
    intro i hi
    obtain rfl : i = 0 := by omega
    simp
  have := run_convert_bytes_arg (P := Tryz.prog) (wr.alloc (.cells #[.int .u8 x] 5)) 25 5 Tryz.underlying25 Tryz.underlying5 wr.heap.size 0 1 1 [x] rfl hc 9 Tryz.underlying9
  simpa [strOfNums] using this

/-- the last k decimal digits -/
def digs : Nat → Nat → List UInt8
  | 0, _ => []
  | k + 1, n => UInt8.ofNat (48 + n / 10 ^ k % 10) :: digs k n
theorem digs_length : ∀ k n, (digs k n).length = k
  | 0, _ => rfl
  | k + 1, n => by simp [digs, digs_length k n]
def segName (kind : Name) (n : Nat) : Name := kind ++ digs 6 n

set_option maxRecDepth 100000 in
set_option maxHeartbeats 1000000 in
theorem name_of (kind : Name) (n : Nat) (w : World) (hk : kind.length ≤ 100) (hn : n ≤ 999999) :
    Calls Tryz.prog 23 #[.string ⟨kind.toArray⟩, .int .i64 (n : Int)] w fun e w' => e = .returned (.string ⟨(segName kind n).toArray⟩) ∧ Below w.heap.size w w' := by
  go_enter Tryz.func23, Tryz.ntmps23
  go_wp2
  go_loopw [1, 5, 6] (fun m s i wr => ∃ k : Nat, k ≤ 6 ∧ i = .int .i64 k ∧ m = .int .i64 ((n / 10 ^ k : Nat) : Int) ∧ s = .string ⟨(digs k n).toArray⟩ ∧ Below w.heap.size w wr) (fun _ _ i _ => 6 - (intOf i).toNat)
  case atStart => exact ⟨0, by omega, rfl, by simp, rfl, Below.refl _ _⟩
  case round =>
    obtain ⟨k, hk6, rfl, rfl, rfl, hB⟩ := hrel
    by_cases hlt : k < 6
    · have hconv := conv_one wr
      have hq := Nat.div_le_self n (10 ^ k)
      have hstep : n / 10 ^ (k + 1) = n / 10 ^ k / 10 := by rw [Nat.pow_succ, Nat.div_div_eq_div_mul]
      have hdig : digs (k + 1) n = UInt8.ofNat (48 + n / 10 ^ k % 10) :: digs k n := rfl
      have hdl := digs_length k n
      generalize n / 10 ^ k = q at hq hstep hdig ⊢
      have hr : q % 10 < 10 := Nat.mod_lt _ (by omega)
      have ht : ((q : Int)).tmod 10 = ((q % 10 : Nat) : Int) := by rw [Int.tmod_eq_emod_of_nonneg (by omega)]; omega
      have hd : ((q : Int)).tdiv 10 = ((q / 10 : Nat) : Int) := by rw [Int.tdiv_eq_ediv_of_nonneg (by omega)]; omega
      generalize q % 10 = r at hr ht hdig
      go_wp2
      go_roundw
      case rel =>
        refine ⟨k + 1, by omega, by go_num, int_eq (by rw [hstep]; omega), ?_, hB.alloc hB.size _⟩
        rw [hdig]
        refine congrArg Value.string (ByteArray.ext ?_)
        rw [ByteArray.data_append]
        simp [UInt8.ofNat_add]
      case measure => simp [intOf]; omega
    · obtain rfl : k = 6 := by omega
      have hdl := digs_length 6 n
      go_wp2
      go_ret
      refine ⟨congrArg (fun b => Ending.returned (Value.string b)) (ByteArray.ext ?_), hB⟩
      rw [ByteArray.data_append]
      simp [segName]

/-- numbers in memory -/
def Zs (w : World) (a : Option Addr) (z : List Int) : Prop := ∀ i, i < z.length → ∃ b o, a = some ⟨b, o, none⟩ ∧ w.cell? ⟨b, o + i, none⟩ = some (.int .i64 (z.getD i 0))

set_option maxHeartbeats 400000 in
theorem in_any (a : Option Addr) (n cap : Nat) (z : List Int) (x : Int) (w : World) (hn : z.length = n) (hm : n ≤ 1000000) (h : Zs w a z) :
    Calls Tryz.prog 51 #[.slice a n cap, .int .i64 x] w fun e w' => e = .returned (.bool (decide (x ∈ z))) ∧ w' = w := by
  go_enter Tryz.func51, Tryz.ntmps51
  go_wp2
  go_loop [5] (fun i => ∃ k : Nat, k ≤ n ∧ i = .int .i64 k ∧ x ∉ z.take k) (fun i => n - (intOf i).toNat)
  case atStart => exact ⟨0, Nat.zero_le _, rfl, by simp⟩
  case round =>
    obtain ⟨k, hk, rfl, hno⟩ := hrel
    have HN : Hid (x ∉ z.take k) := hno
    clear hno
    by_cases hlt : k < n
    · obtain ⟨b, o, rfl, hc⟩ := h k (by omega)
      have htk := take_snoc z k 0 (by omega)
      by_cases he : z.getD k 0 = x
      · have hin : decide (x ∈ z) = true := by
          simp only [decide_eq_true_eq]
          have : x ∈ z.take (k + 1) := by rw [htk, he]; simp
          exact List.mem_of_mem_take this
        rw [he] at hc
        clear he htk
        go_wp2
        go_ret
        exact ⟨by first | rfl | rw [hin], rfl⟩
      · have HE : Hid (x ∉ z.take (k + 1)) := (by rw [htk]; simp only [List.mem_append, List.mem_singleton]; exact fun h => h.elim HN.out (fun e => he e.symm) : x ∉ z.take (k + 1))
        generalize z.getD k 0 = y at hc he
        have hb : (y == x) = false := by simpa using he
        clear he htk
        go_wp2
        go_round
        case rel => exact ⟨k + 1, by omega, by go_num, HE.out⟩
        case measure => simp [intOf]; omega
    · obtain rfl : k = n := by omega
      have hin : decide (x ∈ z) = false := by
        have := HN.out
        rw [List.take_of_length_le (by omega)] at this
        simpa using this
      go_wp2
      go_ret
      exact ⟨by first | rfl | rw [hin], rfl⟩
end Go.Proofs.YtakjpgjcfecfiaaGreatDoor
