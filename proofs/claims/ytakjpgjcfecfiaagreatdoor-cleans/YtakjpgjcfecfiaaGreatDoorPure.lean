import Derived.Laws.BitsAllLaws
/- Plain arithmetic of bytes, sums and numbers: no program in it. -/
namespace Go.Proofs.YtakjpgjcfecfiaaGreatDoor
open Go

/-- the k-th byte, as the walk has it -/
def at8 (l : List UInt8) (k : Nat) : Int := ((l.getD k 0).toNat : Int)
theorem at8_bd (l : List UInt8) (k : Nat) : 0 ≤ at8 l k ∧ at8 l k ≤ 255 := by
  unfold at8; have := (l.getD k 0).toNat_lt; omega
theorem at8_nat (l : List UInt8) (k : Nat) : ∃ n : Nat, n < 256 ∧ at8 l k = (n : Int) ∧ (l.getD k 0).toNat = n :=
  ⟨_, (l.getD k 0).toNat_lt, rfl, rfl⟩

def bitStep (c : Nat) : Nat := if c % 2 = 1 then (c / 2) ^^^ 3988292384 else c / 2
def bitSteps : Nat → Nat → Nat
  | 0, c => c
  | n + 1, c => bitStep (bitSteps n c)
def byteStep (c x : Nat) : Nat := bitSteps 8 (c ^^^ x)
def crcFold (c : Nat) (l : List UInt8) : Nat := l.foldl (fun c b => byteStep c b.toNat) c
def crcTo (l : List UInt8) (k : Nat) : Nat := crcFold 4294967295 (l.take k)
def crc (l : List UInt8) : Nat := crcTo l l.length ^^^ 4294967295

theorem xor_lt32 {a b : Nat} (ha : a < 4294967296) (hb : b < 4294967296) : a ^^^ b < 4294967296 := by
  have := Nat.xor_lt_two_pow (n := 32) (x := a) (y := b) (by simpa using ha) (by simpa using hb)
  simpa using this
theorem bitStep_lt {c : Nat} (h : c < 4294967296) : bitStep c < 4294967296 := by
  unfold bitStep
  split
  · exact xor_lt32 (by omega) (by omega)
  · omega
theorem bitSteps_lt {c : Nat} (h : c < 4294967296) : ∀ n, bitSteps n c < 4294967296
  | 0 => h
  | n + 1 => bitStep_lt (bitSteps_lt h n)
theorem byteStep_lt {c x : Nat} (h : c < 4294967296) (hx : x < 256) : byteStep c x < 4294967296 :=
  bitSteps_lt (xor_lt32 h (by omega)) 8
theorem crcFold_lt (l : List UInt8) : ∀ c, c < 4294967296 → crcFold c l < 4294967296 := by
  induction l with
  | nil => intro c h; exact h
  | cons b l ih => intro c h; exact ih _ (byteStep_lt h b.toNat_lt)
theorem crcTo_lt (l : List UInt8) (k : Nat) : crcTo l k < 4294967296 := crcFold_lt _ _ (by omega)
theorem crc_lt (l : List UInt8) : crc l < 4294967296 := xor_lt32 (crcTo_lt _ _) (by omega)
theorem crcTo_zero (l : List UInt8) : crcTo l 0 = 4294967295 := rfl
theorem crcTo_succ (l : List UInt8) (k : Nat) (h : k < l.length) : crcTo l (k + 1) = byteStep (crcTo l k) (l.getD k 0).toNat := by
  unfold crcTo crcFold
  rw [List.take_succ_eq_append_getElem h, List.foldl_append]
  simp [h]

/-- Go's step with a shift, an and, a product -/
theorem step_mul (c : Nat) (h : c < 4294967296) :
    bits .xor .u32 ((c : Int) / 2) (IntKind.u32.wrap (3988292384 * bits .and .u32 (c : Int) 1)) = ((bitStep c : Nat) : Int) := by
  have h1 : bits .and .u32 (c : Int) 1 = ((c % 2 : Nat) : Int) := by
    have := u32_and_nat c 1 h (by omega); rw [nat_mask1] at this; simpa using this
  rw [h1, IntKind.wrap_u32']
  unfold bitStep
  rcases Nat.mod_two_eq_zero_or_one c with e | e
  · rw [e, if_neg (by omega)]
    have := u32_xor_nat (c / 2) 0 (by omega) (by omega)
    rw [Nat.xor_zero] at this
    simpa using this
  · rw [e, if_pos rfl]
    have := u32_xor_nat (c / 2) 3988292384 (by omega) (by omega)
    simpa using this
theorem xor_all (c : Nat) (h : c < 4294967296) : 4294967295 - c = c ^^^ 4294967295 := by
  apply Nat.eq_of_testBit_eq
  intro i
  rw [Nat.testBit_xor, show (4294967295 : Nat) = 2 ^ 32 - 1 by decide, Nat.testBit_two_pow_sub_one]
  rw [show 2 ^ 32 - 1 - c = 2 ^ 32 - (c + 1) by omega, Nat.testBit_two_pow_sub_succ (by simpa using h)]
  by_cases hi : i < 32
  · simp [hi]
  · have : c.testBit i = false := Nat.testBit_lt_two_pow (Nat.lt_of_lt_of_le (by simpa using h : c < 2 ^ 32) (Nat.pow_le_pow_right (by omega) (by omega)))
    simp [hi, this]

/-- within a byte: j bits of it are done -/
def crcIn (l : List UInt8) (k j : Nat) : Nat := bitSteps j (crcTo l k ^^^ (l.getD k 0).toNat)
theorem crcIn_lt (l : List UInt8) (k j : Nat) : crcIn l k j < 4294967296 :=
  bitSteps_lt (xor_lt32 (crcTo_lt l k) (by have := (l.getD k 0).toNat_lt; omega)) j
theorem crcIn_zero (l : List UInt8) (k : Nat) : bits .xor .u32 ((crcTo l k : Nat) : Int) (at8 l k) = ((crcIn l k 0 : Nat) : Int) := by
  obtain ⟨n, hn, e, e'⟩ := at8_nat l k
  unfold crcIn
  rw [e, e', u32_xor_nat _ _ (crcTo_lt l k) (by omega)]
  rfl
theorem crcIn_succ (l : List UInt8) (k j : Nat) :
    bits .xor .u32 (((crcIn l k j : Nat) : Int) / 2) (3988292384 * bits .and .u32 ((crcIn l k j : Nat) : Int) 1 % 4294967296) = ((crcIn l k (j + 1) : Nat) : Int) := by
  have := step_mul (crcIn l k j) (crcIn_lt l k j)
  rw [IntKind.wrap_u32'] at this
  exact this
theorem crcIn_eight (l : List UInt8) (k : Nat) (h : k < l.length) : crcIn l k 8 = crcTo l (k + 1) := by
  rw [crcTo_succ l k h]; rfl
theorem crc_not (l : List UInt8) : bits .xor .u32 IntKind.u32.max ((crcTo l l.length : Nat) : Int) = ((crc l : Nat) : Int) := by
  have := u32_xor_nat 4294967295 (crcTo l l.length) (by omega) (crcTo_lt _ _)
  rw [Nat.xor_comm] at this
  exact this
theorem crc_not2 (l : List UInt8) : bits .xor .u32 ((crcTo l l.length : Nat) : Int) 4294967295 = ((crc l : Nat) : Int) :=
  u32_xor_nat (crcTo l l.length) 4294967295 (crcTo_lt _ _) (by omega)
theorem crcIn_odd (l : List UInt8) (k j : Nat) (h : ((crcIn l k j : Nat) : Int) % 2 = 1) :
    bits .xor .u32 (((crcIn l k j : Nat) : Int) / 2) 3988292384 = ((crcIn l k (j + 1) : Nat) : Int) := by
  have e : crcIn l k (j + 1) = bitStep (crcIn l k j) := rfl
  rw [e]; unfold bitStep
  have hl := crcIn_lt l k j
  rw [if_pos (by omega)]
  have := u32_xor_nat (crcIn l k j / 2) 3988292384 (by omega) (by omega)
  simpa using this
theorem crcIn_even (l : List UInt8) (k j : Nat) (h : ¬ ((crcIn l k j : Nat) : Int) % 2 = 1) :
    ((crcIn l k j : Nat) : Int) / 2 = ((crcIn l k (j + 1) : Nat) : Int) := by
  have e : crcIn l k (j + 1) = bitStep (crcIn l k j) := rfl
  rw [e]; unfold bitStep
  rw [if_neg (by omega)]; omega
end Go.Proofs.YtakjpgjcfecfiaaGreatDoor
