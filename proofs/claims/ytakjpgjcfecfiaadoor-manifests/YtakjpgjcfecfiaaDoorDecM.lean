import Derived.Test.YtakjpgjcfecfiaaDoorEncM
/- Reading a record: plain facts on bytes. -/
namespace Go.Proofs.YtakjpgjcfecfiaaDoor
open Go.RowKit

def kl (l : List UInt8) : Nat := num ((l.drop 13).take 1)
def vl (l : List UInt8) : Nat := num ((l.drop 14).take 2)
def dseq (l : List UInt8) : Nat := num ((l.drop 4).take 8)
def dkey (l : List UInt8) : ByteArray := ⟨((l.drop 16).take (kl l)).toArray⟩
def dval (l : List UInt8) : ByteArray := ⟨((l.drop (16 + kl l)).take (vl l)).toArray⟩
def ddel (l : List UInt8) : Bool := at8 l 12 == 1
def splitOk (l : List UInt8) : Bool := decide (16 ≤ l.length ∧ kl l ≤ 16 ∧ vl l ≤ 64 ∧ 16 + kl l + vl l ≤ l.length)
def decOk (l : List UInt8) : Bool :=
  splitOk l && decide (¬ kl l = 0 ∧ at8 l 12 ≤ 1 ∧ ¬ (at8 l 12 = 1 ∧ 0 < vl l) ∧ num (l.take 4) = crc ((l.drop 4).take (12 + kl l + vl l)))

theorem one_part (l : List UInt8) (o : Nat) (h : o < l.length) : (l.drop o).take 1 = [l.getD o 0] := by
  rw [List.drop_eq_getElem_cons h, List.take_succ_cons, List.take_zero]
  simp [h]
theorem kl_at (l : List UInt8) (h : 14 ≤ l.length) : (kl l : Int) = at8 l 13 := by
  unfold kl at8
  rw [one_part l 13 (by omega)]
  simp [num]
theorem kl_lt (l : List UInt8) : kl l < 256 := by
  have := num_lt ((l.drop 13).take 1)
  exact Nat.lt_of_lt_of_le this (by have := Nat.pow_le_pow_right (n := 256) (by omega) (show ((l.drop 13).take 1).length ≤ 1 by simp; omega); simpa using this)
theorem vl_lt (l : List UInt8) : vl l < 65536 := by
  have := num_lt ((l.drop 14).take 2)
  exact Nat.lt_of_lt_of_le this (by have := Nat.pow_le_pow_right (n := 256) (by omega) (show ((l.drop 14).take 2).length ≤ 2 by simp; omega); simpa using this)
theorem dseq_lt (l : List UInt8) : dseq l < 18446744073709551616 := num_lt64 _ (by simp; omega)
theorem dkey_size (l : List UInt8) (h : 16 + kl l + vl l ≤ l.length) : (dkey l).size = kl l := by
  rw [← ba_length]; simp [dkey]; omega
theorem dval_size (l : List UInt8) (h : 16 + kl l + vl l ≤ l.length) : (dval l).size = vl l := by
  rw [← ba_length]; simp [dval]; omega
theorem del_byte (l : List UInt8) (h : at8 l 12 ≤ 1) : (if ddel l = true then (1 : UInt8) else 0) = l.getD 12 0 := by
  unfold ddel at8 at *
  have hb := (l.getD 12 0).toNat_lt
  by_cases e : (l.getD 12 0).toNat = 1
  · rw [if_pos (beq_iff_eq.2 (by omega))]; exact UInt8.toNat_inj.1 (by rw [e]; rfl)
  · rw [if_neg (fun h => by have := beq_iff_eq.1 h; omega)]; exact UInt8.toNat_inj.1 (by show 0 = _; omega)

/-- the bytes behind the sum, where the byte of deleting is 0 or 1 -/
theorem body_of (l : List UInt8) (h : 16 + kl l + vl l ≤ l.length) (h1 : at8 l 12 ≤ 1) :
    recBody (dseq l) (dkey l) (dval l) (ddel l) = (l.drop 4).take (12 + kl l + vl l) := by
  rw [recBody, del_byte l h1, dkey_size l h, dval_size l h]
  rw [show dseq l = num ((l.drop 4).take 8) from rfl, be_part l 4 8 (by omega)]
  rw [show be 1 (kl l) = (l.drop 13).take 1 from be_part l 13 1 (by omega), show be 2 (vl l) = (l.drop 14).take 2 from be_part l 14 2 (by omega)]
  rw [show (dkey l).data.toList = (l.drop 16).take (kl l) by simp [dkey], show (dval l).data.toList = (l.drop (16 + kl l)).take (vl l) by simp [dval]]
  rw [show 12 + kl l + vl l = 8 + (1 + (1 + (2 + (kl l + vl l)))) by omega, part_split, part_split, part_split, part_split, part_split, one_part l (4 + 8) (by omega)]

theorem dec_iff (l : List UInt8) (h : splitOk l = true) :
    (keyOk (dkey l) = true ∧ valOk (dval l) (ddel l) = true ∧ recBytes (dseq l) (dkey l) (dval l) (ddel l) = l.take (16 + kl l + vl l)) ↔ decOk l = true := by
  have hs : 16 ≤ l.length ∧ kl l ≤ 16 ∧ vl l ≤ 64 ∧ 16 + kl l + vl l ≤ l.length := of_decide_eq_true h
  obtain ⟨h16, hk, hv, hl⟩ := hs
  have ek : keyOk (dkey l) = true ↔ ¬ kl l = 0 := by
    unfold keyOk; rw [decide_eq_true_iff, dkey_size l hl]; omega
  have ev : valOk (dval l) (ddel l) = true ↔ ¬ (at8 l 12 = 1 ∧ 0 < vl l) := by
    unfold valOk; rw [decide_eq_true_iff, dval_size l hl]
    have : ddel l = true ↔ at8 l 12 = 1 := by simp [ddel]
    rw [this]
    constructor
    · intro ⟨_, a⟩ ⟨b, c⟩; have := a b; omega
    · intro a; exact ⟨hv, fun b => by
        rcases Nat.eq_zero_or_pos (vl l) with e | e
        · exact e
        · exact absurd ⟨b, e⟩ a⟩
  have hb4 : l.take (16 + kl l + vl l) = l.take 4 ++ (l.drop 4).take (12 + kl l + vl l) := by
    rw [show 16 + kl l + vl l = 4 + (12 + kl l + vl l) by omega, List.take_add]
  unfold decOk
  rw [h, Bool.true_and, decide_eq_true_iff, ek, ev]
  constructor
  · rintro ⟨a, b, c⟩
    rw [recBytes, hb4] at c
    obtain ⟨c1, c2⟩ := List.append_inj c (by rw [be_length]; simp; omega)
    have hlow : at8 l 12 ≤ 1 := by
      have := congrArg (fun m => m.getD 8 0) c2
      rw [recBody] at this
      have e1 : (be 8 (dseq l) ++ ([if ddel l = true then (1 : UInt8) else 0] ++ (be 1 (dkey l).size ++ (be 2 (dval l).size ++ ((dkey l).data.toList ++ (dval l).data.toList))))).getD 8 0 = if ddel l = true then (1 : UInt8) else 0 := by
        rw [List.getD_eq_getElem?_getD, List.getElem?_append_right (by rw [be_length]; omega), be_length]; rfl
      have e2 : ((l.drop 4).take (12 + kl l + vl l)).getD 8 0 = l.getD 12 0 := by
        simp [show 8 < 12 + kl l + vl l by omega]
      simp only [e1, e2] at this
      unfold at8
      rw [← this]
      cases ddel l <;> decide
    refine ⟨a, hlow, b, ?_⟩
    rw [← body_of l hl hlow] 
    have := congrArg num c1
    rw [num_be, Nat.mod_eq_of_lt (by have := crc_lt (recBody (dseq l) (dkey l) (dval l) (ddel l)); simpa using this)] at this
    exact this.symm
  · rintro ⟨a, hlow, b, c⟩
    refine ⟨a, b, ?_⟩
    rw [recBytes, hb4, body_of l hl hlow, ← c]
    congr 1
    have := be_part l 0 4 (by omega)
    simpa using this
end Go.Proofs.YtakjpgjcfecfiaaDoor
