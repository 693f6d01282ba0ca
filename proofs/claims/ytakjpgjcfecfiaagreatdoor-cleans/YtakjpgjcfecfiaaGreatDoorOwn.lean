import Derived.Test.YtakjpgjcfecfiaaGreatDoorNum
/- Bytes of the call's own: what owns them, and the writing of numbers. -/
namespace Go.Proofs.YtakjpgjcfecfiaaGreatDoor
open Go.RowKit

def cells (l : List UInt8) : List Value := l.map fun b => Value.int .u8 (b.toNat : Int)
theorem cells_length (l : List UInt8) : (cells l).length = l.length := by simp [cells]
theorem cells_append (l m : List UInt8) : cells (l ++ m) = cells l ++ cells m := by simp [cells]
theorem cells_get (l : List UInt8) (i : Nat) (h : i < l.length) : (cells l)[i]? = some (.int .u8 (at8 l i)) := by
  simp [cells, h, at8]
theorem cells_set (l : List UInt8) (i : Nat) (b : UInt8) : cells (l.set i b) = (cells l).set i (.int .u8 (b.toNat : Int)) := by
  simp [cells, List.map_set]
theorem cells_oneCell (l : List UInt8) : ∀ u, u ∈ cells l → u.oneCell' = true := by
  intro u hu
  obtain ⟨b, _, rfl⟩ := List.mem_map.1 hu
  rfl

/-- the value v is a slice of the call's own (blocks from base on), of n bytes, that holds the bytes l -/
def Own (w : World) (base : Nat) (v : Value) (n : Nat) (l : List UInt8) : Prop := l.length = n ∧ w.ownsRow base 5 1 v n (cells l)

theorem Own.cell {w : World} {base g n cap : Nat} {l : List UInt8} (h : Own w base (.slice (some ⟨g, 0, none⟩) n cap) n l) (i : Nat) (hi : i < n) :
    w.cell? ⟨g, i, none⟩ = some (.int .u8 (at8 l i)) := by
  have := World.ownsRow.cellAt h.2 i (by omega)
  rw [this, cells_get l i (by rw [h.1]; exact hi)]
theorem Own.frozen {w : World} {base g n cap : Nat} {l : List UInt8} (h : Own w base (.slice (some ⟨g, 0, none⟩) n cap) n l) (i : Nat) :
    w.frozen? ⟨g, i, none⟩ = false := World.ownsRow.frozenAt h.2 i
theorem Own.bs {w : World} {base g n cap : Nat} {l : List UInt8} (h : Own w base (.slice (some ⟨g, 0, none⟩) n cap) n l) (o m : Nat) (hn : o + m ≤ n) :
    Bs w (some ⟨g, o, none⟩) ((l.drop o).take m) := by
  intro i hi
  have hi2 : i < m := by simp at hi; omega
  refine ⟨g, o, rfl, ?_⟩
  rw [h.cell (o + i) (by omega)]
  congr 2
  simp [at8, hi2]
theorem Own.stored {w : World} {base g n cap : Nat} {l : List UInt8} (h : Own w base (.slice (some ⟨g, 0, none⟩) n cap) n l) (i : Nat) (b : UInt8) :
    Own (w.setCell ⟨g, i, none⟩ (.int .u8 (b.toNat : Int))) base (.slice (some ⟨g, 0, none⟩) n cap) n (l.set i b) ∧
      w.grownBy (w.setCell ⟨g, i, none⟩ (.int .u8 (b.toNat : Int))) (some g) := by
  have := World.ownsRow.stored h.2 i (.int .u8 (b.toNat : Int))
  rw [← cells_set] at this
  exact ⟨⟨by simpa using h.1, this.1⟩, this.2⟩

/-- a piece of a list in the place of another -/
def splice {α : Type} (xs : List α) (o : Nat) (ys : List α) : List α := xs.take o ++ ys ++ xs.drop (o + ys.length)
theorem splice_length {α : Type} (xs : List α) (o : Nat) (ys : List α) (h : o + ys.length ≤ xs.length) : (splice xs o ys).length = xs.length := by
  simp [splice]; omega
theorem splice_nil {α : Type} (xs : List α) (o : Nat) : splice xs o [] = xs := by simp [splice]
theorem splice_set {α : Type} (xs : List α) (p : Nat) (ys : List α) (u : α) (h : p + 1 + ys.length ≤ xs.length) :
    (splice xs (p + 1) ys).set p u = splice xs p (u :: ys) := by
  unfold splice
  rw [List.append_assoc, List.set_append_left _ _ (by simp; omega), List.take_succ_eq_append_getElem (by omega), List.set_append_right _ _ (by simp; omega)]
  simp only [List.length_take, List.length_cons]
  rw [show p - min p xs.length = 0 by omega]
  simp [show p + (ys.length + 1) = p + 1 + ys.length by omega]

/-- the lowest j bytes of a number, the highest first -/
def be : Nat → Nat → List UInt8
  | 0, _ => []
  | j + 1, n => be j (n / 256) ++ [UInt8.ofNat (n % 256)]
theorem be_length : ∀ j n, (be j n).length = j
  | 0, _ => rfl
  | j + 1, n => by simp [be, be_length j]
theorem be_top : ∀ j n, be (j + 1) n = UInt8.ofNat (n / 256 ^ j % 256) :: be j n
  | 0, n => by simp [be]
  | j + 1, n => by
    rw [be, be_top j (n / 256), be]
    rw [Nat.div_div_eq_div_mul, show 256 * 256 ^ j = 256 ^ (j + 1) by rw [Nat.pow_succ, Nat.mul_comm]]
    rfl

theorem grown_trans {a b c : World} {r : Option Nat} (h : a.grownBy b r) (k : b.grownBy c r) : a.grownBy c r :=
  ⟨k.os.trans h.os, k.tape.trans h.tape, k.output.trans h.output, Nat.le_trans h.size k.size, fun i hi hr => (k.block i (Nat.lt_of_lt_of_le hi h.size) hr).trans (h.block i hi hr)⟩
theorem grown_refl (a : World) (r : Option Nat) : a.grownBy a r := ⟨rfl, rfl, rfl, Nat.le_refl _, fun _ _ _ => rfl⟩

/-- a number behind j shifts by a byte -/
def dn (n j : Nat) : Nat := n / 256 ^ j
theorem dn_lt (n j : Nat) (h : n < 18446744073709551616) : dn n j < 18446744073709551616 := Nat.lt_of_le_of_lt (Nat.div_le_self _ _) h
theorem dn_succ (n j : Nat) : ((dn n j : Nat) : Int) / 256 = ((dn n (j + 1) : Nat) : Int) := by
  unfold dn
  rw [Nat.pow_succ, ← Nat.div_div_eq_div_mul]; omega
theorem put_step {w : World} {base g N cap o k j n : Nat} {l : List UInt8} (hlN : l.length = N) (hfit : o + k ≤ N) (hlt : j < k)
    (h : Own w base (.slice (some ⟨g, 0, none⟩) N cap) N (splice l (o + (k - j)) (be j n))) :
    Own (w.setCell ⟨g, o + (k - 1 - j), none⟩ (.int .u8 (((dn n j : Nat) : Int) % 256))) base (.slice (some ⟨g, 0, none⟩) N cap) N (splice l (o + (k - (j + 1))) (be (j + 1) n)) ∧
      w.grownBy (w.setCell ⟨g, o + (k - 1 - j), none⟩ (.int .u8 (((dn n j : Nat) : Int) % 256))) (some g) := by
  have h1 := h.stored (o + (k - 1 - j)) (UInt8.ofNat (dn n j % 256))
  have e : ((UInt8.ofNat (dn n j % 256)).toNat : Int) = ((dn n j : Nat) : Int) % 256 := by simp
  rw [e, show o + (k - j) = o + (k - 1 - j) + 1 by omega, splice_set _ _ _ _ (by rw [be_length]; omega)] at h1
  rw [be_top, show o + (k - (j + 1)) = o + (k - 1 - j) by omega]
  exact h1

set_option maxHeartbeats 400000 in
theorem put_any (g o cap k c n N base : Nat) (l : List UInt8) (w : World) (hk : k ≤ 8) (hn : n < 18446744073709551616)
    (hfit : o + k ≤ N) (hown : Own w base (.slice (some ⟨g, 0, none⟩) N cap) N l) :
    Calls Tryz.prog 192 #[.slice (some ⟨g, o, none⟩) k c, .int .u64 (n : Nat)] w fun e w' => e = .returned (.tuple #[]) ∧
      Own w' base (.slice (some ⟨g, 0, none⟩) N cap) N (splice l o (be k n)) ∧ w.grownBy w' (some g) := by
  have hlN := hown.1
  go_enter Tryz.func192, Tryz.ntmps192
  go_wp2
  go_loopw [1, 4] (fun m i wr => ∃ j : Nat, j ≤ k ∧ i = .int .i64 ((k : Int) - 1 - j) ∧ m = .int .u64 (dn n j : Nat) ∧
      Own wr base (.slice (some ⟨g, 0, none⟩) N cap) N (splice l (o + (k - j)) (be j n)) ∧ w.grownBy wr (some g)) (fun _ i _ => (intOf i + 1).toNat)
  case atStart => exact ⟨0, by omega, by go_num, by simp [dn], by simpa [be, splice_nil] using hown, grown_refl _ _⟩
  case round =>
    obtain ⟨j, hj, rfl, rfl, ho, hg⟩ := hrel
    by_cases hlt : j < k
    · have hc := ho.cell (o + (k - 1 - j)) (by omega)
      have hfz := ho.frozen (o + (k - 1 - j))
      have hd := dn_lt n j hn
      have R := put_step hlN hfit hlt ho
      go_wp2
      go_roundw
      case rel => exact ⟨j + 1, by omega, by go_num, int_eq (dn_succ n j), R.1, grown_trans hg R.2⟩
      case measure => simp [intOf]; omega
    · go_wp2
      go_end0
      have : j = k := by omega
      subst this
      exact ⟨rfl, by simpa using ho, hg⟩
/-- the same, the number spelt as the caller has it -/
theorem put_z (z : Int) (g o cap k c n N base : Nat) (l : List UInt8) (w : World) (hz : z = (n : Int)) (hk : k ≤ 8) (hn : n < 18446744073709551616)
    (hfit : o + k ≤ N) (hown : Own w base (.slice (some ⟨g, 0, none⟩) N cap) N l) :
    Calls Tryz.prog 192 #[.slice (some ⟨g, o, none⟩) k c, .int .u64 z] w fun e w' => e = .returned (.tuple #[]) ∧
      Own w' base (.slice (some ⟨g, 0, none⟩) N cap) N (splice l o (be k n)) ∧ w.grownBy w' (some g) := by
  subst hz; exact put_any g o cap k c n N base l w hk hn hfit hown
theorem wrap64_nat (n : Nat) (h : n < 18446744073709551616) : IntKind.u64.wrap (n : Int) = (n : Int) := by
  rw [IntKind.wrap_u64]; omega
end Go.Proofs.YtakjpgjcfecfiaaGreatDoor
