import Derived.Test.YtakjpgjcfecfiaaGreatDoorSeal
import Derived.Test.YtakjpgjcfecfiaaGreatDoorRefEnc
import Derived.Laws.BytesArg
import Derived.Deep.QuietTactic
import Derived.BigQuiet
/- What the readers of records and of manifests share. -/
namespace Go.Proofs.YtakjpgjcfecfiaaGreatDoor
open Go.RowKit

theorem num_append (l m : List UInt8) : num (l ++ m) = num l * 256 ^ m.length + num m := by
  unfold num; rw [List.foldl_append]; exact num_acc m _
theorem be_add : ∀ j a m, be j (a * 256 ^ j + m) = be j m
  | 0, _, _ => rfl
  | j + 1, a, m => by
    have h1 : (a * 256 ^ (j + 1) + m) / 256 = a * 256 ^ j + m / 256 := by
      rw [Nat.pow_succ, ← Nat.mul_assoc]; omega
    have h2 : (a * 256 ^ (j + 1) + m) % 256 = m % 256 := by
      rw [Nat.pow_succ, ← Nat.mul_assoc]; omega
    rw [be, be, h1, h2, be_add j]
theorem be_num (l : List UInt8) : be l.length (num l) = l := by
  induction l with
  | nil => rfl
  | cons b l ih =>
    rw [List.length_cons, be_top, num_cons]
    have hp : 0 < 256 ^ l.length := Nat.pow_pos (by omega)
    have hl := num_lt l
    have h1 : (b.toNat * 256 ^ l.length + num l) / 256 ^ l.length = b.toNat := by
      rw [Nat.mul_comm, Nat.mul_add_div hp, Nat.div_eq_of_lt hl, Nat.add_zero]
    have hb := b.toNat_lt
    rw [h1, Nat.mod_eq_of_lt hb, UInt8.ofNat_toNat]
    congr 1
    rw [be_add, ih]
theorem num_be : ∀ j n, num (be j n) = n % 256 ^ j
  | 0, n => by simp [be, num, Nat.mod_one]
  | j + 1, n => by
    rw [be, num_snoc, num_be j (n / 256), Nat.pow_succ, Nat.mul_comm (256 ^ j) 256, Nat.mod_mul]
    simp only [UInt8.toNat_ofNat']
    omega
theorem be_inj (j a b : Nat) (ha : a < 256 ^ j) (hb : b < 256 ^ j) (h : be j a = be j b) : a = b := by
  have := congrArg num h
  rwa [num_be, num_be, Nat.mod_eq_of_lt ha, Nat.mod_eq_of_lt hb] at this
theorem ret_bool {a b : Bool} (h : a = b) : Ending.returned (.bool a) = .returned (.bool b) := by rw [h]

theorem cells_zero (n : Nat) : (madeCells #[Value.int .u8 0] n).toList = cells (List.replicate n 0) := by
  rw [toList_madeCells_one]; simp [cells]

/-- make([]byte, n) -/
theorem make_own (w : World) {ops : Array Oper} {rest : List Oper} {o : Oper} {a : Act} {Q : Exit → Act → World → Prop} (hgd : o.guard = none)
    (l c : Operand) (hop : o.op = Op.makeSlice 25 l c) (n : Nat) (L C : Int) (hl : a.eval l = .int .i64 L) (hc : a.eval c = .int .i64 C) (hL : L = (n : Int)) (hC : C = (n : Int)) (hn : n ≤ 1000000)
    (h : ∀ w', Own w' w.heap.size (.slice (some ⟨w.heap.size, 0, none⟩) n n) n (List.replicate n 0) → Below w.heap.size w w' → wpList Tryz.prog ops Q rest (a.put o.dst (.slice (some ⟨w.heap.size, 0, none⟩) n n)) w') :
    wpList Tryz.prog ops Q (o :: rest) a w := by
  obtain ⟨i0, hi, hz0, hz1, hz2⟩ := info_parts Tryz.info8
  refine wpList_make_full w hgd l c 25 hop w.heap.size 5 i0 (.int .u8 0) 1 Tryz.underlying25 hi hz0 hz1 .i64 .i64 L C n hl hc hL hC (by rw [hz2]; omega) (by unfold maxLen; omega) (Nat.le_refl _) ?_
  intro w' ho hg
  refine h w' ⟨by simp, ?_⟩ ⟨hg.os, hg.tape, hg.output, hg.size, fun k hk => hg.block k hk (by simp)⟩
  rw [show (Value.int IntKind.u8 0).cells = #[Value.int .u8 0] from rfl, Nat.mul_one, cells_zero] at ho
  exact ho

theorem be_part (l : List UInt8) (o n : Nat) (h : o + n ≤ l.length) : be n (num ((l.drop o).take n)) = (l.drop o).take n := by
  have := be_num ((l.drop o).take n)
  rwa [show ((l.drop o).take n).length = n by simp; omega] at this

theorem part_split (l : List UInt8) (o m n : Nat) : (l.drop o).take (m + n) = (l.drop o).take m ++ (l.drop (o + m)).take n := by
  rw [List.take_add, List.drop_drop]

theorem number_at (g o cap n : Nat) (l : List UInt8) (w : World) (hl : n ≤ 8) (hn : l.length = n) (h : Bs w (some ⟨g, o, none⟩) l) :
    Calls Tryz.prog 190 #[.slice (some ⟨g, o, none⟩) n cap] w fun e w' => e = .returned (.int .u64 (num l : Nat)) ∧ w' = w := by
  subst hn; exact number_any _ _ _ _ hl h

set_option maxHeartbeats 400000 in
theorem equal_any (b o c g o' c' n n' : Nat) (l m : List UInt8) (w : World) (hl : l.length = n) (hm : m.length = n') (h : Bs w (some ⟨b, o, none⟩) l) (h' : Bs w (some ⟨g, o', none⟩) m) :
    Calls Tryz.prog 167 #[.slice (some ⟨b, o, none⟩) n c, .slice (some ⟨g, o', none⟩) n' c'] w fun e w' => e = .returned (.bool (decide (l = m))) ∧ w' = w := by
  have c1 := h.conv hl c
  have c2 := h'.conv hm c'
  go_enter Tryz.func167, Tryz.ntmps167
  go_wp2
  go_ret
  exact ⟨ret_bool (by rw [Bool.eq_iff_iff]; simp), rfl⟩

theorem refNumber_at (g o cap n : Nat) (l : List UInt8) (w : World) (hl : n ≤ 8) (hn : l.length = n) (h : Bs w (some ⟨g, o, none⟩) l) :
    Calls Tryz.prog 76 #[.slice (some ⟨g, o, none⟩) n cap] w fun e w' => e = .returned (.int .u64 (num l : Nat)) ∧ w' = w := by
  subst hn; exact refNumber_any _ _ _ _ hl h

theorem refSum_at' (g o cap n : Nat) (l : List UInt8) (w : World) (hl : n ≤ 2000000) (hn : l.length = n) (h : Bs w (some ⟨g, o, none⟩) l) :
    Calls Tryz.prog 77 #[.slice (some ⟨g, o, none⟩) n cap] w fun e w' => e = .returned (.int .u32 (crc l : Nat)) ∧ w' = w := by
  subst hn; exact refSum_any _ _ _ _ hl h
end Go.Proofs.YtakjpgjcfecfiaaGreatDoor
