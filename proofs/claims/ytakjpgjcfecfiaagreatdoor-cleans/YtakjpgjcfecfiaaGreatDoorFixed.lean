import Derived.Test.YtakjpgjcfecfiaaGreatDoorOwn
import Derived.OwnWalk
/- The document's own numbers in bytes: written behind a list. -/
namespace Go.Proofs.YtakjpgjcfecfiaaGreatDoor
open Go.RowKit

theorem Tryz.info8 : (Tryz.prog.info? 5).map (fun i => (i.zero, i.size, i.bytes)) = some (some (.int .u8 0), 1, 1) := by kernel_rfl

theorem Own.alloc {w : World} {base n : Nat} {v : Value} {l : List UInt8} (h : Own w base v n l) (o : Obj) : Own (w.alloc o) base v n l := ⟨h.1, h.2.alloc o⟩
theorem Own.nil (w : World) (base : Nat) : Own w base (.slice none 0 0) 0 [] := ⟨rfl, World.ownsRow_nil _ _ _ _⟩
theorem Own.lt {w : World} {base n : Nat} {v : Value} {l : List UInt8} (h : Own w base v n l) (k : Nat) (hk : v.ownBlock = some k) : base ≤ k ∧ k < w.heap.size := h.2.lt k hk
theorem Own.kept {w w' : World} {base n B : Nat} {v : Value} {l : List UInt8} (h : Own w base v n l) (hb : Below B w w') (hB : w.heap.size ≤ B) : Own w' base v n l :=
  ⟨h.1, h.2.kept (row := none) ⟨hb.os, hb.tape, hb.output, hb.size, fun k hk _ => hb.block k (by omega)⟩ (by cases e : v.ownBlock <;> simp)⟩

/-- append(s, x...) of bytes onto a slice of the call's own -/
theorem app_own (w : World) {ops : Array Oper} {rest : List Oper} {o : Oper} {a : Act} {Q : Exit → Act → World → Prop} (hgd : o.guard = none)
    (s x : Operand) (ho : o.op = Op.call { callee := Callee.builtin Builtin.append, args := #[s, x], argTypes := #[25, 25] })
    (base n : Nat) (v : Value) (l : List UInt8) (hs : a.eval s = v) (hown : Own w base v n l) (ad : Addr) (m c : Nat) (news : List UInt8)
    (hx : a.eval x = .slice (some ad) m c) (hl : news.length = m) (hnews : ∀ j, j < m → w.cell? (ad.add j) = some (.int .u8 (at8 news j)))
    (hsz : n + m ≤ 2000000) (hbase : base ≤ w.heap.size)
    (h : ∀ v' w', Own w' base v' (n + m) (l ++ news) → w.grownBy w' v.ownBlock → Below base w w' → wpList Tryz.prog ops Q rest (a.put o.dst v') w') :
    wpList Tryz.prog ops Q (o :: rest) a w := by
  obtain ⟨i0, hi, hz0, hz1, hz2⟩ := info_parts Tryz.info8
  refine wpList_append_own w hgd s x 25 ho base 5 i0 (.int .u8 0) 1 1 Tryz.underlying25 hi hz0 hz1 hz2 rfl (by decide) v n (cells l) hs hown.2 ad m c (cells news) hx (by rw [cells_length, hl, Nat.mul_one]) ?_ (cells_oneCell _) (by unfold maxLen; omega) (by omega) hbase ?_
  · intro j u hj
    by_cases hjm : j < m
    · rw [cells_get news j (by omega)] at hj
      rw [hnews j hjm]; exact hj
    · rw [List.getElem?_eq_none (by rw [cells_length]; omega)] at hj; cases hj
  · intro v' w' ho' hg _
    refine h v' w' ⟨by rw [List.length_append, hown.1, hl], by rw [cells_append]; exact ho'⟩ hg ?_
    exact (Below.refl _ _).grown hg hbase (fun k hk => (hown.lt k hk).1)

theorem fixed_byte (n i : Nat) : ((UInt8.ofNat (dn n i % 256)).toNat : Int) = (n : Int) / 2 ^ (8 * i) % 256 := by
  unfold dn
  have : (2 : Int) ^ (8 * i) = ((256 ^ i : Nat) : Int) := by
    rw [Int.pow_mul]; simp
  rw [this]; simp
theorem fixed_list (l : List UInt8) (n k j : Nat) (h : j < k) : l ++ (be j (dn n (k - j)) ++ [UInt8.ofNat (dn n (k - 1 - j) % 256)]) = l ++ be (j + 1) (dn n (k - (j + 1))) := by
  rw [be, show k - (j + 1) = k - 1 - j by omega]
  congr 3
  unfold dn
  rw [Nat.div_div_eq_div_mul, ← Nat.pow_succ, show (k - 1 - j).succ = k - j by omega]

set_option maxRecDepth 100000 in
set_option maxHeartbeats 400000 in
theorem fixed_any (base m k n : Nat) (v : Value) (l : List UInt8) (w : World) (hm : m ≤ 1000000) (hk : k ≤ 8) (_hn : n < 18446744073709551616) (hbase : base ≤ w.heap.size)
    (hown : Own w base v m l) :
    Calls Tryz.prog 81 #[v, .int .u64 (n : Nat), .int .i64 (k : Nat)] w fun e w' => ∃ v', e = .returned v' ∧
      Own w' base v' (m + k) (l ++ be k n) ∧ Below base w w' := by
  go_enter Tryz.func81, Tryz.ntmps81
  go_wp2
  go_loopw [0, 7] (fun v i wr => ∃ j : Nat, j ≤ k ∧ i = .int .i64 ((k : Int) - 1 - j) ∧
      Own wr base v (m + j) (l ++ be j (dn n (k - j))) ∧ Below base w wr) (fun _ i _ => (intOf i + 1).toNat)
  case atStart => exact ⟨0, by omega, by go_num, by simpa [be] using hown, Below.refl _ _⟩
  case round =>
    obtain ⟨j, hj, rfl, ho, hg⟩ := hrel
    by_cases hlt : j < k
    · go_wp2_with (at_builtin; refine app_own _ rfl _ _ rfl base (m + j) _ _ rfl (ho.alloc _) ⟨wr.heap.size, 0, none⟩ 1 1 [UInt8.ofNat (dn n (k - 1 - j) % 256)] rfl rfl ?c1 ?c2 ?c3 ?_)
      case c1 =>
        intro i hi
        obtain rfl : i = 0 := by omega
        have := fixed_byte n (k - 1 - j)
        simp only [Addr.add]
        simp [at8, ← this]
      case c2 => omega
      case c3 => have := hg.size; simp; omega
      intro v' w' ho' _ hb'
      rw [fixed_list l n k j hlt] at ho'
      have hB : Below base w w' := (hg.alloc (by have := hg.size; omega) _).trans hb'
      clear hb' ho
      go_wp2
      go_roundw
      case rel => exact ⟨j + 1, by omega, by go_num, ho', hB⟩
      case measure => simp [intOf]; omega
    · go_wp2
      go_ret
      have : j = k := by omega
      subst this
      exact ⟨_, rfl, by simpa [dn] using ho, hg⟩
end Go.Proofs.YtakjpgjcfecfiaaGreatDoor
