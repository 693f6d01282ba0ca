import Derived.Test.YtakjpgjcfecfiaaGreatDoorPre
import Derived.Lib.AppendStr
import Derived.Deep.RegionLaw
import Derived.Deep.CutRange
import Derived.Deep.DeepCutAuto
/- The document's own Encode. -/
namespace Go.Proofs.YtakjpgjcfecfiaaGreatDoor
open Go.RowKit

theorem Own.shape {w : World} {base n : Nat} {v : Value} {l : List UInt8} (h : Own w base v n l) (hn : 0 < n) :
    ∃ g cap, v = .slice (some ⟨g, 0, none⟩) n cap ∧ base ≤ g ∧ g < w.heap.size ∧ n ≤ cap := by
  obtain ⟨h1, h2, h3⟩ := h
  rcases h3 with ⟨_, e⟩ | ⟨g, cap, cur, e, hb, hg, hnc, _⟩
  · omega
  · exact ⟨g, cap, e, hb, (Array.getElem?_eq_some_iff.1 hg).1, hnc⟩

/-- append(b, s...) of a string's bytes -/
theorem app_str (w : World) {ops : Array Oper} {rest : List Oper} {o : Oper} {a : Act} {Q : Exit → Act → World → Prop} (hgd : o.guard = none)
    (sl x : Operand) (ho : o.op = Op.call { callee := Callee.builtin Builtin.append, args := #[sl, x], argTypes := #[25, 9] })
    (base n : Nat) (v : Value) (l : List UInt8) (hs : a.eval sl = v) (hown : Own w base v n l) (s : ByteArray)
    (hx : a.eval x = .string s) (hsz : n + s.size ≤ 2000000) (hbase : base ≤ w.heap.size)
    (h : ∀ v' w', Own w' base v' (n + s.size) (l ++ s.data.toList) → Below base w w' → wpList Tryz.prog ops Q rest (a.put o.dst v') w') :
    wpList Tryz.prog ops Q (o :: rest) a w := by
  obtain ⟨i0, hi, hz0, hz1, hz2⟩ := info_parts Tryz.info8
  refine Lib.wpList_append_own_string w hgd sl x 25 9 ho base 5 i0 Tryz.underlying25 Tryz.underlying9 hi hz0 hz1 hz2 v n (cells l) hs hown.2 s hx (by unfold maxLen; omega) (by omega) hbase ?_
  intro v' w' ho' hg _
  refine h v' w' ⟨by rw [List.length_append, hown.1, ba_length], by rw [cells_append]; exact ho'⟩ ?_
  exact (Below.refl _ _).grown hg hbase (fun k hk => (hown.lt k hk).1)

abbrev RRec (seq : Nat) (k v : ByteArray) (d : Bool) (sz : Int) : Value := .agg #[.int .u64 (seq : Int), .string k, .string v, .bool d, .int .i64 sz]

set_option maxHeartbeats 400000 in
theorem refEncode_key (seq : Nat) (k v : ByteArray) (d : Bool) (sz : Int) (w : World) (hk : k.size ≤ 140737488351232) (h : keyOk k = false) :
    Calls Tryz.prog 49 #[.agg #[.int .u64 (seq : Int), .string k, .string v, .bool d, .int .i64 sz]] w fun e w' =>
      e = .returned (.tuple #[.slice none 0 0, .int .i64 1]) ∧ Below w.heap.size w w' := by
  have h' : ¬ (1 ≤ k.size ∧ k.size ≤ 16) := by simpa [keyOk] using h
  clear h
  by_cases h1 : k.size = 0
  · have hb : ((k.size : Int) == 0) = true := by simp; exact ByteArray.size_eq_zero_iff.1 h1
    clear h1
    go_enter Tryz.func49, Tryz.ntmps49
    go_wp2
    go_ret2
    exact ⟨rfl, (Below.refl _ w).alloc (Nat.le_refl _) _⟩
  · have hb : ((k.size : Int) == 0) = false := by simp; exact fun e => h1 (ByteArray.size_eq_zero_iff.2 e)
    have hb2 : decide ((16 : Int) < k.size) = true := by simp; omega
    go_enter Tryz.func49, Tryz.ntmps49
    go_wp2
    go_ret2
    exact ⟨rfl, (Below.refl _ w).alloc (Nat.le_refl _) _⟩
set_option maxHeartbeats 400000 in
theorem refEncode_val (seq : Nat) (k v : ByteArray) (d : Bool) (sz : Int) (w : World) (hk : k.size ≤ 140737488351232) (hv : v.size ≤ 140737488351232) (hkey : keyOk k = true) (h : valOk v d = false) :
    Calls Tryz.prog 49 #[.agg #[.int .u64 (seq : Int), .string k, .string v, .bool d, .int .i64 sz]] w fun e w' =>
      e = .returned (.tuple #[.slice none 0 0, .int .i64 2]) ∧ Below w.heap.size w w' := by
  have h' : ¬ (v.size ≤ 64 ∧ (d = true → v.size = 0)) := of_decide_eq_false h
  have hk' : 1 ≤ k.size ∧ k.size ≤ 16 := of_decide_eq_true hkey
  clear h hkey
  have hb1 : ((k.size : Int) == 0) = false := by rw [beq_eq_false_iff_ne]; omega
  have hb2 : decide ((16 : Int) < k.size) = false := by simp; omega
  by_cases h1 : 64 < v.size
  · have hb3 : decide ((64 : Int) < v.size) = true := by simp; omega
    go_enter Tryz.func49, Tryz.ntmps49
    go_wp2
    go_ret2
    exact ⟨rfl, (Below.refl _ w).alloc (Nat.le_refl _) _⟩
  · have hb3 : decide ((64 : Int) < v.size) = false := by simp; omega
    cases d with
    | false => exact absurd ⟨by omega, by intro h; cases h⟩ h'
    | true =>
    have hv0 : ¬ v.size = 0 := fun e => h' ⟨by omega, fun _ => e⟩
    have hb4 := str_ne_empty hv0
    clear h'
    go_enter Tryz.func49, Tryz.ntmps49
    go_wp2
    go_ret2
    exact ⟨rfl, (Below.refl _ w).alloc (Nat.le_refl _) _⟩

/-- fixed, the numbers spelt as the caller has them -/
theorem fixed_z (z kz : Int) (base m k n : Nat) (v : Value) (l : List UInt8) (w : World) (hz : z = (n : Int)) (hkz : kz = (k : Int)) (hm : m ≤ 1000000) (hk : k ≤ 8) (hn : n < 18446744073709551616) (hbase : base ≤ w.heap.size)
    (hown : Own w base v m l) :
    Calls Tryz.prog 81 #[v, .int .u64 z, .int .i64 kz] w fun e w' => ∃ v', e = .returned v' ∧
      Own w' base v' (m + k) (l ++ be k n) ∧ Below base w w' := by
  subst hz hkz; exact fixed_any base m k n v l w hm hk hn hbase hown
theorem refSum_at (g cap n : Nat) (l : List UInt8) (w : World) (hl : n ≤ 2000000) (hn : l.length = n) (h : Bs w (some ⟨g, 0, none⟩) l) :
    Calls Tryz.prog 77 #[.slice (some ⟨g, 0, none⟩) n cap] w fun e w' => e = .returned (.int .u32 (crc l : Nat)) ∧ w' = w := by
  subst hn; exact refSum_any _ _ _ _ hl h

/-- the record's box at B, whatever has been made behind it -/
structure RBox (w wx : World) (seq : Nat) (k v : ByteArray) (d : Bool) : Prop where
  c0 : wx.cell? ⟨w.heap.size, 0, none⟩ = some (.int .u64 (seq : Int))
  c1 : wx.cell? ⟨w.heap.size, 1, none⟩ = some (.string k)
  c2 : wx.cell? ⟨w.heap.size, 2, none⟩ = some (.string v)
  c3 : wx.cell? ⟨w.heap.size, 3, none⟩ = some (.bool d)
  size : w.heap.size + 1 ≤ wx.heap.size
  below : Below w.heap.size w wx
theorem RBox.start (w : World) (seq : Nat) (k v : ByteArray) (d : Bool) (sz : Int) : RBox w (w.alloc (.cells #[.int .u64 (seq : Int), .string k, .string v, .bool d, .int .i64 sz] 116)) seq k v d :=
  ⟨by simp, by simp, by simp, by simp, by simp, (Below.refl _ w).alloc (Nat.le_refl _) _⟩
theorem RBox.step {w wx wy : World} {B : Nat} {seq : Nat} {k v : ByteArray} {d : Bool} (h : RBox w wx seq k v d) (hB : w.heap.size + 1 ≤ B) (hb : Below B wx wy) : RBox w wy seq k v d := by
  have hc : ∀ j, wy.cell? ⟨w.heap.size, j, none⟩ = wx.cell? ⟨w.heap.size, j, none⟩ := fun j => hb.cell (by show w.heap.size < B; omega)
  exact ⟨(hc 0).trans h.c0, (hc 1).trans h.c1, (hc 2).trans h.c2, (hc 3).trans h.c3, Nat.le_trans h.size hb.size, h.below.trans (hb.mono (by omega))⟩

set_option maxRecDepth 100000 in
set_option maxHeartbeats 1000000 in
theorem refEncode_ok (seq : Nat) (k v : ByteArray) (d : Bool) (sz : Int) (w : World) (hs : seq < 18446744073709551616) (hkey : keyOk k = true) (hval : valOk v d = true) :
    Calls Tryz.prog 49 #[.agg #[.int .u64 (seq : Int), .string k, .string v, .bool d, .int .i64 sz]] w fun e w' =>
      ∃ v', e = .returned (.tuple #[v', .int .i64 0]) ∧ Own w' w.heap.size v' (16 + k.size + v.size) (recBytes seq k v d) ∧ Below w.heap.size w w' := by
  have h' : v.size ≤ 64 ∧ (d = true → v.size = 0) := of_decide_eq_true hval
  have hk' : 1 ≤ k.size ∧ k.size ≤ 16 := of_decide_eq_true hkey
  clear hval hkey
  have hv64 : v.size ≤ 64 := h'.1
  have hb1 : ((k.size : Int) == 0) = false := by rw [beq_eq_false_iff_ne]; omega
  have hb2 : decide ((16 : Int) < k.size) = false := by simp; omega
  have hb3 : decide ((64 : Int) < v.size) = false := by simp; omega
  have hb4 : d = true → v.toList.isEmpty = true := fun e => str_empty (h'.2 e)
  clear h'
  have bx0 := RBox.start w seq k v d sz
  go_enter Tryz.func49, Tryz.ntmps49
  cases d with
  | false =>
    clear hb4
    go_wp2_with fail
    refine (fixed_z _ _ (w.heap.size + 1) 0 8 seq _ [] _ rfl rfl (by omega) (by omega) hs (by simp) (Own.nil _ _)).mono ?_
    rintro e w1 ⟨v1, rfl, ho1, hbl1⟩
    have bx1 := bx0.step (Nat.le_refl _) hbl1
    have q3 := bx1.c3
    have z1 := bx1.size
    clear hbl1 bx0
    go_wp2_with (at_builtin; refine app_own _ rfl _ _ rfl (w.heap.size + 1) 8 _ _ rfl (ho1.alloc _) ⟨w1.heap.size, 0, none⟩ 1 1 [0] rfl rfl ?c1 ?c2 ?c3 ?_)
    case c1 =>
      intro i hi
      obtain rfl : i = 0 := by omega
      simp only [Addr.add]
      simp [at8]
    case c2 => omega
    case c3 => simp; omega
    intro v2 w2 ho2 _ hbl2
    have bx2 := (bx1.step (B := w1.heap.size) z1 ((Below.refl _ w1).alloc (Nat.le_refl _) _)).step (Nat.le_refl _) hbl2
    clear hbl2 bx1 ho1 q3 z1
    have q1 := bx2.c1
    have z2 := bx2.size
    go_wp2_with fail
    refine (fixed_z _ _ (w.heap.size + 1) 9 1 k.size _ _ _ rfl rfl (by omega) (by omega) (by omega) z2 ho2).mono ?_
    rintro e w3 ⟨v3, rfl, ho3, hbl3⟩
    have bx3 := bx2.step (Nat.le_refl _) hbl3
    clear hbl3 bx2 ho2 q1 z2
    have q2 := bx3.c2
    have z3 := bx3.size
    go_wp2_with fail
    refine (fixed_z _ _ (w.heap.size + 1) 10 2 v.size _ _ _ rfl rfl (by omega) (by omega) (by omega) z3 ho3).mono ?_
    rintro e w4 ⟨v4, rfl, ho4, hbl4⟩
    have bx4 := bx3.step (Nat.le_refl _) hbl4
    clear hbl4 bx3 ho3 q2 z3
    have q1 := bx4.c1
    have z4 := bx4.size
    go_wp2_with (at_builtin; refine app_str _ rfl (.tmp 54) (.tmp 56) rfl (w.heap.size + 1) 12 _ _ rfl ho4 k rfl ?d1 z4 ?_)
    case d1 => omega
    intro v5 w5 ho5 hbl5
    have bx5 := bx4.step (Nat.le_refl _) hbl5
    clear hbl5 bx4 ho4 q1 z4
    have q2 := bx5.c2
    have z5 := bx5.size
    go_wp2_with (at_builtin; refine app_str _ rfl (.tmp 58) (.tmp 60) rfl (w.heap.size + 1) (12 + k.size) _ _ rfl ho5 v rfl ?d2 z5 ?_)
    case d2 => omega
    intro v6 w6 ho6 hbl6
    have bx6 := bx5.step (Nat.le_refl _) hbl6
    clear hbl6 bx5 ho5 q2 z5
    have z6 := bx6.size
    have hin : Own w6 (w.heap.size + 1) v6 (12 + k.size + v.size) (recBody seq k v false) := by simpa [recBody] using ho6
    clear ho6
    obtain ⟨g, cap, hv6, hg1, hg2, hcap⟩ := hin.shape (by omega)
    rw [hv6] at hin ⊢
    clear hv6
    have hlb := recBody_length seq k v false
    have hbs : Bs w6 (some ⟨g, 0, none⟩) (recBody seq k v false) := by
      have := hin.bs 0 (12 + k.size + v.size) (by omega)
      rwa [List.drop_zero, List.take_of_length_le (by omega)] at this
    have hcr := crc_lt (recBody seq k v false)
    generalize hL : recBody seq k v false = L at *
    have HL := hL
    have HLh : Hid (recBody seq k v false = L) := HL
    clear hL HL
    go_wp2_with fail
    refine (refSum_at g cap (12 + k.size + v.size) L _ (by omega) hlb hbs).mono ?_
    rintro e w7 ⟨rfl, rfl⟩
    go_wp2_with fail
    refine (fixed_z _ _ w7.heap.size 0 4 (crc L) _ [] _ rfl rfl (by omega) (by omega) (by omega) (Nat.le_refl _) (Own.nil _ _)).mono ?_
    rintro e w8 ⟨v8, rfl, ho8, hbl8⟩
    have hB8 : Below w.heap.size w w8 := bx6.below.trans (hbl8.mono (by omega))
    have hcl : ∀ j, j < 12 + k.size + v.size → w8.cell? ((⟨g, 0, none⟩ : Addr).add j) = some (.int .u8 (at8 L j)) := by
      intro j hj
      have h1 := hin.cell j hj
      have h2 : w8.cell? ⟨g, j, none⟩ = w7.cell? ⟨g, j, none⟩ := hbl8.cell (by show g < _; omega)
      rw [Addr.add_lit, Nat.zero_add]
      exact h2.trans h1
    have z8 := hbl8.size
    clear hbl8 hin hbs bx6
    go_wp2_with (at_builtin; refine app_own _ rfl _ _ rfl w7.heap.size 4 _ _ rfl ho8 ⟨g, 0, none⟩ (12 + k.size + v.size) cap L rfl hlb hcl ?e1 z8 ?_)
    case e1 => omega
    intro v9 w9 ho9 _ hbl9
    go_wp2
    go_ret2
    refine ⟨v9, rfl, ?_, hB8.trans (hbl9.mono (by omega))⟩
    have h9 := ho9.mono (show w.heap.size ≤ w7.heap.size by omega)
    rw [recBytes, HLh.out]
    rw [show 16 + k.size + v.size = 4 + (12 + k.size + v.size) by omega]
    simpa using h9
  | true =>
    have hb5 := hb4 rfl
    clear hb4
    go_wp2_with fail
    refine (fixed_z _ _ (w.heap.size + 1) 0 8 seq _ [] _ rfl rfl (by omega) (by omega) hs (by simp) (Own.nil _ _)).mono ?_
    rintro e w1 ⟨v1, rfl, ho1, hbl1⟩
    have bx1 := bx0.step (Nat.le_refl _) hbl1
    have q3 := bx1.c3
    have z1 := bx1.size
    clear hbl1 bx0
    go_wp2_with (at_builtin; refine app_own _ rfl _ _ rfl (w.heap.size + 1) 8 _ _ rfl (ho1.alloc _) ⟨w1.heap.size, 0, none⟩ 1 1 [1] rfl rfl ?c1 ?c2 ?c3 ?_)
    case c1 =>
      intro i hi
      obtain rfl : i = 0 := by omega
      simp only [Addr.add]
      simp [at8]
    case c2 => omega
    case c3 => simp; omega
    intro v2 w2 ho2 _ hbl2
    have bx2 := (bx1.step (B := w1.heap.size) z1 ((Below.refl _ w1).alloc (Nat.le_refl _) _)).step (Nat.le_refl _) hbl2
    clear hbl2 bx1 ho1 q3 z1
    have q1 := bx2.c1
    have z2 := bx2.size
    go_wp2_with fail
    refine (fixed_z _ _ (w.heap.size + 1) 9 1 k.size _ _ _ rfl rfl (by omega) (by omega) (by omega) z2 ho2).mono ?_
    rintro e w3 ⟨v3, rfl, ho3, hbl3⟩
    have bx3 := bx2.step (Nat.le_refl _) hbl3
    clear hbl3 bx2 ho2 q1 z2
    have q2 := bx3.c2
    have z3 := bx3.size
    go_wp2_with fail
    refine (fixed_z _ _ (w.heap.size + 1) 10 2 v.size _ _ _ rfl rfl (by omega) (by omega) (by omega) z3 ho3).mono ?_
    rintro e w4 ⟨v4, rfl, ho4, hbl4⟩
    have bx4 := bx3.step (Nat.le_refl _) hbl4
    clear hbl4 bx3 ho3 q2 z3
    have q1 := bx4.c1
    have z4 := bx4.size
    go_wp2_with (at_builtin; refine app_str _ rfl (.tmp 54) (.tmp 56) rfl (w.heap.size + 1) 12 _ _ rfl ho4 k rfl ?d1 z4 ?_)
    case d1 => omega
    intro v5 w5 ho5 hbl5
    have bx5 := bx4.step (Nat.le_refl _) hbl5
    clear hbl5 bx4 ho4 q1 z4
    have q2 := bx5.c2
    have z5 := bx5.size
    go_wp2_with (at_builtin; refine app_str _ rfl (.tmp 58) (.tmp 60) rfl (w.heap.size + 1) (12 + k.size) _ _ rfl ho5 v rfl ?d2 z5 ?_)
    case d2 => omega
    intro v6 w6 ho6 hbl6
    have bx6 := bx5.step (Nat.le_refl _) hbl6
    clear hbl6 bx5 ho5 q2 z5
    have z6 := bx6.size
    have hin : Own w6 (w.heap.size + 1) v6 (12 + k.size + v.size) (recBody seq k v true) := by simpa [recBody] using ho6
    clear ho6
    obtain ⟨g, cap, hv6, hg1, hg2, hcap⟩ := hin.shape (by omega)
    rw [hv6] at hin ⊢
    clear hv6
    have hlb := recBody_length seq k v true
    have hbs : Bs w6 (some ⟨g, 0, none⟩) (recBody seq k v true) := by
      have := hin.bs 0 (12 + k.size + v.size) (by omega)
      rwa [List.drop_zero, List.take_of_length_le (by omega)] at this
    have hcr := crc_lt (recBody seq k v true)
    generalize hL : recBody seq k v true = L at *
    have HL := hL
    have HLh : Hid (recBody seq k v true = L) := HL
    clear hL HL
    go_wp2_with fail
    refine (refSum_at g cap (12 + k.size + v.size) L _ (by omega) hlb hbs).mono ?_
    rintro e w7 ⟨rfl, rfl⟩
    go_wp2_with fail
    refine (fixed_z _ _ w7.heap.size 0 4 (crc L) _ [] _ rfl rfl (by omega) (by omega) (by omega) (Nat.le_refl _) (Own.nil _ _)).mono ?_
    rintro e w8 ⟨v8, rfl, ho8, hbl8⟩
    have hB8 : Below w.heap.size w w8 := bx6.below.trans (hbl8.mono (by omega))
    have hcl : ∀ j, j < 12 + k.size + v.size → w8.cell? ((⟨g, 0, none⟩ : Addr).add j) = some (.int .u8 (at8 L j)) := by
      intro j hj
      have h1 := hin.cell j hj
      have h2 : w8.cell? ⟨g, j, none⟩ = w7.cell? ⟨g, j, none⟩ := hbl8.cell (by show g < _; omega)
      rw [Addr.add_lit, Nat.zero_add]
      exact h2.trans h1
    have z8 := hbl8.size
    clear hbl8 hin hbs bx6
    go_wp2_with (at_builtin; refine app_own _ rfl _ _ rfl w7.heap.size 4 _ _ rfl ho8 ⟨g, 0, none⟩ (12 + k.size + v.size) cap L rfl hlb hcl ?e1 z8 ?_)
    case e1 => omega
    intro v9 w9 ho9 _ hbl9
    go_wp2
    go_ret2
    refine ⟨v9, rfl, ?_, hB8.trans (hbl9.mono (by omega))⟩
    have h9 := ho9.mono (show w.heap.size ≤ w7.heap.size by omega)
    rw [recBytes, HLh.out]
    rw [show 16 + k.size + v.size = 4 + (12 + k.size + v.size) by omega]
    simpa using h9
end Go.Proofs.YtakjpgjcfecfiaaGreatDoor
