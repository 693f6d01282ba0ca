import Derived.Test.YtakjpgjcfecfiaaGreatDoorMRef
/- Reading a manifest: plain facts on bytes. -/
namespace Go.Proofs.YtakjpgjcfecfiaaGreatDoor
open Go.RowKit

def rnum (l : List UInt8) (i : Nat) : Nat := num ((l.drop (14 + 4 * i)).take 4)
def rids (l : List UInt8) (m : Nat) : List Int := (List.range m).map fun i => (rnum l i : Int)
def rgen (l : List UInt8) : Nat := num ((l.drop 4).take 8)
def rcnt (l : List UInt8) : Nat := num ((l.drop 12).take 2)
theorem rids_length (l : List UInt8) (m : Nat) : (rids l m).length = m := by simp [rids]
theorem rids_at (l : List UInt8) (m k : Nat) (h : k < m) : zat (rids l m) k = (rnum l k : Int) := by
  simp [zat, rids, h]
theorem rnum_lt (l : List UInt8) (i : Nat) : rnum l i < 4294967296 := by
  have := num_lt ((l.drop (14 + 4 * i)).take 4)
  exact Nat.lt_of_lt_of_le this (by have := Nat.pow_le_pow_right (n := 256) (by omega) (show ((l.drop (14 + 4 * i)).take 4).length ≤ 4 by simp; omega); simpa using this)
theorem rgen_lt (l : List UInt8) : rgen l < 18446744073709551616 := num_lt64 _ (by simp; omega)
theorem rcnt_lt (l : List UInt8) : rcnt l < 65536 := by
  have := num_lt ((l.drop 12).take 2)
  exact Nat.lt_of_lt_of_le this (by have := Nat.pow_le_pow_right (n := 256) (by omega) (show ((l.drop 12).take 2).length ≤ 2 by simp; omega); simpa using this)
theorem idsTo_rids (l : List UInt8) (m : Nat) (hm : 14 + 4 * m ≤ l.length) : ∀ k, k ≤ m → idsTo (rids l m) k = (l.drop 14).take (4 * k)
  | 0, _ => by simp [idsTo]
  | k + 1, hk => by
    rw [idsTo, idsTo_rids l m hm k (by omega), rids_at l m k (by omega), Int.toNat_natCast, rnum, be_part l (14 + 4 * k) 4 (by omega), show 4 * (k + 1) = 4 * k + 4 by omega, part_split]
theorem manBody_of (l : List UInt8) (m : Nat) (hm : 14 + 4 * m = l.length) (hc : rcnt l = m) : manBody (rgen l) (rids l m) = l.drop 4 := by
  rw [manBody, rids_length, idsTo_rids l m (by omega) m (Nat.le_refl _)]
  rw [show rgen l = num ((l.drop 4).take 8) from rfl, be_part l 4 8 (by omega), show m = rcnt l from hc.symm, show be 2 (rcnt l) = (l.drop 12).take 2 from be_part l 12 2 (by omega)]
  have e1 : l.drop 4 = (l.drop 4).take (8 + (2 + 4 * m)) := by rw [List.take_of_length_le (by simp; omega)]
  have e2 := part_split l 4 8 (2 + 4 * m)
  have e3 := part_split l 12 2 (4 * m)
  rw [hc]
  conv => rhs; rw [e1, e2, show 4 + 8 = 12 from rfl, e3]

def rdOk (l : List UInt8) : Bool := decide (14 ≤ l.length ∧ l.length = 14 + 4 * rcnt l ∧ num (l.take 4) = crc (l.drop 4)) && validZ (rids l (rcnt l))
theorem rd_small (l : List UInt8) (h : rdOk l = true) : 14 ≤ l.length ∧ l.length ≤ 254 ∧ l.length = 14 + 4 * rcnt l ∧ num (l.take 4) = crc (l.drop 4) ∧ validZ (rids l (rcnt l)) = true := by
  unfold rdOk at h
  rw [Bool.and_eq_true_iff, decide_eq_true_iff] at h
  obtain ⟨⟨a, b, c⟩, d⟩ := h
  have := ((validZ_iff _).1 d).1
  rw [rids_length] at this
  exact ⟨a, by omega, b, c, d⟩
theorem rd_iff (l : List UInt8) (h14 : 14 ≤ l.length) (h254 : l.length ≤ 254) :
    (validZ (rids l ((l.length - 14) / 4)) = true ∧ manBytes (rgen l) (rids l ((l.length - 14) / 4)) = l) ↔ rdOk l = true := by
  constructor
  · rintro ⟨hv, hm⟩
    generalize hk : (l.length - 14) / 4 = m at *
    have hlen := congrArg List.length hm
    rw [manBytes_length, rids_length] at hlen
    have hs : be 4 (crc (manBody (rgen l) (rids l m))) ++ manBody (rgen l) (rids l m) = l.take 4 ++ l.drop 4 := by rw [List.take_append_drop]; exact hm
    obtain ⟨s1, s2⟩ := List.append_inj hs (by rw [be_length]; simp; omega)
    have hc : rcnt l = m := by
      have e1 : (l.drop 12).take 2 = be 2 m := by
        have : (l.drop 4).drop 8 = l.drop 12 := by rw [List.drop_drop]
        rw [← this, ← s2, manBody, rids_length, List.drop_left' (be_length _ _), List.take_left' (be_length _ _)]
      unfold rcnt
      rw [e1, num_be]
      exact Nat.mod_eq_of_lt (by simp; omega)
    unfold rdOk
    rw [Bool.and_eq_true_iff, decide_eq_true_iff, hc]
    refine ⟨⟨h14, hlen.symm, ?_⟩, hv⟩
    rw [← s1, num_be, s2]
    exact Nat.mod_eq_of_lt (by have := crc_lt (l.drop 4); simpa using this)
  · intro h
    obtain ⟨_, _, b, c, d⟩ := rd_small l h
    have hm : (l.length - 14) / 4 = rcnt l := by omega
    rw [hm]
    refine ⟨d, ?_⟩
    rw [manBytes, manBody_of l (rcnt l) (by omega) rfl, ← c]
    have := be_part l 0 4 (by omega)
    simp only [List.drop_zero] at this
    rw [this, List.take_append_drop]

/-- numbers of the call's own -/
def icells (z : List Int) : List Value := z.map (Value.int .i64)
theorem icells_length (z : List Int) : (icells z).length = z.length := by simp [icells]
theorem icells_get (z : List Int) (i : Nat) (h : i < z.length) : (icells z)[i]? = some (.int .i64 (zat z i)) := by simp [icells, h, zat]
theorem icells_set (z : List Int) (i : Nat) (v : Int) : icells (z.set i v) = (icells z).set i (.int .i64 v) := by simp [icells, List.map_set]
def OwnI (w : World) (base : Nat) (v : Value) (n : Nat) (z : List Int) : Prop := z.length = n ∧ w.ownsRow base 3 1 v n (icells z)
theorem OwnI.cell {w : World} {base g n cap : Nat} {z : List Int} (h : OwnI w base (.slice (some ⟨g, 0, none⟩) n cap) n z) (i : Nat) (hi : i < n) : w.cell? ⟨g, i, none⟩ = some (.int .i64 (zat z i)) := by
  have := World.ownsRow.cellAt h.2 i (by omega)
  rw [this, icells_get z i (by rw [h.1]; exact hi)]
theorem OwnI.frozen {w : World} {base g n cap : Nat} {z : List Int} (h : OwnI w base (.slice (some ⟨g, 0, none⟩) n cap) n z) (i : Nat) : w.frozen? ⟨g, i, none⟩ = false := World.ownsRow.frozenAt h.2 i
theorem OwnI.is {w : World} {base g n cap : Nat} {z : List Int} (h : OwnI w base (.slice (some ⟨g, 0, none⟩) n cap) n z) : Is w (some ⟨g, 0, none⟩) z := by
  intro i hi
  exact ⟨g, 0, rfl, by rw [Nat.zero_add]; exact h.cell i (by rw [← h.1]; exact hi)⟩
theorem OwnI.stored {w : World} {base g n cap : Nat} {z : List Int} (h : OwnI w base (.slice (some ⟨g, 0, none⟩) n cap) n z) (i : Nat) (v : Int) :
    OwnI (w.setCell ⟨g, i, none⟩ (.int .i64 v)) base (.slice (some ⟨g, 0, none⟩) n cap) n (z.set i v) ∧ w.grownBy (w.setCell ⟨g, i, none⟩ (.int .i64 v)) (some g) := by
  have := World.ownsRow.stored h.2 i (.int .i64 v)
  rw [← icells_set] at this
  exact ⟨⟨by simpa using h.1, this.1⟩, this.2⟩
theorem OwnI.kept {w w' : World} {base n B : Nat} {v : Value} {z : List Int} (h : OwnI w base v n z) (hb : Below B w w') (hB : w.heap.size ≤ B) : OwnI w' base v n z :=
  ⟨h.1, h.2.kept (row := none) ⟨hb.os, hb.tape, hb.output, hb.size, fun k hk _ => hb.block k (by omega)⟩ (by cases e : v.ownBlock <;> simp)⟩
theorem OwnI.lt {w : World} {base n : Nat} {v : Value} {z : List Int} (h : OwnI w base v n z) (k : Nat) (hk : v.ownBlock = some k) : base ≤ k ∧ k < w.heap.size := h.2.lt k hk
theorem OwnI.nil (w : World) (base : Nat) : OwnI w base (.slice none 0 0) 0 [] := ⟨rfl, World.ownsRow_nil _ _ _ _⟩
theorem OwnI.alloc {w : World} {base n : Nat} {v : Value} {z : List Int} (h : OwnI w base v n z) (o : Obj) : OwnI (w.alloc o) base v n z := ⟨h.1, h.2.alloc o⟩
theorem OwnI.mono {w : World} {base base' n : Nat} {v : Value} {z : List Int} (h : OwnI w base v n z) (hb : base' ≤ base) : OwnI w base' v n z := by
  obtain ⟨h1, h2, h3⟩ := h
  refine ⟨h1, h2, ?_⟩
  rcases h3 with h | ⟨g, cap, cur, a, b, c⟩
  · exact .inl h
  · exact .inr ⟨g, cap, cur, a, Nat.le_trans hb b, c⟩
/-- its shape: nil, or at the head of a block -/
theorem OwnI.shape {w : World} {base n : Nat} {v : Value} {z : List Int} (h : OwnI w base v n z) :
    ∃ a cap, v = .slice a n cap ∧ n ≤ cap ∧ cap ≤ 9223372036854775807 ∧ Is w a z ∧ (a = none → n = 0 ∧ cap = 0) := by
  have h0 := h
  obtain ⟨h1, h2, h3⟩ := h
  rcases h3 with ⟨rfl, rfl⟩ | ⟨g, cap, cur, e, hb, hg, hnc, hm, _⟩
  · exact ⟨none, 0, rfl, by omega, by omega, fun i hi => by omega, fun _ => ⟨rfl, rfl⟩⟩
  · subst e
    exact ⟨_, cap, rfl, hnc, by unfold maxLen at hm; omega, h0.is, fun e => by cases e⟩

theorem Tryz.info3 : (Tryz.prog.info? 3).map (fun i => (i.zero, i.size, i.bytes)) = some (some (.int .i64 0), 1, 8) := by kernel_rfl
/-- make([]int, n) -/
theorem make_ints (w : World) {ops : Array Oper} {rest : List Oper} {o : Oper} {a : Act} {Q : Exit → Act → World → Prop} (hgd : o.guard = none)
    (l c : Operand) (hop : o.op = Op.makeSlice 76 l c) (n : Nat) (L C : Int) (hl : a.eval l = .int .i64 L) (hc : a.eval c = .int .i64 C) (hL : L = (n : Int)) (hC : C = (n : Int)) (hn : n ≤ 1000000)
    (h : ∀ w', OwnI w' w.heap.size (.slice (some ⟨w.heap.size, 0, none⟩) n n) n (List.replicate n 0) → Below w.heap.size w w' → wpList Tryz.prog ops Q rest (a.put o.dst (.slice (some ⟨w.heap.size, 0, none⟩) n n)) w') :
    wpList Tryz.prog ops Q (o :: rest) a w := by
  obtain ⟨i0, hi, hz0, hz1, hz2⟩ := info_parts Tryz.info3
  refine wpList_make_full w hgd l c 76 hop w.heap.size 3 i0 (.int .i64 0) 1 Tryz.underlying76 hi hz0 hz1 .i64 .i64 L C n hl hc hL hC (by rw [hz2]; omega) (by unfold maxLen; omega) (Nat.le_refl _) ?_
  intro w' ho hg
  refine h w' ⟨by simp, ?_⟩ ⟨hg.os, hg.tape, hg.output, hg.size, fun k hk => hg.block k hk (by simp)⟩
  rw [show (Value.int IntKind.i64 0).cells = #[Value.int .i64 0] from rfl, Nat.mul_one, toList_madeCells_one] at ho
  rw [show icells (List.replicate n 0) = List.replicate n (Value.int .i64 0) by simp [icells]]
  exact ho
/-- append(s, x...) of numbers onto a slice of the call's own -/
theorem app_ints (w : World) {ops : Array Oper} {rest : List Oper} {o : Oper} {a : Act} {Q : Exit → Act → World → Prop} (hgd : o.guard = none)
    (s x : Operand) (ho : o.op = Op.call { callee := Callee.builtin Builtin.append, args := #[s, x], argTypes := #[76, 76] })
    (base n : Nat) (v : Value) (l : List Int) (hs : a.eval s = v) (hown : OwnI w base v n l) (ad : Addr) (m c : Nat) (news : List Int)
    (hx : a.eval x = .slice (some ad) m c) (hl : news.length = m) (hnews : ∀ j, j < m → w.cell? (ad.add j) = some (.int .i64 (zat news j)))
    (hsz : n + m ≤ 2000000) (hbase : base ≤ w.heap.size)
    (h : ∀ v' w', OwnI w' base v' (n + m) (l ++ news) → Below base w w' → wpList Tryz.prog ops Q rest (a.put o.dst v') w') :
    wpList Tryz.prog ops Q (o :: rest) a w := by
  obtain ⟨i0, hi, hz0, hz1, hz2⟩ := info_parts Tryz.info3
  refine wpList_append_own w hgd s x 76 ho base 3 i0 (.int .i64 0) 1 8 Tryz.underlying76 hi hz0 hz1 hz2 rfl (by decide) v n (icells l) hs hown.2 ad m c (icells news) hx (by rw [icells_length, hl, Nat.mul_one]) ?_ ?_ (by unfold maxLen; omega) (by omega) hbase ?_
  · intro j u hj
    by_cases hjm : j < m
    · rw [icells_get news j (by omega)] at hj
      rw [hnews j hjm]; exact hj
    · rw [List.getElem?_eq_none (by rw [icells_length]; omega)] at hj; cases hj
  · intro u hu
    obtain ⟨b, _, rfl⟩ := List.mem_map.1 hu
    rfl
  · intro v' w' ho' hg _
    refine h v' w' ⟨by rw [List.length_append, hown.1, hl], by rw [show icells (l ++ news) = icells l ++ icells news by simp [icells]]; exact ho'⟩ ?_
    exact (Below.refl _ _).grown hg hbase (fun k hk => (hown.lt k hk).1)
end Go.Proofs.YtakjpgjcfecfiaaGreatDoor
