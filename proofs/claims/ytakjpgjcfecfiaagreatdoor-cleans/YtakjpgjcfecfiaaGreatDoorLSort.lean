import Derived.Test.YtakjpgjcfecfiaaGreatDoorLHnt
/- directory.SegmentNames; merge.fateOf, sortOut. -/
namespace Go.Proofs.YtakjpgjcfecfiaaGreatDoor
open Go.RowKit Go.Maps Go.Joins

/-- make([]string, n) -/
theorem make_strs (w : World) {ops : Array Oper} {rest : List Oper} {o : Oper} {a : Act} {Q : Exit → Act → World → Prop} (hgd : o.guard = none)
    (l c : Operand) (hop : o.op = Op.makeSlice 28 l c) (n : Nat) (L C : Int) (hl : a.eval l = .int .i64 L) (hc : a.eval c = .int .i64 C) (hL : L = (n : Int)) (hC : C = (n : Int)) (hn : n ≤ 1000000)
    (h : ∀ w', StrRow w' w.heap.size (.slice (some ⟨w.heap.size, 0, none⟩) n n) (List.replicate n []) → Below w.heap.size w w' → wpList Tryz.prog ops Q rest (a.put o.dst (.slice (some ⟨w.heap.size, 0, none⟩) n n)) w') :
    wpList Tryz.prog ops Q (o :: rest) a w := by
  obtain ⟨i0, hi, hz0, hz1, hz2⟩ := info_parts Tryz.infoStr
  refine wpList_make_full w hgd l c 28 hop w.heap.size 9 i0 (.string ⟨#[]⟩) 1 Tryz.underlying28 hi hz0 hz1 .i64 .i64 L C n hl hc hL hC (by rw [hz2]; omega) (by unfold maxLen; omega) (Nat.le_refl _) ?_
  intro w' ho hg
  refine h w' ?_ ⟨hg.os, hg.tape, hg.output, hg.size, fun k hk => hg.block k hk (by simp)⟩
  rw [show (Value.string ⟨#[]⟩).cells = #[Value.string ⟨#[]⟩] from rfl, Nat.mul_one, toList_madeCells_one] at ho
  show w'.ownsRow _ _ 1 _ (List.replicate n ([] : Name)).length ((List.replicate n ([] : Name)).map encStr)
  rw [List.length_replicate, List.map_replicate]; exact ho
theorem StrRow.stored {w : World} {base g n cap : Nat} {l : List Name} (h : StrRow w base (.slice (some ⟨g, 0, none⟩) n cap) l) (hn : l.length = n) (i : Nat) (s : Name) :
    StrRow (w.setCell ⟨g, i, none⟩ (encStr s)) base (.slice (some ⟨g, 0, none⟩) n cap) (l.set i s) ∧ w.grownBy (w.setCell ⟨g, i, none⟩ (encStr s)) (some g) := by
  subst hn
  have := World.ownsRow.stored h i (encStr s)
  rw [← List.map_set] at this
  refine ⟨?_, this.2⟩
  show World.ownsRow _ _ _ 1 _ (l.set i s).length _
  rw [List.length_set]; exact this.1

/-- the names of the first k of m segments -/
def namesTo (ids : List Nat) (m k : Nat) : List Name := (ids.take k).map (segName sData) ++ List.replicate (m - k) []
theorem namesTo_length (ids : List Nat) (m k : Nat) (hm : ids.length = m) (hk : k ≤ m) : (namesTo ids m k).length = m := by simp [namesTo]; omega
theorem namesTo_set (ids : List Nat) (m k : Nat) (hm : ids.length = m) (hk : k < m) : (namesTo ids m k).set k (segName sData (ids.getD k 0)) = namesTo ids m (k + 1) := by
  unfold namesTo
  rw [show m - k = (m - (k + 1)) + 1 by omega, List.replicate_succ, set_mid _ _ _ _ _ (by simp; omega), take_snoc ids k 0 (by omega)]
  simp

set_option maxRecDepth 100000 in
set_option maxHeartbeats 1000000 in
theorem segmentNames_any (w : World) (a : Option Addr) (m cap : Nat) (ids : List Nat) (hT : Tab w) (hm : ids.length = m) (hm6 : m ≤ 1000000) (hle : ∀ x ∈ ids, x ≤ 999999) (hids : IdsAt w a ids) :
    Calls Tryz.prog 123 #[.slice a m cap] w fun e w' => ∃ v, e = .returned v ∧ StrRow w' w.heap.size v (ids.map (segName sData)) ∧ Below w.heap.size w w' := by
  go_enter Tryz.func123, Tryz.ntmps123
  go_wp2_with (at_make; refine make_strs _ rfl _ _ rfl m _ _ rfl rfl ?c1 ?c2 ?c3 ?_)
  case c1 => rfl
  case c2 => rfl
  case c3 => omega
  intro w1 ho1 hB1
  go_wp2
  go_loopw [4, 5, 11] (fun _ _ i wr => ∃ k : Nat, k ≤ m ∧ i = .int .i64 k ∧ StrRow wr w.heap.size (.slice (some ⟨w.heap.size, 0, none⟩) m m) (namesTo ids m k) ∧ Below w.heap.size w wr) (fun _ _ i _ => m - (intOf i).toNat)
  case atStart => exact ⟨0, Nat.zero_le _, rfl, by simpa [namesTo] using ho1, hB1⟩
  case round =>
    obtain ⟨k, hk, rfl, ho, hB⟩ := hrel
    have hlen := namesTo_length ids m k hm hk
    by_cases hlt : k < m
    · obtain ⟨b, o, rfl, hc⟩ := (hids.stay hB) k (by omega)
      have hx := hle (ids.getD k 0) (by rw [List.getD_eq_getElem?_getD]; simp [show k < ids.length by omega])
      have hset := namesTo_set ids m k hm hlt
      generalize ids.getD k 0 = x at hc hx hset
      have cs := segmentName_any x wr (hT.below hB) hx
      go_wp2_with fail
      refine cs.mono ?_
      rintro e w3 ⟨rfl, hB3⟩
      have hBw3 : Below w.heap.size w w3 := hB.trans (hB3.mono hB.size)
      have ho3 : StrRow w3 w.heap.size (.slice (some ⟨w.heap.size, 0, none⟩) m m) (namesTo ids m k) := row_keep ho fun q hq => hB3.block q (ho.lt q hq).2
      have ho4 : w3.ownsRow w.heap.size 9 1 (.slice (some ⟨w.heap.size, 0, none⟩) m m) m ((namesTo ids m k).map encStr) := by
        have h2 := ho3
        unfold StrRow at h2
        rwa [hlen] at h2
      have hs := ho3.stored hlen k (segName sData x)
      rw [hset] at hs
      have hcl : w3.cell? ⟨w.heap.size, k, none⟩ = some (encStr ((namesTo ids m k).getD k [])) := by
        have := World.ownsRow.cellAt ho4 k (by omega)
        rw [this]; simp [hlen, hlt]
      have hfr : w3.frozen? ⟨w.heap.size, k, none⟩ = false := World.ownsRow.frozenAt ho4 k
      have hB4 : Below w.heap.size w (w3.setCell ⟨w.heap.size, k, none⟩ (encStr (segName sData x))) := hBw3.setCell (Nat.le_refl _) _
      unfold encStr at hs hcl hB4
      generalize segName sData x = nm at *
      clear cs ho3 ho4 hB3 ho hset hc hBw3
      go_wp2
      go_roundw
      case rel => exact ⟨k + 1, by omega, by go_num, hs.1, hB4⟩
      case measure => simp [intOf]; omega
    · obtain rfl : k = m := by omega
      have hr : StrRow wr w.heap.size (.slice (some ⟨w.heap.size, 0, none⟩) k k) (ids.map (segName sData)) := by
        have h2 := ho
        unfold namesTo at h2
        rwa [Nat.sub_self, List.replicate_zero, List.append_nil, List.take_of_length_le (by omega)] at h2
      clear ho
      go_wp2
      go_ret
      exact ⟨_, rfl, hr, hB⟩

/-- what becomes of a file: 0 it is kept, 1 a hint, 2 it is removed -/
def fateN (ids : List Nat) (s : Name) : Nat := if (decide (s = sManifest) || listedB ids s) = true then 0 else if isNameB sHint s = true then 1 else 2
theorem fateN_lt (ids : List Nat) (s : Name) : fateN ids s < 3 := by unfold fateN; split <;> (try split) <;> omega

set_option maxHeartbeats 1000000 in
theorem fateOf_any {w : World} {B : Nat} {v : Value} (ids : List Nat) (h : StrRow w B v (ids.map (segName sData))) (hl : ids.length ≤ 1000000) (s : Name) (hs : s.length ≤ maxLen) :
    Calls Tryz.prog 201 #[.string ⟨s.toArray⟩, v] w fun e w' => e = .returned (.int .i64 (fateN ids s : Int)) ∧ Below w.heap.size w w' := by
  have cc := contains_str h (by simpa using hl) s
  have ch := hint_any s w hs
  have hlb : decide (s ∈ ids.map (segName sData)) = listedB ids s := rfl
  rw [hlb] at cc
  unfold fateN
  by_cases hman : s = sManifest
  · have hb1 : (s == [109, 97, 110, 105, 102, 101, 115, 116]) = true := by simpa [sManifest] using hman
    simp only [hman, decide_true, Bool.true_or, if_true]
    rw [← hman]
    clear hman ch cc hlb
    go_enter Tryz.func201, Tryz.ntmps201
    go_wp2
    go_ret
    exact ⟨rfl, Below.refl _ _⟩
  · have hb1 : (s == [109, 97, 110, 105, 102, 101, 115, 116]) = false := by simpa [sManifest] using hman
    simp only [hman, decide_false, Bool.false_or]
    clear hman hlb
    generalize listedB ids s = b1 at *
    generalize isNameB sHint s = b2 at *
    cases b1 with
    | true =>
      clear ch
      go_enter Tryz.func201, Tryz.ntmps201
      go_wp2_with fail
      refine cc.mono ?_
      rintro e w' ⟨rfl, hw⟩
      rw [hw]
      clear hw cc
      go_wp2
      go_ret
      exact ⟨rfl, Below.refl _ _⟩
    | false =>
      go_enter Tryz.func201, Tryz.ntmps201
      go_wp2_with fail
      refine cc.mono ?_
      rintro e w' ⟨rfl, hw⟩
      rw [hw]
      clear hw cc
      go_wp2_with fail
      refine ch.mono ?_
      rintro e w' ⟨rfl, hB⟩
      clear ch
      cases b2
      all_goals
        go_wp2
        go_ret
        exact ⟨rfl, hB⟩

/-- out = append(out, name): what turns -/
theorem app_name2 (w : World) {ops : Array Oper} {rest : List Oper} {o : Oper} {a : Act} {Q : Exit → Act → World → Prop} (hgd : o.guard = none)
    (so x : Operand) (ho : o.op = Op.call { callee := Callee.builtin Builtin.append, args := #[so, x], argTypes := #[28, 28] })
    (base : Nat) (v : Value) (l : List Name) (hs : a.eval so = v) (hown : StrRow w base v l) (hbase : base ≤ w.heap.size) (s : Name) (hl : l.length ≤ 1000000)
    (hx : a.eval x = .slice (some ⟨w.heap.size, 0, none⟩) 1 1)
    (h : ∀ v' w', StrRow w' base v' (l ++ [s]) → (w.alloc (.cells #[encStr s] 9)).grownBy w' v.ownBlock → (v'.ownBlock = v.ownBlock ∨ v'.ownBlock = some (w.heap.size + 1)) → wpList Tryz.prog ops Q rest (a.put o.dst v') w') :
    wpList Tryz.prog ops Q (o :: rest) a (w.alloc (.cells #[encStr s] 9)) := by
  obtain ⟨i0, hi, hz0, hz1, hz2⟩ := info_parts Tryz.infoStr
  refine wpList_append_own_at _ hgd so x 28 ho base 9 i0 (.string ⟨#[]⟩) 1 16 Tryz.underlying28 hi hz0 hz1 hz2 rfl (by decide) v l.length (l.map encStr) hs (hown.alloc _) ⟨w.heap.size, 0, none⟩ 1 1 [encStr s] hx rfl (cell_one_new _ _ _) (by simp [Value.oneCell']) (by unfold maxLen; omega) (by omega) (by simp; omega) ?_
  intro v' w' hr hg _ hb
  exact h v' w' (by show w'.ownsRow _ _ 1 _ (l ++ [s]).length ((l ++ [s]).map encStr); simpa using hr) hg (by simpa using hb)

/-- three rows of names, in an array -/
structure Three (w : World) (b : Nat) (r : Nat → Value) (L : Nat → List Name) : Prop where
  blk : w.heap[b]? = some (.cells #[r 0, r 1, r 2] 290)
  row : ∀ j, j < 3 → StrRow w (b + 1) (r j) (L j)
  ne : ∀ i j g, i < 3 → j < 3 → i ≠ j → (r i).ownBlock = some g → (r j).ownBlock ≠ some g
theorem Three.cell {w : World} {b : Nat} {r : Nat → Value} {L : Nat → List Name} (h : Three w b r L) (j : Nat) (hj : j < 3) : w.cell? ⟨b, j, none⟩ = some (r j) := by
  rw [cell_of_block h.blk]
  rcases (show j = 0 ∨ j = 1 ∨ j = 2 by omega) with rfl | rfl | rfl <;> rfl
theorem Three.frozen {w : World} {b : Nat} {r : Nat → Value} {L : Nat → List Name} (h : Three w b r L) (j : Nat) : w.frozen? ⟨b, j, none⟩ = false := unfrozen_of_block h.blk j
theorem Three.lt {w : World} {b : Nat} {r : Nat → Value} {L : Nat → List Name} (h : Three w b r L) : b < w.heap.size := (Array.getElem?_eq_some_iff.1 h.blk).1
theorem Three.keep {w w' : World} {b : Nat} {r : Nat → Value} {L : Nat → List Name} (h : Three w b r L) (hb : w'.heap[b]? = w.heap[b]?) (hk : ∀ g, b < g → g < w.heap.size → w'.heap[g]? = w.heap[g]?) : Three w' b r L :=
  ⟨hb.trans h.blk, fun j hj => row_keep (h.row j hj) fun g hg => hk g ((h.row j hj).lt g hg).1 ((h.row j hj).lt g hg).2, h.ne⟩
theorem Three.below {w w' : World} {b : Nat} {r : Nat → Value} {L : Nat → List Name} (h : Three w b r L) (hb : Below w.heap.size w w') : Three w' b r L :=
  h.keep (hb.block _ h.lt) fun g _ hg => hb.block g hg
theorem Three.put {w w' : World} {b f : Nat} {r : Nat → Value} {L : Nat → List Name} (h : Three w b r L) (hf : f < 3) {s : Name} {v' : Value} (hr : StrRow w' (b + 1) v' (L f ++ [s])) (hg : (w.alloc (.cells #[encStr s] 9)).grownBy w' (r f).ownBlock)
    (ho : v'.ownBlock = (r f).ownBlock ∨ v'.ownBlock = some (w.heap.size + 1)) :
    Three (w'.setCell ⟨b, f, none⟩ v') b (fun j => if j = f then v' else r j) (fun j => if j = f then L f ++ [s] else L j) ∧ w'.cell? ⟨b, f, none⟩ = some (r f) ∧ w'.frozen? ⟨b, f, none⟩ = false := by
  have hlt := h.lt
  have hbk : w'.heap[b]? = some (.cells #[r 0, r 1, r 2] 290) := by
    rw [hg.block b (by simp; omega) (fun e => by have := ((h.row f hf).lt b e.symm).1; omega), (MapKept.heap_alloc w _).2 _ hlt]
    exact h.blk
  have hbs := heap_setCell_same w' b f _ _ v' hbk
  have hc : w'.cell? ⟨b, f, none⟩ = some (r f) := by
    rw [cell_of_block hbk]
    rcases (show f = 0 ∨ f = 1 ∨ f = 2 by omega) with rfl | rfl | rfl <;> rfl
  refine ⟨⟨?_, fun j hj => ?_, fun i j g hi hj hij hig => ?_⟩, hc, unfrozen_of_block hbk f⟩
  · rw [hbs]
    rcases (show f = 0 ∨ f = 1 ∨ f = 2 by omega) with rfl | rfl | rfl <;> simp
  · by_cases e : j = f
    · subst e
      simp only [if_true]
      exact ownsRow_setCell_below hr (Nat.lt_succ_self b) v'
    · simp only [e, if_false]
      refine ownsRow_setCell_below (row_keep (h.row j hj) fun g hgo => ?_) (Nat.lt_succ_self b) v'
      have hgl := ((h.row j hj).lt g hgo).2
      rw [hg.block g (by simp; omega) (fun e2 => h.ne f j g hf hj (Ne.symm e) e2.symm hgo), (MapKept.heap_alloc w _).2 _ hgl]
  · by_cases e1 : i = f
    · subst e1
      have e2 : j ≠ i := Ne.symm hij
      simp only [if_true, e2, if_false] at hig ⊢
      rcases ho with ho | ho
      · exact h.ne i j g hi hj hij (ho ▸ hig)
      · intro hjg
        rw [ho] at hig
        cases hig
        have := ((h.row j hj).lt _ hjg).2
        omega
    · simp only [e1, if_false] at hig ⊢
      by_cases e2 : j = f
      · subst e2
        simp only [if_true]
        rcases ho with ho | ho
        · rw [ho]; exact h.ne i j g hi hj hij hig
        · rw [ho]
          intro e3
          cases e3
          have := ((h.row i hi).lt _ hig).2
          omega
      · simp only [e2, if_false]; exact h.ne i j g hi hj hij hig
end Go.Proofs.YtakjpgjcfecfiaaGreatDoor

/- merge.sortOut. -/
namespace Go.Proofs.YtakjpgjcfecfiaaGreatDoor
open Go.RowKit Go.Maps Go.Joins

theorem row_mono {w : World} {base base' e size n : Nat} {v : Value} {xs : List Value} (h : w.ownsRow base e size v n xs) (hb : base' ≤ base) : w.ownsRow base' e size v n xs := by
  obtain ⟨h1, h2 | ⟨g, cap, cur, a, b, r⟩⟩ := h
  · exact ⟨h1, .inl h2⟩
  · exact ⟨h1, .inr ⟨g, cap, cur, a, Nat.le_trans hb b, r⟩⟩

/-- the names with one fate -/
def fated (ids : List Nat) (ns : List Name) (f : Nat) : List Name := ns.filter fun s => fateN ids s == f
theorem fated_snoc (ids : List Nat) (ns : List Name) (s : Name) : (fun j => if j = fateN ids s then fated ids ns (fateN ids s) ++ [s] else fated ids ns j) = fated ids (ns ++ [s]) := by
  funext j
  unfold fated
  rw [List.filter_append]
  by_cases e : j = fateN ids s
  · subst e; simp
  · have : (fateN ids s == j) = false := by simpa using Ne.symm e
    simp [e, this]
theorem fated_length (ids : List Nat) (ns : List Name) (f : Nat) : (fated ids ns f).length ≤ ns.length := List.length_filter_le _ _

set_option maxRecDepth 100000 in
set_option maxHeartbeats 2000000 in
theorem sortOut_any {w : World} {B : Nat} {v : Value} {a : Option Addr} {m cap : Nat} {ids : List Nat} {ns : List Name} (hrow : StrRow w B v ns) (hT : Tab w) (hm : ids.length = m) (hm6 : m ≤ 1000000) (hle : ∀ x ∈ ids, x ≤ 999999) (hids : IdsAt w a ids)
    (hns : ns.length ≤ 1000000) (hnl : ∀ s ∈ ns, s.length ≤ maxLen) :
    Calls Tryz.prog 146 #[v, .slice a m cap] w fun e w' => ∃ r : Nat → Value, e = .returned (.agg #[r 0, r 1, r 2]) ∧ (∀ j, j < 3 → StrRow w' w.heap.size (r j) (fated ids ns j)) ∧ Below w.heap.size w w' := by
  obtain ⟨av, cv, rfl, hav⟩ := row_shape hrow
  obtain ⟨w1, hw1⟩ : ∃ w1, w1 = w.alloc (.cells #[.slice none 0 0, .slice none 0 0, .slice none 0 0] 290) := ⟨_, rfl⟩
  have hB1 : Below w.heap.size w w1 := by rw [hw1]; exact (Below.refl _ w).alloc (Nat.le_refl _) _
  have hs1 : w1.heap.size = w.heap.size + 1 := by rw [hw1]; simp
  have hX : w1.heap[w.heap.size]? = some (.cells #[.slice none 0 0, .slice none 0 0, .slice none 0 0] 290) := by rw [hw1]; exact (MapKept.heap_alloc w _).1
  have cs := segmentNames_any w1 a m cap ids (hT.below hB1) hm hm6 hle (hids.stay hB1)
  go_enter Tryz.func146, Tryz.ntmps146
  go_wp2_with fail
  rw [← hw1]
  refine cs.mono ?_
  rintro e w2 ⟨vl, rfl, hl2, hB2⟩
  clear cs hw1
  obtain ⟨w3, hw3⟩ : ∃ w3, w3 = w2.alloc (.cells #[.slice none 0 0, .slice none 0 0, .slice none 0 0] 290) := ⟨_, rfl⟩
  have hB3 : Below w2.heap.size w2 w3 := by rw [hw3]; exact (Below.refl _ w2).alloc (Nat.le_refl _) _
  have hX3 : w3.heap[w2.heap.size]? = some (.cells #[.slice none 0 0, .slice none 0 0, .slice none 0 0] 290) := by rw [hw3]; exact (MapKept.heap_alloc w2 _).1
  have ht3 : Three w3 w2.heap.size (fun _ => .slice none 0 0) (fated ids []) := ⟨hX3, fun j _ => World.ownsRow_nil _ _ _ _, fun i j g _ _ _ h => by cases h⟩
  obtain ⟨al, cl, rfl, _⟩ := row_shape hl2
  rw [List.length_map, hm] at hl2 ⊢
  have hBw2 : Below w.heap.size w w2 := hB1.trans (hB2.mono hB1.size)
  have hB23 : Below w2.heap.size w2 w3 := hB3
  have hX2 : w2.heap[w.heap.size]? = some (.cells #[.slice none 0 0, .slice none 0 0, .slice none 0 0] 290) := (hB2.block _ (by omega)).trans hX
  have hs2 := hB2.size
  clear hX hB2 hB3 hX3
  go_wp2
  rw [← hw3]
  clear hw3
  go_loopw [8, 9, 14] (fun _ _ i wr => ∃ k : Nat, k ≤ ns.length ∧ i = .int .i64 k ∧ ∃ r, Three wr w2.heap.size r (fated ids (ns.take k)) ∧ Below w2.heap.size w2 wr) (fun _ _ i _ => ns.length - (intOf i).toNat)
  case atStart => exact ⟨0, Nat.zero_le _, rfl, _, ht3, hB23⟩
  case round =>
    obtain ⟨k, hk, rfl, r, ht, hB⟩ := hrel
    have hBw : Below w.heap.size w wr := hBw2.trans (hB.mono hBw2.size)
    by_cases hlt : k < ns.length
    · obtain ⟨g, rfl⟩ := hav (by omega)
      have hmem : ns.getD k [] ∈ ns := by rw [List.getD_eq_getElem?_getD]; simp [hlt]
      have hc : wr.cell? ⟨g, k, none⟩ = some (encStr (ns.getD k [])) := by
        have h0 := World.ownsRow.cellAt hrow k (by omega)
        rw [World.cell?_of_block (hBw.block g (hrow.lt g rfl).2), h0]; simp [hlt]
      have hsl := hnl _ hmem
      have htk := take_snoc ns k [] hlt
      have hlr : StrRow wr w1.heap.size (.slice al m cl) (ids.map (segName sData)) := row_keep hl2 fun q hq => hB.block q (hl2.lt q hq).2
      generalize ns.getD k [] = s at hc hsl htk
      have cf := fateOf_any ids hlr (by omega) s hsl
      have hf3 := fateN_lt ids s
      have hfs := fated_snoc ids (ns.take k) s
      rw [← htk] at hfs
      have hlen := fated_length ids (ns.take k) (fateN ids s)
      rw [List.length_take] at hlen
      generalize fateN ids s = f at cf hf3 hfs hlen
      unfold encStr at hc
      clear hmem
      go_wp2_with fail
      refine cf.mono ?_
      rintro e w4 ⟨rfl, hB4⟩
      have ht4 := ht.below hB4
      have hB24 : Below w2.heap.size w2 w4 := hB.trans (hB4.mono hB.size)
      have hc4 := ht4.cell f hf3
      have hlt4 := ht4.lt
      clear cf hc ht hlr
      go_wp2_with (first | (at_builtin; go_loud (refine app_name2 _ rfl _ _ rfl (w2.heap.size + 1) _ _ rfl (ht4.row f hf3) hlt4 s (by omega) rfl ?_; intro v5 w5 hr5 hg5 ho5; obtain ⟨a5, cap5, e5, _⟩ := row_shape hr5; rw [List.length_append, List.length_singleton] at e5; subst e5; obtain ⟨ht6, hc6, hf6⟩ := ht4.put hf3 hr5 hg5 ho5)))
      rw [hfs] at ht6
      have hB5 : Below w2.heap.size w2 w5 := by
        refine hB24.trans ⟨hg5.os, hg5.tape, hg5.output, ?_, fun q hq => ?_⟩
        · have := hg5.size; simp at this; omega
        · rw [hg5.block q (by simp; omega) (fun e => by have := ((ht4.row f hf3).lt q e.symm).1; omega)]
          exact (MapKept.heap_alloc w4 _).2 q (by omega)
      go_roundw
      case rel => exact ⟨k + 1, by omega, by go_num, _, ht6, hB5.setCell (Nat.le_refl _) _⟩
      case measure => simp [intOf]; omega
    · obtain rfl : k = ns.length := by omega
      rw [List.take_of_length_le (Nat.le_refl _)] at ht
      have c0 := ht.cell 0 (by omega)
      have c1 := ht.cell 1 (by omega)
      have c2 := ht.cell 2 (by omega)
      have hXr : wr.heap[w.heap.size]? = some (.cells #[.slice none 0 0, .slice none 0 0, .slice none 0 0] 290) := (hB.block _ (by omega)).trans hX2
      have e0 : wr.cell? ⟨w.heap.size, 0, none⟩ = some (.slice none 0 0) := by rw [cell_of_block hXr]; rfl
      have e1 : wr.cell? ⟨w.heap.size, 1, none⟩ = some (.slice none 0 0) := by rw [cell_of_block hXr]; rfl
      have e2 : wr.cell? ⟨w.heap.size, 2, none⟩ = some (.slice none 0 0) := by rw [cell_of_block hXr]; rfl
      have f0 := unfrozen_of_block hXr 0
      have f1 := unfrozen_of_block hXr 1
      have f2 := unfrozen_of_block hXr 2
      have hrows := ht.row
      obtain ⟨a0, p0, s0, _⟩ := row_shape (hrows 0 (by omega))
      obtain ⟨a1, p1, s1, _⟩ := row_shape (hrows 1 (by omega))
      obtain ⟨a2, p2, s2, _⟩ := row_shape (hrows 2 (by omega))
      have S0 : Hid (r 0 = _) := s0
      have S1 : Hid (r 1 = _) := s1
      have S2 : Hid (r 2 = _) := s2
      rw [s0] at c0
      rw [s1] at c1
      rw [s2] at c2
      generalize (fated ids ns 0).length = l0 at *
      generalize (fated ids ns 1).length = l1 at *
      generalize (fated ids ns 2).length = l2 at *
      clear s0 s1 s2
      have hlt3 := ht.lt
      clear ht
      go_wp2
      have g1 := heap_setCell_same wr w.heap.size 0 _ _ (.slice a0 l0 p0) hXr
      have g2 := heap_setCell_same _ w.heap.size 1 _ _ (.slice a1 l1 p1) g1
      have g3 := heap_setCell_same _ w.heap.size 2 _ _ (.slice a2 l2 p2) g2
      refine bodyPost_ret (v := .agg #[.slice a0 l0 p0, .slice a1 l1 p1, .slice a2 l2 p2]) ?_ rfl ⟨r, ?_, fun j hj => ?_, ?_⟩
      · have q0 : (((wr.setCell ⟨w.heap.size, 0, none⟩ (.slice a0 l0 p0)).setCell ⟨w.heap.size, 1, none⟩ (.slice a1 l1 p1)).setCell ⟨w.heap.size, 2, none⟩ (.slice a2 l2 p2)).cell? ⟨w.heap.size, 0, none⟩ = some (.slice a0 l0 p0) := by rw [cell_of_block g3]; rfl
        have q1 : (((wr.setCell ⟨w.heap.size, 0, none⟩ (.slice a0 l0 p0)).setCell ⟨w.heap.size, 1, none⟩ (.slice a1 l1 p1)).setCell ⟨w.heap.size, 2, none⟩ (.slice a2 l2 p2)).cell? ⟨w.heap.size, 1, none⟩ = some (.slice a1 l1 p1) := by rw [cell_of_block g3]; rfl
        have q2 : (((wr.setCell ⟨w.heap.size, 0, none⟩ (.slice a0 l0 p0)).setCell ⟨w.heap.size, 1, none⟩ (.slice a1 l1 p1)).setCell ⟨w.heap.size, 2, none⟩ (.slice a2 l2 p2)).cell? ⟨w.heap.size, 2, none⟩ = some (.slice a2 l2 p2) := by rw [cell_of_block g3]; rfl
        generalize ((wr.setCell ⟨w.heap.size, 0, none⟩ (.slice a0 l0 p0)).setCell ⟨w.heap.size, 1, none⟩ (.slice a1 l1 p1)).setCell ⟨w.heap.size, 2, none⟩ (.slice a2 l2 p2) = wz at q0 q1 q2 ⊢
        simp [results, Tryz.results146, go_sem, q0, q1, q2]
      · rw [S0.out, S1.out, S2.out]
      · have hb : w.heap.size < w2.heap.size + 1 := by omega
        exact row_mono (ownsRow_setCell_below (ownsRow_setCell_below (ownsRow_setCell_below (hrows j hj) hb _) hb _) hb _) (by omega)
      · exact ((hBw.setCell (Nat.le_refl _) _).setCell (Nat.le_refl _) _).setCell (Nat.le_refl _) _
end Go.Proofs.YtakjpgjcfecfiaaGreatDoor
