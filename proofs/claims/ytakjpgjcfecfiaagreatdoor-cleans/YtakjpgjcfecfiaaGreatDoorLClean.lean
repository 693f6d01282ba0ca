import Derived.Test.YtakjpgjcfecfiaaGreatDoorLSame
import Derived.Deep.RegionLaw
/- keydirlaw.cleaned. -/
namespace Go.Proofs.YtakjpgjcfecfiaaGreatDoor
open Go.RowKit Go.Maps Go.Joins

theorem man_beq (s : Name) : (s == [109, 97, 110, 105, 102, 101, 115, 116]) = decide (s = sManifest) := by
  rw [Bool.eq_iff_iff, beq_iff_eq, decide_eq_true_eq]
  exact Iff.rfl
theorem SlB.nil' (w : World) : SlB w none 0 0 [] := ⟨rfl, fun i hi => by simp at hi, fun _ => ⟨rfl, rfl⟩, Nat.le_refl _, by simp, by omega⟩
/-- append onto a row of the call's own, as one step of a region that draws -/
theorem step_append_own {P : Program} {ops : Array Oper} {o : Oper} {a : Act} {w : World} {K : Act → World → Prop} {Q : Exit → Act → World → Prop} {E : Prop}
    (hg : o.guard = none) (s x : Operand) (t : TypeId) (hop : o.op = Op.call { callee := Callee.builtin Builtin.append, args := #[s, x], argTypes := #[t, t] })
    (base : Nat) (e : TypeId) (i : TypeInfo) (z : Value) (size bytes : Nat) (ht : P.underlying t = some (.slice e)) (hi : P.info? e = some i) (hz : i.zero = some z)
    (hsize : i.size = size) (hby : i.bytes = bytes) (hzs : z.cells.size = size) (hsz : 0 < size)
    (v : Value) (n : Nat) (xs : List Value) (hs : a.eval s = v) (hown : w.ownsRow base e size v n xs)
    (ad : Addr) (m c : Nat) (news : List Value) (hx : a.eval x = .slice (some ad) m c) (hl : news.length = m * size) (hnews : ∀ j u, news[j]? = some u → w.cell? (ad.add j) = some u) (h1 : ∀ u ∈ news, u.oneCell' = true)
    (h63 : n + m ≤ maxLen) (hbytes : (n + m) * bytes ≤ 140737488355328) (hbase : base ≤ w.heap.size)
    (h : ∀ v' w', w'.ownsRow base e size v' (n + m) (xs ++ news) → w.grownBy w' v.ownBlock → K (a.put o.dst v') w') :
    if Region.wanted o (yielded ops a.tmps) = true then Oper.wp P o a w K Q else E := by
  have hw : Region.wanted o (yielded ops a.tmps) = true := by simp [Region.wanted, hg]
  rw [if_pos hw]
  obtain ⟨v', w', hr, h2, h3, h4, h5⟩ := run_append_own_at (P := P) w base t o.type e i z size bytes ht hi hz hsize hby hzs hsz v n xs hown ad m c news hl hnews h1 h63 hbytes hbase
  unfold Oper.wp execOp
  simp only [hop, resolve, invoke, builtin, Sem.run_bind, Sem.run_pure, Result.andThen_ok, List.map_toArray, List.map_cons, List.map_nil, hs, hx, hr]
  exact h v' w' h2 h3

theorem Tryz.infoSeg : (Tryz.prog.info? 61).map (fun i => (i.zero, i.size, i.bytes)) = some (some (.agg #[.int .i64 0, .slice none 0 0, .int .i64 0]), 3, 40) := by kernel_rfl
theorem cells_three_new (w : World) (x y z : Value) (t : TypeId) : ∀ j u, [x, y, z][j]? = some u → (w.alloc (.cells #[x, y, z] t)).cell? ((⟨w.heap.size, 0, none⟩ : Addr).add j) = some u := by
  intro j u hj
  match j, hj with
  | 0, hj => simp at hj; subst hj; simp [Addr.add]
  | 1, hj => simp at hj; subst hj; simp [Addr.add]
  | 2, hj => simp at hj; subst hj; simp [Addr.add]
theorem three_one {x : Int} : ∀ u ∈ [Value.int .i64 x, .slice none 0 0, .int .i64 0], u.oneCell' = true := by
  intro u hu
  simp at hu
  rcases hu with rfl | rfl | rfl <;> rfl
theorem row_some {w : World} {base e size n : Nat} {v : Value} {xs : List Value} (h : w.ownsRow base e size v (n + 1) xs) : ∃ g cap, v = .slice (some ⟨g, 0, none⟩) (n + 1) cap := by
  obtain ⟨a, cap, rfl, ha⟩ := row_shape h
  obtain ⟨g, rfl⟩ := ha (by omega)
  exact ⟨g, cap, rfl⟩
theorem st_cell {w : World} {st : Nat} {v : Value} {t : TypeId} (h : w.heap[st]? = some (.cells #[.int .u64 0, v] t)) : w.cell? ⟨st, 1, none⟩ = some v := by rw [cell_of_block h]; rfl
def segCells (l : List Nat) : List Value := l.flatMap fun (x : Nat) => [Value.int .i64 (x : Int), .slice none 0 0, .int .i64 0]
theorem segCells_get : ∀ (l : List Nat) (k : Nat), k < l.length → (segCells l)[k * 3]? = some (.int .i64 ((l.getD k 0 : Nat) : Int))
  | [], k, h => by simp at h
  | p :: l, 0, _ => by simp [segCells]
  | p :: l, k + 1, h => by
    have := segCells_get l k (by simp at h; omega)
    simp only [segCells, List.flatMap_cons] at this ⊢
    rw [show (k + 1) * 3 = k * 3 + 3 by omega]
    simpa using this
theorem segCells_snoc (l : List Nat) (x : Nat) : segCells (l ++ [x]) = segCells l ++ [.int .i64 (x : Int), .slice none 0 0, .int .i64 0] := by simp [segCells]
theorem segRow_at {w : World} {base n cap : Nat} {a : Option Addr} {ids : List Nat} (h : w.ownsRow base 61 3 (.slice a n cap) n (segCells ids)) (hn : ids.length = n) : SegAt w a ids := by
  intro i hi
  obtain ⟨a', cap', e, ha⟩ := row_shape h
  cases e
  obtain ⟨g, rfl⟩ := ha (by omega)
  exact ⟨g, rfl, (World.ownsRow.cellAt h (i * 3) (by omega)).trans (segCells_get ids i hi)⟩
theorem st_kept {wr w' : World} {base st k capv : Nat} {av : Option Addr} {xs : List Value} {o : Obj} {vs : Array Value} (hst : wr.heap[st]? = some (.cells vs 57)) (hrow : wr.ownsRow base 61 3 (.slice av k capv) k xs)
    (hg : (wr.alloc o).grownBy w' (Value.slice av k capv).ownBlock) : w'.heap[st]? = some (.cells vs 57) := by
  have hlt : st < wr.heap.size := (Array.getElem?_eq_some_iff.1 hst).1
  have h1 : (wr.alloc o).heap[st]? = some (.cells vs 57) := ((World.grownBy_alloc wr o none).block st hlt (by simp)).trans hst
  refine (hg.block st (by simp; omega) (fun e => ?_)).trans h1
  obtain ⟨cs, hb⟩ := row_block (hrow.alloc o) e.symm
  rw [h1] at hb
  cases hb
theorem grown_drew {a b : World} {r : Option Nat} (h : a.drew.grownBy b r) : a.grownBy b r := ⟨h.os, h.tape, h.output, h.size, h.block⟩
/-- numbers in memory, as they came out of a manifest -/
def IdsAt (w : World) (a : Option Addr) (ids : List Nat) : Prop := ∀ i, i < ids.length → ∃ b o, a = some ⟨b, o, none⟩ ∧ w.cell? ⟨b, o + i, none⟩ = some (.int .i64 ((ids.getD i 0 : Nat) : Int))
theorem IdsAt.stay {w w' : World} {a : Option Addr} {ids : List Nat} (h : IdsAt w a ids) (hb : Below w.heap.size w w') : IdsAt w' a ids := by
  intro i hi
  obtain ⟨b, o, e, hc⟩ := h i hi
  exact ⟨b, o, e, (hb.cell (p := ⟨b, o + i, none⟩) (World.block_lt_of_cell? _ _ hc)).trans hc⟩

set_option maxRecDepth 100000 in
set_option maxHeartbeats 2000000 in
theorem cleaned_yes (a c ai : Option Addr) (n cap n' cap' m ci : Nat) (old now : FL) (ids : List Nat) (w : World) (hn : old.length = n) (hn2 : n ≤ 1000000) (hn' : now.length = n') (hn2' : n' ≤ 1000000)
    (ho : FAt w a old) (hw : FAt w c now) (hnl : ∀ p ∈ now, p.1.length ≤ maxLen) (hm : ids.length = m) (hm2 : m ≤ 1000) (hid : ∀ x ∈ ids, x ≤ 999999) (hi : IdsAt w ai ids)
    (hok : ∀ p ∈ now, okName ids p.1 = true) (hkeep : ∀ p ∈ old, (decide (p.1 = sManifest) || listedB ids p.1) = true → assoc now p.1 = some p.2) :
    Calls Tryz.prog 42 #[.slice a n cap, .slice c n' cap', .slice ai m ci] w fun e w' => e = .returned (.bool true) ∧ Below w.heap.size w w' := by
  obtain ⟨i0, hi0, hz0, hz1, hz2⟩ := info_parts Tryz.infoSeg
  have hst0 : (w.alloc (.cells #[.int .u64 0, .slice none 0 0] 57)).heap[w.heap.size]? = some (.cells #[.int .u64 0, .slice none 0 0] 57) := (MapKept.heap_alloc w _).1
  have hB0 : Below w.heap.size w (w.alloc (.cells #[.int .u64 0, .slice none 0 0] 57)) := (Below.refl _ w).alloc (Nat.le_refl _) _
  go_enter Tryz.func42, Tryz.ntmps42
  go_wp2
  go_loopw [8] (fun i wr => ∃ (k : Nat) (v : Value), k ≤ m ∧ i = .int .i64 k ∧ wr.heap[w.heap.size]? = some (.cells #[.int .u64 0, v] 57) ∧ wr.ownsRow (w.heap.size + 1) 61 3 v k (segCells (ids.take k)) ∧ Below w.heap.size w wr) (fun i _ => m - (intOf i).toNat)
  case atStart => exact ⟨0, .slice none 0 0, Nat.zero_le _, rfl, hst0, by simpa [segCells] using World.ownsRow_nil _ _ _ _, hB0⟩
  case round =>
    obtain ⟨k, v, hk, rfl, hst, hrow, hB⟩ := hrel
    obtain ⟨av, capv, rfl, _⟩ := row_shape hrow
    have q1 : wr.cell? ⟨w.heap.size, 1, none⟩ = some (.slice av k capv) := by rw [cell_of_block hst]; rfl
    have g1 := unfrozen_of_block hst 1
    have hsl : w.heap.size < wr.heap.size := (Array.getElem?_eq_some_iff.1 hst).1
    by_cases hlt : k < m
    · obtain ⟨bi, oi, rfl, ci1⟩ := (hi.stay hB) k (by omega)
      have htk := take_snoc ids k 0 (by omega)
      generalize ids.getD k 0 = x at ci1 htk
      have hki : (k : Int) < (m : Int) := by omega
      have hrowA : (wr.alloc (.cells #[.int .i64 (x : Int), .slice none 0 0, .int .i64 0] 61)).drew.ownsRow (w.heap.size + 1) 61 3 (.slice av k capv) k (segCells (ids.take k)) := hrow.alloc _
      have hnewA : ∀ j u, [Value.int .i64 (x : Int), .slice none 0 0, .int .i64 0][j]? = some u → (wr.alloc (.cells #[.int .i64 (x : Int), .slice none 0 0, .int .i64 0] 61)).drew.cell? ((⟨wr.heap.size, 0, none⟩ : Addr).add j) = some u := cells_three_new _ _ _ _ _
      have hA1 : k + 1 ≤ maxLen := by unfold maxLen; omega
      have hA2 : (k + 1) * 40 ≤ 140737488355328 := by omega
      have hA3 : w.heap.size + 1 ≤ (wr.alloc (.cells #[.int .i64 (x : Int), .slice none 0 0, .int .i64 0] 61)).drew.heap.size := by show _ ≤ (wr.alloc _).heap.size; simp; omega
      go_upto_region 5 with fail
      go_region_law (refine step_append_own rfl (.tmp 30) (.tmp 36) 55 rfl (w.heap.size + 1) 61 i0 (.agg #[.int .i64 0, .slice none 0 0, .int .i64 0]) 3 40 Tryz.underlying55 hi0 hz0 hz1 hz2 rfl (by decide) (.slice av k capv) k (segCells (ids.take k)) rfl hrowA ⟨wr.heap.size, 0, none⟩ 1 1 [.int .i64 (x : Int), .slice none 0 0, .int .i64 0] rfl rfl hnewA three_one hA1 hA2 hA3 ?_; intro v' w' hr' hg'; obtain ⟨g3, cap3, rfl⟩ := row_some hr'; have hst' := st_kept hst hrow (grown_drew hg'); have q' := st_cell hst'; have f' := unfrozen_of_block hst' 1)
      all_goals
        have hrow2 : (w'.setCell ⟨w.heap.size, 1, none⟩ (.slice (some ⟨g3, 0, none⟩) (k + 1) cap3)).ownsRow (w.heap.size + 1) 61 3 (.slice (some ⟨g3, 0, none⟩) (k + 1) cap3) (k + 1) (segCells (ids.take (k + 1))) := by
          rw [htk, segCells_snoc]
          exact hr'.kept (grown_setCell _ _ _) (.inr fun e => by have := (hr'.lt _ e).1; simp at this; omega)
        have hst2 : (w'.setCell ⟨w.heap.size, 1, none⟩ (.slice (some ⟨g3, 0, none⟩) (k + 1) cap3)).heap[w.heap.size]? = some (.cells #[.int .u64 0, .slice (some ⟨g3, 0, none⟩) (k + 1) cap3] 57) := block_setCell (i := 1) hst' _
        have hB2 : Below w.heap.size w (w'.setCell ⟨w.heap.size, 1, none⟩ (.slice (some ⟨g3, 0, none⟩) (k + 1) cap3)) := ((hB.alloc hB.size _).grown (grown_drew hg') (by simp; omega) (fun j hj => Nat.le_of_succ_le (hrow.lt j hj).1)).setCell (Nat.le_refl _) _
        clear hr' hg' hst' hst hrow hrowA hnewA q' f' q1 g1
        go_wp2
        go_roundw
        case rel => exact ⟨k + 1, _, by omega, by go_num, hst2, hrow2, hB2⟩
        case measure => simp [intOf]; omega
    · obtain rfl : k = m := by omega
      rw [List.take_of_length_le (by omega)] at hrow
      have hseg := segRow_at hrow hm
      have ctd := tidy_yes c av n' cap' k capv w.heap.size now ids wr hn' hn2' (hw.stay hB) hnl hm hm2 hid q1 hseg hok
      go_wp2_with fail
      refine ctd.mono ?_
      rintro e w1 ⟨rfl, hB1⟩
      have hBw : Below w.heap.size w w1 := Below.stay2 hB hB1
      clear ctd hB hB1 hst hrow q1 g1 hseg hsl
      go_wp2
      go_loopw [10] (fun i wr => ∃ j : Nat, j ≤ n ∧ i = .int .i64 j ∧ Below w.heap.size w wr) (fun i _ => n - (intOf i).toNat)
      case atStart => exact ⟨0, Nat.zero_le _, rfl, hBw⟩
      case round =>
        obtain ⟨j, hj, rfl, hBr⟩ := hrel
        by_cases hltj : j < n
        · obtain ⟨g, ab, cb, rfl, c0w, c1w, hsl0⟩ := ho j (by omega)
          have c0 := (hBr.cell (p := ⟨g, j * 2, none⟩) (World.block_lt_of_cell? _ _ c0w)).trans c0w
          have hmem : fget old j ∈ old := by unfold fget; rw [List.getD_eq_getElem?_getD]; simp [show j < old.length by omega]
          have hkp := hkeep _ hmem
          clear c0w
          generalize fget old j = p at c0 c1w hsl0 hkp
          obtain ⟨s, bs⟩ := p
          simp only at c0 c1w hsl0 hkp
          have e1 : (s == [109, 97, 110, 105, 102, 101, 115, 116]) = decide (s = sManifest) := man_beq s
          clear hmem
          go_wp2
          go_loopw [12, 13] (fun kb i wr2 => ∃ jj : Nat, jj ≤ k ∧ i = .int .i64 jj ∧ kb = .bool (decide (s = sManifest) || listedB (ids.take jj) s) ∧ Below w.heap.size w wr2) (fun _ i _ => k - (intOf i).toNat)
          case atStart => exact ⟨0, Nat.zero_le _, rfl, by simp [listedB], hBr⟩
          case round =>
            obtain ⟨jj, hjj, rfl, rfl, hB2⟩ := hrel
            by_cases hlt2 : jj < k
            · obtain ⟨gb, go, rfl, cs⟩ := (hi.stay hB2) jj (by omega)
              have htk := take_snoc ids jj 0 (by omega)
              have hidj : ids.getD jj 0 ≤ 999999 := hid _ (by rw [List.getD_eq_getElem?_getD]; simp [show jj < ids.length by omega])
              generalize ids.getD jj 0 = x at cs htk hidj
              have cnm := name_of sData x wr (by decide) hidj
              have hnext : (decide (s = sManifest) || listedB (ids.take (jj + 1)) s) = ((decide (s = sManifest) || listedB (ids.take jj) s) || (segName sData x == s)) := by rw [htk, listedB_snoc, Bool.or_assoc]
              generalize segName sData x = nm at cnm hnext
              generalize (decide (s = sManifest) || listedB (ids.take jj) s) = b0 at hnext
              clear htk
              go_wp2_with fail
              refine cnm.mono ?_
              rintro e w3 ⟨rfl, hB3⟩
              have hB4 : Below w.heap.size w w3 := Below.stay2 hB2 hB3
              clear cnm hB3
              cases b0 with
              | true =>
                rw [Bool.true_or] at hnext
                go_wp2
                go_roundw
                case rel => exact ⟨jj + 1, by omega, by go_num, by rw [hnext], hB4⟩
                case measure => simp [intOf]; omega
              | false =>
                rw [Bool.false_or] at hnext
                go_wp2
                go_roundw
                case rel => exact ⟨jj + 1, by omega, by go_num, by rw [hnext], hB4⟩
                case measure => simp [intOf]; omega
            · rw [List.take_of_length_le (show ids.length ≤ jj by omega)]
              have cfd := find_any c n' cap' now s wr hn' hn2' (hw.stay hB2)
              have q1 : wr.cell? ⟨g, j * 2 + 1, none⟩ = some (.slice ab bs.length cb) := (hB2.cell (p := ⟨g, j * 2 + 1, none⟩) (World.block_lt_of_cell? _ _ c1w)).trans c1w
              have hslw : SlB wr ab bs.length cb bs := hsl0.stay hB2
              cases hKK : (decide (s = sManifest) || listedB ids s) with
              | true =>
                have hass := hkp hKK
                clear hkp hKK
                go_wp2_with fail
                refine cfd.mono ?_
                rintro e w4 ⟨hw4, hfd⟩
                rw [hw4]
                clear hw4 cfd
                obtain ⟨ab2, cb2, rfl, hsl2⟩ : ∃ ab2 cb2, e = .returned (.tuple #[.slice ab2 bs.length cb2, .bool true]) ∧ SlB wr ab2 bs.length cb2 bs := by
                  rcases hfd with ⟨hno, _⟩ | ⟨b, ab2, cb2, hso, he, hsl2⟩
                  · rw [hass] at hno; cases hno
                  · rw [hass] at hso; cases hso
                    exact ⟨ab2, cb2, he, hsl2⟩
                have csm := same_sl ab2 ab _ cb2 _ cb bs bs wr hsl2 hslw
                simp only [decide_true] at csm
                clear hfd hsl2 hslw
                go_wp2_with fail
                refine csm.mono ?_
                rintro e w5 ⟨rfl, nq, hw5⟩
                have hB5 : Below w.heap.size w w5 := by rw [hw5]; exact ⟨hB2.os, hB2.tape, hB2.output, hB2.size, hB2.block⟩
                clear hw5 csm
                go_wp2
                go_roundw
                case rel => exact ⟨j + 1, by omega, by go_num, hB5⟩
                case measure => simp [intOf]; omega
              | false =>
                clear hkp hKK
                go_wp2_with fail
                refine cfd.mono ?_
                rintro e w4 ⟨hw4, hfd⟩
                rw [hw4]
                clear hw4 cfd
                obtain ⟨b2, ab2, cb2, t2, rfl, hsl2⟩ : ∃ b2 ab2 cb2 t2, e = .returned (.tuple #[.slice ab2 b2.length cb2, .bool t2]) ∧ SlB wr ab2 b2.length cb2 b2 := by
                  rcases hfd with ⟨hno, he⟩ | ⟨b, ab2, cb2, hso, he, hsl2⟩
                  · exact ⟨[], none, 0, false, he, SlB.nil' _⟩
                  · exact ⟨b, ab2, cb2, true, he, hsl2⟩
                have csm := same_sl ab2 ab _ cb2 _ cb b2 bs wr hsl2 hslw
                generalize decide (b2 = bs) = r2 at csm
                generalize b2.length = nb2 at csm
                clear hfd hsl2 hslw
                go_wp2_with fail
                refine csm.mono ?_
                rintro e w5 ⟨rfl, nq, hw5⟩
                have hB5 : Below w.heap.size w w5 := by rw [hw5]; exact ⟨hB2.os, hB2.tape, hB2.output, hB2.size, hB2.block⟩
                clear hw5 csm
                go_wp2
                go_roundw
                case rel => exact ⟨j + 1, by omega, by go_num, hB5⟩
                case measure => simp [intOf]; omega
        · go_wp2
          go_ret
          exact ⟨rfl, hBr⟩
end Go.Proofs.YtakjpgjcfecfiaaGreatDoor
