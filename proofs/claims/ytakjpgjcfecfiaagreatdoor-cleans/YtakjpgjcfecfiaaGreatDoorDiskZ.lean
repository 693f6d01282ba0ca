import Derived.Test.YtakjpgjcfecfiaaGreatDoorDiskX
import Derived.Deep.QuietTactic
import Derived.BigQuiet
import Derived.Deep.RegionHeld3
/- Crash of a disk at rest: all of it is there still. -/
namespace Go.Proofs.YtakjpgjcfecfiaaGreatDoor
open Go.RowKit Go.Maps Go.Joins

set_option maxRecDepth 100000 in
set_option maxHeartbeats 400000 in
theorem crash_any {w : World} {d c mn ms : Nat} {K : Nat → Prop} {now : Names} {room : Int} {F : Files} (h : DiskAt w d K c mn ms now now (.slice none 0 0) [] room F) (hc : c ≤ 1000000) (dir tail : Nat) :
    Calls Tryz.prog 36 #[.pointer (some ⟨d, 0, none⟩), .int .u64 (dir : Int), .int .u64 (tail : Int)] w fun e w' => e = .returned (.tuple #[]) ∧ Rest w' d K c F ∧ Kept K w w' := by
  obtain ⟨ns, hns, hs⟩ := h.msafe
  have hdm : ms ≠ d := (h.top.ne_map hs).symm
  obtain ⟨W0, m0, hmm, hB0, hm0, hm0l, hW0⟩ : ∃ W0 m0, (∀ t, (Instr.makeMap t none).run Tryz.prog w = .ok (.map (some m0)) W0) ∧ Below w.heap.size w W0 ∧ NM W0 m0 0 (fun _ => none) ∧ w.heap.size ≤ m0 ∧ W0.heap.size = m0 + 1 :=
    ⟨_, _, fun t => run_makeMap t w, (Below.refl _ w).alloc (Nat.le_refl _) _, NMap.made w, Nat.le_refl _, by simp⟩
  have h0 := h.below' hB0
  have hs0 : NM W0 ms ns now := hs.kept (hB0.block ms hs.lt)
  have t0 := h0.top
  have b0 := h.top.c2
  have c0 := t0.c0
  have c1 := t0.c1
  have c2 := t0.c2
  have c4 := t0.c4
  have c5 := t0.c5
  have f0 := t0.fz 0
  have f2 := t0.fz 2
  have f4 := t0.fz 4
  have f5 := t0.fz 5
  have t1 : Top (W0.setCell ⟨d, 0, none⟩ (.map (some m0))) d m0 ms (.slice none 0 0) room := block_setCell t0 _
  have t2 : Top ((W0.setCell ⟨d, 0, none⟩ (.map (some m0))).setCell ⟨d, 2, none⟩ (.slice none 0 0)) d m0 ms (.slice none 0 0) room := block_setCell t1 _
  have t3 : Top (((W0.setCell ⟨d, 0, none⟩ (.map (some m0))).setCell ⟨d, 2, none⟩ (.slice none 0 0)).setCell ⟨d, 4, none⟩ (.int .i64 0)) d m0 ms (.slice none 0 0) room := block_setCell t2 _
  have t4 : Top ((((W0.setCell ⟨d, 0, none⟩ (.map (some m0))).setCell ⟨d, 2, none⟩ (.slice none 0 0)).setCell ⟨d, 4, none⟩ (.int .i64 0)).setCell ⟨d, 5, none⟩ (.int .i64 0)) d m0 ms (.slice none 0 0) room := block_setCell t3 _
  have s4 : NM ((((W0.setCell ⟨d, 0, none⟩ (.map (some m0))).setCell ⟨d, 2, none⟩ (.slice none 0 0)).setCell ⟨d, 4, none⟩ (.int .i64 0)).setCell ⟨d, 5, none⟩ (.int .i64 0)) ms ns now := (((hs0.setCell hdm _).setCell hdm _).setCell hdm _).setCell hdm _
  have hR : ((((W0.setCell ⟨d, 0, none⟩ (.map (some m0))).setCell ⟨d, 2, none⟩ (.slice none 0 0)).setCell ⟨d, 4, none⟩ (.int .i64 0)).setCell ⟨d, 5, none⟩ (.int .i64 0)).heap.size = m0 + 1 := by simpa using hW0
  have hm0d : m0 ≠ d := by have := h.top.lt; omega
  have hm0s : m0 ≠ ms := by have := hs.lt; omega
  have n4 : NM ((((W0.setCell ⟨d, 0, none⟩ (.map (some m0))).setCell ⟨d, 2, none⟩ (.slice none 0 0)).setCell ⟨d, 4, none⟩ (.int .i64 0)).setCell ⟨d, 5, none⟩ (.int .i64 0)) m0 0 (fun _ => none) := (((hm0.setCell hm0d _).setCell hm0d _).setCell hm0d _).setCell hm0d _
  have hk4 : Kept K w ((((W0.setCell ⟨d, 0, none⟩ (.map (some m0))).setCell ⟨d, 2, none⟩ (.slice none 0 0)).setCell ⟨d, 4, none⟩ (.int .i64 0)).setCell ⟨d, 5, none⟩ (.int .i64 0)) := ((((Kept.of_below hB0).setCell h.kd _).setCell h.kd _).setCell h.kd _).setCell h.kd _
  have hnodes4 : ∀ s b, now s = some b → ∃ l, F s = some l ∧ NodeAt ((((W0.setCell ⟨d, 0, none⟩ (.map (some m0))).setCell ⟨d, 2, none⟩ (.slice none 0 0)).setCell ⟨d, 4, none⟩ (.int .i64 0)).setCell ⟨d, 5, none⟩ (.int .i64 0)) b l := by
    intro s b hb
    obtain ⟨l, e1, e2⟩ := h0.node s b hb
    have hst : ∀ (g : Nat) (cs : Array Value) (t : TypeId) (fr : Nat × Nat), W0.heap[g]? = some (.cells cs t fr) → t ≠ 154 → ((((W0.setCell ⟨d, 0, none⟩ (.map (some m0))).setCell ⟨d, 2, none⟩ (.slice none 0 0)).setCell ⟨d, 4, none⟩ (.int .i64 0)).setCell ⟨d, 5, none⟩ (.int .i64 0)).heap[g]? = W0.heap[g]? := by
      intro g cs t fr hg h1
      have hgd : g ≠ d := by
        rintro rfl
        have := t0; unfold Top at this; rw [this] at hg; cases hg; exact h1 rfl
      rw [Below.heap_setCell _ _ _ _ hgd, Below.heap_setCell _ _ _ _ hgd, Below.heap_setCell _ _ _ _ hgd, Below.heap_setCell _ _ _ _ hgd]
    have e2' := e2
    obtain ⟨_, u, hbu, _⟩ := e2'
    exact ⟨l, e1, e2.kept (hst b _ _ _ hbu (by decide)) (fun g hg => by obtain ⟨cs, e⟩ := hg; exact hst g _ _ _ e (by decide))⟩
  go_enter Tryz.func36, Tryz.ntmps36
  go_wp2
  refine wp_loop_rounds 1 ?_
  rw [rounds_succ]
  go_wp2_with (first | (at_range; refine wp_range _ rfl _ 151 rfl 9 150 Tryz.strK Tryz.underlying151 ms _ _ rfl s4 ?_; intro w0 cnt0 hc0 hr0 hg0 hs0))
  rw [hR] at hr0 ⊢
  go_frame
  have hsz0 : m0 + 1 < w0.heap.size := by rw [hs0, hR]; omega
  have hT0 : Top w0 d m0 ms (.slice none 0 0) room := t4.kept (hg0.block d t4.lt (by simp))
  have hM0 : NM w0 m0 0 (fun _ => none) := n4.kept (hg0.block m0 n4.lt (by simp))
  have hK0 : Kept K w w0 := hk4.grown hg0 (fun _ e => by cases e)
  have hN0 : ∀ s b, now s = some b → ∃ l, F s = some l ∧ NodeAt w0 b l := by
    intro s b hb
    obtain ⟨l, e1, e2⟩ := hnodes4 s b hb
    exact ⟨l, e1, e2.kept (hg0.block b e2.lt (by simp)) (fun g hg => by obtain ⟨cs, e⟩ := hg; exact hg0.block g (Array.getElem?_eq_some_iff.1 e).1 (by simp))⟩
  clear hs0 hg0 hnodes4 hk4 n4 s4 t4 t3 t2 t1 f0 f2 f4 f5 c0 c1 c2 c4 c5 b0 hR hW0 hmm hm0 t0 hB0 h0
  have hns' : ns ≤ c := by simpa using hns
  go_loopw [9] (fun _ wr => ∃ (left : Name → Bool) (cnt nn : Nat) (nowp : Names), NRange Tryz.prog 9 wr ms (m0 + 1) ns now left cnt ∧ NM wr m0 nn nowp ∧ nn + cnt ≤ c ∧ (∀ s, nowp s = if left s then none else now s) ∧ Top wr d m0 ms (.slice none 0 0) room ∧
      (∀ s b, now s = some b → ∃ l, F s = some l ∧ NodeAt wr b l) ∧ Kept K w wr ∧ m0 + 1 < wr.heap.size) (fun _ wr => wr.rangeLeft ms (m0 + 1))
  case atStart => exact ⟨_, cnt0, 0, _, hr0, hM0, by omega, fun s => by cases hn : now s <;> simp, hT0, hN0, hK0, hsz0⟩
  case round =>
    obtain ⟨left, cnt, nn, nowp, hrg, hM, hcnt, hnp, hT, hN, hK, hsz⟩ := hrel
    go_wp2_with (first | (at_next; refine wp_next _ rfl _ rfl 9 Tryz.strK ms (m0 + 1) ns now left cnt rfl hrg ?_ ?_))
    · intro _ hl0
      have hnow : nowp = now := funext fun s => by rw [hnp s, hl0 s]; simp
      rw [hnow] at hM
      go_wp2
      go_end0
      refine ⟨rfl, ⟨m0, ms, now, room, hT, hM.mono (by omega), ⟨ns, by simpa using hns, hrg.map⟩, hm0s, ⟨[], World.ownsRow_nil _ _ _ _, .nil⟩, by simp, rfl, hN, h.no, h.inj, h.kd, fun hk => ?_, h.ks, h.kb, fun _ e => (by cases e), fun k hk => Nat.lt_of_lt_of_le (h.bd k hk) hK.size⟩, hK⟩
      have := h.bd _ hk; omega
    · intro x bx w1 cnt1 hx hlx hmx hrg1 hlt hg1 hs1 hen
      obtain ⟨lx, hFx, hnx⟩ := hN x bx hmx
      have hrne : ∀ (g : Nat) (cs : Array Value) (t : TypeId) (fr : Nat × Nat), wr.heap[g]? = some (.cells cs t fr) → w1.heap[g]? = wr.heap[g]? := fun g cs t fr hg => hg1.block g (Array.getElem?_eq_some_iff.1 hg).1 (fun e => by cases e; exact nrange_iter hrg hg)
      have hnk : ∀ {b : Nat} {l : List UInt8}, NodeAt wr b l → NodeAt w1 b l := by
        intro b l hn
        have hn' := hn
        obtain ⟨_, u, hbu, _⟩ := hn'
        exact hn.kept (hrne b _ _ _ hbu) (fun g hg => by obtain ⟨cs, e⟩ := hg; exact hrne g _ _ _ e)
      have hnx1 := hnk hnx
      obtain ⟨hll, vx, hbx, hox⟩ := hnx1
      obtain ⟨ax, capx, rfl⟩ := hox.sl
      have q0 : w1.cell? ⟨bx, 0, none⟩ = some (.slice ax lx.length capx) := by rw [cell_of_block hbx]; rfl
      have q1 : w1.cell? ⟨bx, 1, none⟩ = some (.int .i64 (lx.length : Int)) := by rw [cell_of_block hbx]; rfl
      have g0 := unfrozen_of_block hbx 0
      have g1 := unfrozen_of_block hbx 1
      have hcx : lx.length ≤ capx := by
        obtain ⟨_, _, ⟨e, h0⟩ | ⟨g, cap, cur, e, _, _, h3, _⟩⟩ := hox
        · rw [h0]; exact Nat.zero_le _
        · cases e; exact h3
      have hw1 : IntKind.i64.wrap ((lx.length : Int) + 0) = (lx.length : Int) := by rw [IntKind.wrap_i64]; omega
      have hw2 : IntKind.i64.wrap (lx.length : Int) = (lx.length : Int) := by rw [IntKind.wrap_i64]; omega
      have hw3 : (0 : Int) ≤ (lx.length : Int) := by omega
      have hw4 : (lx.length : Int) ≤ (capx : Int) := by omega
      have S' : ∀ q, ((w1.drewN q).setCell ⟨bx, 0, none⟩ (.slice ax lx.length capx)).cell? ⟨bx, 0, none⟩ = some (.slice ax lx.length capx) ∧ ((w1.drewN q).setCell ⟨bx, 0, none⟩ (.slice ax lx.length capx)).cell? ⟨bx, 1, none⟩ = some (.int .i64 (lx.length : Int)) ∧ ((w1.drewN q).setCell ⟨bx, 0, none⟩ (.slice ax lx.length capx)).frozen? ⟨bx, 0, none⟩ = false := fun q => by
        have hbq : ((w1.drewN q).setCell ⟨bx, 0, none⟩ (.slice ax lx.length capx)).heap[bx]? = some (.cells #[.slice ax lx.length capx, .int .i64 (lx.length : Int)] 156) := block_setCell (w := w1.drewN q) (i := 0) hbx _
        exact ⟨by rw [cell_of_block hbq]; rfl, by rw [cell_of_block hbq]; rfl, unfrozen_of_block hbq 0⟩
      clear hs1
      go_wp2
      go_quiet (fail)
      go_upto_region 12 with fail
      go_region_held3 (fun W => W.cell? ⟨bx, 0, none⟩ = some (.slice ax lx.length capx) ∧ W.cell? ⟨bx, 1, none⟩ = some (.int .i64 (lx.length : Int)) ∧ W.frozen? ⟨bx, 0, none⟩ = false) (first | exact ⟨q0, q1, g0⟩ | exact S' _ | go_keep) (fail)
      have hgx : w1.grownBy ((w1.drewN (nq + 1)).setCell ⟨bx, 0, none⟩ (.slice ax lx.length capx)) (some bx) := ⟨rfl, rfl, rfl, by simp, fun k _ hk => Below.heap_setCell _ _ _ _ (fun e => hk (by rw [e]))⟩
      have hb2 : ((w1.drewN (nq + 1)).setCell ⟨bx, 0, none⟩ (.slice ax lx.length capx)).heap[bx]? = some (.cells #[.slice ax lx.length capx, .int .i64 (lx.length : Int)] 156) := block_setCell (w := w1.drewN (nq + 1)) (i := 0) hbx _
      generalize ((w1.drewN (nq + 1)).setCell ⟨bx, 0, none⟩ (.slice ax lx.length capx)) = w2 at hgx hb2 ⊢
      clear S' q0 q1 g0 g1
      have q0 : w2.cell? ⟨bx, 0, none⟩ = some (.slice ax lx.length capx) := by rw [cell_of_block hb2]; rfl
      have q1 : w2.cell? ⟨bx, 1, none⟩ = some (.int .i64 (lx.length : Int)) := by rw [cell_of_block hb2]; rfl
      have g1 := unfrozen_of_block hb2 1
      have hb3 : (w2.setCell ⟨bx, 1, none⟩ (.int .i64 (lx.length : Int))).heap[bx]? = some (.cells #[.slice ax lx.length capx, .int .i64 (lx.length : Int)] 156) := block_setCell (i := 1) hb2 _
      have hg3 : w1.grownBy (w2.setCell ⟨bx, 1, none⟩ (.int .i64 (lx.length : Int))) (some bx) := grown_trans hgx (grown_setCell _ _ _)
      have hrest : ∀ (g : Nat), g < w1.heap.size → (w2.setCell ⟨bx, 1, none⟩ (.int .i64 (lx.length : Int))).heap[g]? = w1.heap[g]? := by
        intro g hg
        by_cases e : g = bx
        · rw [e, hb3, hbx]
        · exact hg3.block g hg (by simpa using e)
      have hT1 : Top w1 d m0 ms (.slice none 0 0) room := hT.kept (hrne d _ _ _ hT)
      have hM1 : NM w1 m0 nn nowp := hM.kept (hg1.block m0 hM.lt (by simp))
      have hT3 : Top (w2.setCell ⟨bx, 1, none⟩ (.int .i64 (lx.length : Int))) d m0 ms (.slice none 0 0) room := hT1.kept (hrest d hT1.lt)
      have r0 := hT3.c0
      have hM3 : NM (w2.setCell ⟨bx, 1, none⟩ (.int .i64 (lx.length : Int))) m0 nn nowp := hM1.kept (hrest m0 hM1.lt)
      have hrg3 : NRange Tryz.prog 9 (w2.setCell ⟨bx, 1, none⟩ (.int .i64 (lx.length : Int))) ms (m0 + 1) ns now (fun s => left s && !decide (s = x)) cnt1 := hrg1.kept (hrest ms hrg1.map.lt) (hrest _ (nrange_lt hrg1))
      have hN3 : ∀ s b, now s = some b → ∃ l, F s = some l ∧ NodeAt (w2.setCell ⟨bx, 1, none⟩ (.int .i64 (lx.length : Int))) b l := by
        intro s b hb
        obtain ⟨l, e1, e2⟩ := hN s b hb
        have e3 := hnk e2
        exact ⟨l, e1, e3.kept (hrest b e3.lt) (fun g hg => by obtain ⟨cs, e⟩ := hg; exact hrest g (Array.getElem?_eq_some_iff.1 e).1)⟩
      have hK3 : Kept K w (w2.setCell ⟨bx, 1, none⟩ (.int .i64 (lx.length : Int))) := (hK.grown hg1 (fun k e hk => by cases e; have := h.bd _ hk; omega)).grown hg3 (fun k e => by cases e; exact h.kb x bx hmx)
      have hsz3 : m0 + 1 < (w2.setCell ⟨bx, 1, none⟩ (.int .i64 (lx.length : Int))).heap.size := Nat.lt_of_lt_of_le (Nat.lt_of_lt_of_le hsz hg1.size) hg3.size
      have hnn : nn < maxLen := by unfold maxLen; omega
      clear hg3 hgx hrest hnk hrne hT1 hM1 hK hN hb2 hb3 hbx hox
      go_wp2_with (first | (at_mapUpdate; refine wp_store _ rfl _ _ _ 151 rfl 9 150 Tryz.strK Tryz.underlying151 m0 _ _ rfl hM3 hnn x bx rfl hx rfl ?_; intro w4 hM4 hg4))
      go_frame
      have hrg4 : NRange Tryz.prog 9 w4 ms (m0 + 1) ns now (fun s => left s && !decide (s = x)) cnt1 := hrg3.kept (hg4.block ms hrg3.map.lt (by simpa using Ne.symm hm0s)) (hg4.block _ (nrange_lt hrg3) (by simp))
      have hst4 : ∀ (g : Nat) (cs : Array Value) (t : TypeId) (fr : Nat × Nat), (w2.setCell ⟨bx, 1, none⟩ (.int .i64 (lx.length : Int))).heap[g]? = some (.cells cs t fr) → w4.heap[g]? = (w2.setCell ⟨bx, 1, none⟩ (.int .i64 (lx.length : Int))).heap[g]? := fun g cs t fr hg => hg4.block g (Array.getElem?_eq_some_iff.1 hg).1 (fun e => by cases e; exact hM3.not_cells hg)
      have hT4 : Top w4 d m0 ms (.slice none 0 0) room := hT3.kept (hst4 d _ _ _ hT3)
      have hN4 : ∀ s b, now s = some b → ∃ l, F s = some l ∧ NodeAt w4 b l := by
        intro s b hb
        obtain ⟨l, e1, e2⟩ := hN3 s b hb
        have e2' := e2
        obtain ⟨_, u, hbu, _⟩ := e2'
        exact ⟨l, e1, e2.kept (hst4 b _ _ _ hbu) (fun g hg => by obtain ⟨cs, e⟩ := hg; exact hst4 g _ _ _ e)⟩
      have hK4 : Kept K w w4 := hK3.grown hg4 (fun k e hk => by cases e; have := h.bd _ hk; omega)
      have hsz4 : m0 + 1 < w4.heap.size := Nat.lt_of_lt_of_le hsz3 hg4.size
      clear hg4 hst4 hM3 hT3 hN3 hK3 hrg3 hg1 hrg1
      go_wp2
      go_roundw
      case rel =>
        refine ⟨_, cnt1, nn + 1, _, hrg4, hM4, by omega, fun s => ?_, hT4, hN4, hK4, hsz4⟩
        by_cases hsx : s = x
        · subst hsx; simp [Names.set, hmx]
        · simp [Names.set, hsx, hnp s]
      case measure => rw [hrg4.left_eq, hrg.left_eq]; omega
end Go.Proofs.YtakjpgjcfecfiaaGreatDoor
