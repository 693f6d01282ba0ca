import Derived.Test.YtakjpgjcfecfiaaGreatDoorDiskS
/- Append onto an empty file; Sync. -/
namespace Go.Proofs.YtakjpgjcfecfiaaGreatDoor
open Go.RowKit Go.Maps Go.Joins

theorem Bs.stay {w w' : World} {a : Option Addr} {l : List UInt8} (h : Bs w a l) (hb : Below w.heap.size w w') : Bs w' a l := by
  intro i hi
  obtain ⟨b, o, e, hc⟩ := h i hi
  have hlt : b < w.heap.size := by
    rcases Nat.lt_or_ge b w.heap.size with h1 | h1
    · exact h1
    · simp [World.cell?, Array.getElem?_eq_none h1] at hc
  exact ⟨b, o, e, (hb.cell (p := ⟨b, o + i, none⟩) hlt).trans hc⟩

theorem Own.sl {w : World} {base n : Nat} {v : Value} {l : List UInt8} (h : Own w base v n l) : ∃ a cap, v = .slice a n cap := by
  obtain ⟨_, _, ⟨rfl, h0⟩ | ⟨g, cap, cur, rfl, _⟩⟩ := h
  · exact ⟨none, 0, by rw [h0]⟩
  · exact ⟨_, cap, rfl⟩
theorem Own.aside {w w' : World} {base n b : Nat} {v : Value} {l : List UInt8} (h : Own w base v n l) (hg : w.grownBy w' (some b)) {cs : Array Value} {t : TypeId} (hb : w.heap[b]? = some (.cells cs t)) (ht : t ≠ 5) : Own w' base v n l := by
  refine ⟨h.1, h.2.kept hg (.inr fun e => ?_)⟩
  obtain ⟨cs', hb'⟩ := row_block h.2 e
  rw [hb] at hb'
  cases hb'
  exact ht rfl

/-- append(nil, x...) of bytes -/
theorem app_nil_bytes (w : World) {ops : Array Oper} {rest : List Oper} {o : Oper} {a : Act} {Q : Exit → Act → World → Prop} (hgd : o.guard = none)
    (s x : Operand) (ho : o.op = Op.call { callee := Callee.builtin Builtin.append, args := #[s, x], argTypes := #[25, 25] })
    (hs : a.eval s = .slice none 0 0) (ai : Option Addr) (n ci : Nat) (l : List UInt8) (hx : a.eval x = .slice ai n ci) (hl : l.length = n) (hb : Bs w ai l) (hnil : ai = none → n = 0 ∧ ci = 0) (hsz : n ≤ 1000000)
    (h : ∀ v' w', Own w' 0 v' n l → w.grownBy w' none → wpList Tryz.prog ops Q rest (a.put o.dst v') w') :
    wpList Tryz.prog ops Q (o :: rest) a w := by
  cases ai with
  | some ad =>
    refine app_own w hgd s x ho 0 0 _ [] hs (Own.nil _ _) ad n ci l hx hl ?_ (by omega) (Nat.zero_le _) ?_
    · intro j hj
      obtain ⟨b, off, e, hc⟩ := hb j (by omega)
      cases e
      rw [Addr.add_lit]; exact hc
    · intro v' w' h1 h2 _
      exact h v' w' (by simpa using h1) h2
  | none =>
    obtain ⟨rfl, rfl⟩ := hnil rfl
    obtain rfl : l = [] := List.eq_nil_of_length_eq_zero hl
    obtain ⟨i0, hi0, _, _, _⟩ := info_parts Tryz.info8
    have hrun := run_append_owned_none (P := Tryz.prog) w 0 25 o.type 5 i0 1 Tryz.underlying25 hi0 _ _ _ (World.ownsRow_nil w 0 5 1)
    refine wpList_plain hgd fun K hK => ?_
    unfold Oper.wp
    simp [execOp, ho, resolve, invoke, builtin, hs, hx, hrun, Result.andThen]
    exact hK _ _ (h _ w (Own.nil _ _) (grown_refl _ _))

/-- the slice of a file's bytes -/
theorem NodeAt.cell {w : World} {b : Nat} {l : List UInt8} (h : NodeAt w b l) : ∃ a cap, w.cell? ⟨b, 0, none⟩ = some (.slice a l.length cap) ∧ w.cell? ⟨b, 1, none⟩ = some (.int .i64 (l.length : Int)) ∧ Bs w a l ∧ (a = none → l.length = 0 ∧ cap = 0) ∧ l.length ≤ cap ∧ cap ≤ maxLen := by
  obtain ⟨hl, v, hb, hn, hx, ⟨rfl, h0⟩ | ⟨g, cap, cur, rfl, hbase, hg, h3, h4, h5⟩⟩ := h
  · have hl0 : l = [] := List.eq_nil_of_length_eq_zero h0
    subst hl0
    exact ⟨none, 0, by rw [cell_of_block hb]; rfl, by rw [cell_of_block hb]; rfl, fun i hi => by simp at hi, fun _ => ⟨rfl, rfl⟩, by simp, by simp⟩
  · refine ⟨some ⟨g, 0, none⟩, cap, by rw [cell_of_block hb]; rfl, by rw [cell_of_block hb]; rfl, ?_, fun e => (by cases e), h3, h4⟩
    have ho : Own w 0 (.slice (some ⟨g, 0, none⟩) l.length cap) l.length l := ⟨hn, hx, .inr ⟨g, cap, cur, rfl, hbase, hg, h3, h4, h5⟩⟩
    have := ho.bs 0 l.length (by omega)
    simpa using this

set_option maxRecDepth 100000 in
set_option maxHeartbeats 1000000 in
theorem append_any {w : World} {d c mn ms b : Nat} {K : Nat → Prop} {now safe : Names} {mv : Value} {L : List Steps} {room : Int} {F : Files} (h : DiskAt w d K c mn ms now safe mv L room F) (s : Name) (hs : s.length ≤ maxLen) (hb : now s = some b) (hF : w.heap[b]? = some (.cells #[.slice none 0 0, .int .i64 0] 156))
    (a : Option Addr) (n cap : Nat) (l : List UInt8) (hl : l.length = n) (hn : n ≤ 1000000) (hbs : Bs w a l) (hnil : a = none → n = 0 ∧ cap = 0) :
    Calls Tryz.prog 83 #[.pointer (some ⟨d, 0, none⟩), .string ⟨s.toArray⟩, .slice a n cap] w fun e w' =>
      (∃ p, e = .returned (fileErr p) ∧ Below w.heap.size w w') ∨
      (e = .returned .nilIface ∧ ∃ v', w'.heap[b]? = some (.cells #[v', .int .i64 0] 156) ∧ Own w' 0 v' n l ∧ w.grownBy w' (some b)) := by
  have cf := find_some w d mn ms c b mv room now s h.top h.mnow hs hb
  have ht := h.top
  have hm := h.mnow
  have c0 := ht.c0
  have c3 := ht.c3
  have hdl := ht.lt
  have hml := hm.lt
  have hbl : b < w.heap.size := (Array.getElem?_eq_some_iff.1 hF).1
  go_enter Tryz.func83, Tryz.ntmps83
  go_wp2_with (first | (go_at_call 87; refine cf.mono ?_; rintro e w' ⟨rfl, hw'⟩; rw [hw']; clear hw') | (at_range; refine wp_range _ rfl _ 151 rfl 9 150 Tryz.strK Tryz.underlying151 mn _ _ rfl hm ?_; intro w0 cnt0 hc0 hr0 hg0 hs0))
  go_frame
  clear hs0
  have hB0 : Below w.heap.size w w0 := ⟨hg0.os, hg0.tape, hg0.output, hg0.size, fun k hk => hg0.block k hk (by simp)⟩
  go_loopw [9] (fun u wr => ∃ (z : Int) (left : Name → Bool) (cnt : Nat), u = .int .i64 z ∧ NRange Tryz.prog 9 wr mn w.heap.size c now left cnt ∧ Below w.heap.size w wr) (fun _ wr => wr.rangeLeft mn w.heap.size)
  case atStart => exact ⟨0, _, _, rfl, hr0, hB0⟩
  case round =>
    obtain ⟨z, left, cnt, rfl, hrg, hB⟩ := hrel
    go_wp2_with (first | (at_next; refine wp_next _ rfl _ rfl 9 Tryz.strK mn w.heap.size c now left cnt rfl hrg ?_ ?_))
    · intro _ _
      have r3 : wr.cell? ⟨d, 3, none⟩ = some (.int .i64 room) := (hB.cell (p := ⟨d, 3, none⟩) hdl).trans c3
      have hFr : wr.heap[b]? = some (.cells #[.slice none 0 0, .int .i64 0] 156) := (hB.block b hbl).trans hF
      have nb : wr.cell? ⟨b, 0, none⟩ = some (.slice none 0 0) := by rw [cell_of_block hFr]; rfl
      have hbr := hbs.stay hB
      clear hbs hg0 hB0 hr0
      go_wp2_with (first | (at_builtin; refine app_nil_bytes _ rfl _ _ rfl rfl a n cap l rfl hl hbr hnil hn ?_; intro v' w1 ho1 hg1; obtain ⟨a1, cap1, rfl⟩ := ho1.sl; have hF1 := (hg1.block b (Nat.lt_of_lt_of_le hbl hB.size) (by simp)).trans hFr; have n1 : w1.cell? ⟨b, 0, none⟩ = some (.slice none 0 0) := (by rw [cell_of_block hF1]; rfl); have f1 := unfrozen_of_block hF1 0))
      · go_ret
        exact .inl ⟨_, rfl, hB.alloc hB.size _⟩
      · go_ret
        refine .inr ⟨rfl, _, block_setCell hF1 _, ?_, ?_⟩
        · exact ho1.aside (grown_setCell _ _ _) hF1 (by decide)
        · exact ⟨hg1.os.trans hB.os, hg1.tape.trans hB.tape, hg1.output.trans hB.output, Nat.le_trans hB.size (by simpa using hg1.size), fun k hk hne => by
            rw [Below.heap_setCell _ _ _ _ (fun e => hne (by rw [e])), hg1.block k (Nat.lt_of_lt_of_le hk hB.size) (by simp), hB.block k hk]⟩
    · intro x bx w1 cnt1 hx hlx hmx hrg1 hlt hg1 hs1 hen
      obtain ⟨lx, _, hnx⟩ := h.node x bx hmx
      obtain ⟨ax, capx, q0, _⟩ := hnx.cell
      have hB1 : Below w.heap.size w w1 := hB.grown hg1 (by have := hB.size; omega) (fun k hk => by cases hk; omega)
      have q1 : w1.cell? ⟨bx, 0, none⟩ = some (.slice ax lx.length capx) := (hB1.cell (p := ⟨bx, 0, none⟩) hnx.lt).trans q0
      clear hs1
      go_wp2
      go_roundw
      case rel => exact ⟨_, _, _, rfl, hrg1, hB1⟩
      case measure => rw [hrg1.left_eq, hrg.left_eq]; omega

set_option maxHeartbeats 400000 in
theorem sync_any (w : World) (d mn ms c b n cap : Nat) (mv : Value) (room z : Int) (now : Names) (s : Name) (a : Option Addr) (ht : Top w d mn ms mv room) (hm : NM w mn c now) (hs : s.length ≤ maxLen) (hb : now s = some b)
    (hF : w.heap[b]? = some (.cells #[.slice a n cap, .int .i64 z] 156)) :
    Calls Tryz.prog 84 #[.pointer (some ⟨d, 0, none⟩), .string ⟨s.toArray⟩] w fun e w' => e = .returned .nilIface ∧ w' = w.setCell ⟨b, 1, none⟩ (.int .i64 (n : Int)) := by
  have cf := find_some w d mn ms c b mv room now s ht hm hs hb
  have n0 : w.cell? ⟨b, 0, none⟩ = some (.slice a n cap) := by rw [cell_of_block hF]; rfl
  have n1 : w.cell? ⟨b, 1, none⟩ = some (.int .i64 z) := by rw [cell_of_block hF]; rfl
  have f1 := unfrozen_of_block hF 1
  clear hF
  go_enter Tryz.func84, Tryz.ntmps84
  go_wp2_with (first | (go_at_call 87; refine cf.mono ?_; rintro e w' ⟨rfl, hw'⟩; rw [hw']; clear hw'))
  go_ret
  exact ⟨rfl, rfl⟩
end Go.Proofs.YtakjpgjcfecfiaaGreatDoor
