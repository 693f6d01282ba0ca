import Derived.Test.YtakjpgjcfecfiaaGreatDoorDiskL
/- Size, ReadAt: a file's bytes. -/
namespace Go.Proofs.YtakjpgjcfecfiaaGreatDoor
open Go.RowKit Go.Maps Go.Joins

set_option maxHeartbeats 400000 in
theorem size_any (w : World) (d mn ms c b : Nat) (mv : Value) (room : Int) (now : Names) (s : Name) (l : List UInt8) (ht : Top w d mn ms mv room) (hm : NM w mn c now) (hs : s.length ≤ maxLen) (hb : now s = some b) (hn : NodeAt w b l) :
    Calls Tryz.prog 55 #[.pointer (some ⟨d, 0, none⟩), .string ⟨s.toArray⟩] w fun e w' => e = .returned (.tuple #[.int .i64 (l.length : Int), .nilIface]) ∧ w' = w := by
  have cf := find_some w d mn ms c b mv room now s ht hm hs hb
  obtain ⟨a, cap, n0, _⟩ := hn.cell
  go_enter Tryz.func55, Tryz.ntmps55
  go_wp2_with (first | (go_at_call 87; refine cf.mono ?_; rintro e w' ⟨rfl, hw'⟩; rw [hw']; clear hw'))
  go_ret2
  exact ⟨rfl, rfl⟩

/-- append onto an empty slice of the call's own -/
theorem app_empty_bytes (w : World) {ops : Array Oper} {rest : List Oper} {o : Oper} {a : Act} {Q : Exit → Act → World → Prop} (hgd : o.guard = none)
    (s x : Operand) (ho : o.op = Op.call { callee := Callee.builtin Builtin.append, args := #[s, x], argTypes := #[25, 25] })
    (base : Nat) (v : Value) (hs : a.eval s = v) (hown : Own w base v 0 []) (hbase : base ≤ w.heap.size) (ad : Addr) (n ci : Nat) (l : List UInt8) (hx : a.eval x = .slice (some ad) n ci) (hl : l.length = n) (hb : Bs w (some ad) l) (hsz : n ≤ 1000000)
    (h : ∀ v' w', Own w' base v' n l → Below base w w' → wpList Tryz.prog ops Q rest (a.put o.dst v') w') :
    wpList Tryz.prog ops Q (o :: rest) a w := by
  refine app_own w hgd s x ho base 0 _ [] hs hown ad n ci l hx hl ?_ (by omega) hbase ?_
  · intro j hj
    obtain ⟨b, off, e, hc⟩ := hb j (by omega)
    cases e
    rw [Addr.add_lit]; exact hc
  · intro v' w' h1 _ h2
    exact h v' w' (by simpa using h1) h2

set_option maxHeartbeats 400000 in
theorem clone_any (a : Option Addr) (n cap : Nat) (l : List UInt8) (w : World) (hl : l.length = n) (hn : n ≤ 1000000) (hb : Bs w a l) (hnil : a = none → n = 0 ∧ cap = 0) :
    Calls Tryz.prog 80 #[.slice a n cap] w fun e w' => ∃ v, e = .returned v ∧ Own w' w.heap.size v n l ∧ Below w.heap.size w w' := by
  cases a with
  | none =>
    obtain ⟨rfl, rfl⟩ := hnil rfl
    obtain rfl : l = [] := List.eq_nil_of_length_eq_zero hl
    have heq := fun W => Lib.run_eql_slice_nil (P := Tryz.prog) W 25 5 none 0 0 0 0 Tryz.underlying25
    go_enter Tryz.func80, Tryz.ntmps80
    go_wp2
    go_ret
    exact ⟨_, rfl, Own.nil _ _, Below.refl _ _⟩
  | some ad =>
    have heq := fun W => Lib.run_eql_slice_nil (P := Tryz.prog) W 25 5 (some ad) n cap 0 0 Tryz.underlying25
    have ho : Own (w.alloc (.cells #[] 5)) w.heap.size (.slice (some ⟨w.heap.size, 0, none⟩) 0 0) 0 [] := ⟨rfl, rfl, .inr ⟨w.heap.size, 0, #[], rfl, Nat.le_refl _, (MapKept.heap_alloc w _).1, Nat.le_refl _, by decide, rfl, rfl⟩⟩
    have hB : Below w.heap.size w (w.alloc (.cells #[] 5)) := (Below.refl _ w).alloc (Nat.le_refl _) _
    have hb2 := hb.stay hB
    go_enter Tryz.func80, Tryz.ntmps80
    go_wp2_with (first | (at_builtin; refine app_empty_bytes _ rfl _ _ rfl w.heap.size _ rfl ho (by simp) ad n cap l rfl hl hb2 hn ?_; intro v' w' ho' hB'))
    go_ret
    exact ⟨_, rfl, ho', hB.trans hB'⟩

set_option maxRecDepth 100000 in
set_option maxHeartbeats 1000000 in
theorem readAt_all (w : World) (d mn ms c b : Nat) (mv : Value) (room z : Int) (now : Names) (s : Name) (l : List UInt8) (ht : Top w d mn ms mv room) (hm : NM w mn c now) (hs : s.length ≤ maxLen) (hb : now s = some b) (hn : NodeAt w b l) (hz : (l.length : Int) ≤ z) :
    Calls Tryz.prog 56 #[.pointer (some ⟨d, 0, none⟩), .string ⟨s.toArray⟩, .int .i64 0, .int .i64 z] w fun e w' => ∃ v, e = .returned (.tuple #[v, .nilIface]) ∧ Own w' w.heap.size v l.length l ∧ Below w.heap.size w w' := by
  have cf := find_some w d mn ms c b mv room now s ht hm hs hb
  obtain ⟨a, cap, n0, _, hbs, hnil, hlc, hcm⟩ := hn.cell
  have hll := hn.1
  go_enter Tryz.func56, Tryz.ntmps56
  go_wp2_with (first | (go_at_call 87; refine cf.mono ?_; rintro e w' ⟨rfl, hw'⟩; rw [hw']; clear hw'))
  · refine (clone_any a _ cap l w rfl hll hbs hnil).mono ?_
    rintro e w1 ⟨v, rfl, ho, hB⟩
    go_wp2
    go_ret2
    exact ⟨_, rfl, ho, hB⟩
  · rename_i hz2
    obtain rfl : z = (l.length : Int) := by omega
    refine (clone_any a _ cap l w rfl hll hbs hnil).mono ?_
    rintro e w1 ⟨v, rfl, ho, hB⟩
    go_wp2
    go_ret2
    exact ⟨_, rfl, ho, hB⟩
end Go.Proofs.YtakjpgjcfecfiaaGreatDoor
