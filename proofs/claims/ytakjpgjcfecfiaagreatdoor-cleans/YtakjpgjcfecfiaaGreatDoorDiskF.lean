import Derived.Test.YtakjpgjcfecfiaaGreatDoorDiskM
/- fails, find. -/
namespace Go.Proofs.YtakjpgjcfecfiaaGreatDoor
open Go.RowKit Go.Maps Go.Joins

abbrev NM (w : World) (mb n : Nat) (m : Names) : Prop := NMap Tryz.prog 9 w mb n m
/-- the disk's own cells; no operation fails -/
def Top (w : World) (d mn ms : Nat) (mv : Value) (room : Int) : Prop :=
  w.heap[d]? = some (.cells #[.map (some mn), .map (some ms), mv, .int .i64 room, .int .i64 0, .int .i64 0] 154)
section
variable {w : World} {d mn ms : Nat} {mv : Value} {room : Int}
theorem Top.c0 (h : Top w d mn ms mv room) : w.cell? ⟨d, 0, none⟩ = some (.map (some mn)) := by rw [cell_of_block h]; rfl
theorem Top.c1 (h : Top w d mn ms mv room) : w.cell? ⟨d, 1, none⟩ = some (.map (some ms)) := by rw [cell_of_block h]; rfl
theorem Top.c2 (h : Top w d mn ms mv room) : w.cell? ⟨d, 2, none⟩ = some mv := by rw [cell_of_block h]; rfl
theorem Top.c3 (h : Top w d mn ms mv room) : w.cell? ⟨d, 3, none⟩ = some (.int .i64 room) := by rw [cell_of_block h]; rfl
theorem Top.c4 (h : Top w d mn ms mv room) : w.cell? ⟨d, 4, none⟩ = some (.int .i64 0) := by rw [cell_of_block h]; rfl
theorem Top.c5 (h : Top w d mn ms mv room) : w.cell? ⟨d, 5, none⟩ = some (.int .i64 0) := by rw [cell_of_block h]; rfl
theorem Top.fz (h : Top w d mn ms mv room) (i : Nat) : w.frozen? ⟨d, i, none⟩ = false := unfrozen_of_block h i
theorem Top.lt (h : Top w d mn ms mv room) : d < w.heap.size := (Array.getElem?_eq_some_iff.1 h).1
theorem Top.kept {w' : World} (h : Top w d mn ms mv room) (e : w'.heap[d]? = w.heap[d]?) : Top w' d mn ms mv room := e.trans h
end

set_option maxHeartbeats 400000 in
theorem fails_any (w : World) (d : Nat) (c4 : w.cell? ⟨d, 4, none⟩ = some (.int .i64 0)) (c5 : w.cell? ⟨d, 5, none⟩ = some (.int .i64 0)) :
    Calls Tryz.prog 85 #[.pointer (some ⟨d, 0, none⟩)] w fun e w' => e = .returned (.bool false) ∧ w' = w := by
  go_enter Tryz.func85, Tryz.ntmps85
  go_wp2
  go_ret
  exact ⟨rfl, rfl⟩

/-- an error at a file -/
def fileErr (p : Nat) : Value := .iface 144 (.pointer (some ⟨p, 0, none⟩))
def errObj (s : Name) (n : Int) : Obj := .cells #[.string ⟨s.toArray⟩, .int .i64 n] 148

set_option maxHeartbeats 400000 in
theorem find_some (w : World) (d mn ms n b : Nat) (mv : Value) (room : Int) (m : Names) (s : Name) (ht : Top w d mn ms mv room) (hm : NM w mn n m) (hs : s.length ≤ maxLen) (hb : m s = some b) :
    Calls Tryz.prog 87 #[.pointer (some ⟨d, 0, none⟩), .string ⟨s.toArray⟩] w fun e w' => e = .returned (.tuple #[.pointer (some ⟨b, 0, none⟩), .nilIface]) ∧ w' = w := by
  have c0 := ht.c0
  have cf := fails_any w d ht.c4 ht.c5
  have e1 : ptr (m s) = .pointer (some ⟨b, 0, none⟩) := by rw [hb]; rfl
  go_enter Tryz.func87, Tryz.ntmps87
  go_wp2_with (first | (at_lookup; refine wp_look _ rfl _ _ 151 rfl 9 150 Tryz.strK Tryz.underlying151 Tryz.zeroNode mn _ _ rfl hm s rfl hs ?_; rw [e1]) | (go_at_call 85; refine cf.mono ?_; rintro e w' ⟨rfl, rfl⟩))
  go_ret2
  exact ⟨rfl, rfl⟩

set_option maxHeartbeats 400000 in
theorem find_none (w : World) (d mn ms n : Nat) (mv : Value) (room : Int) (m : Names) (s : Name) (ht : Top w d mn ms mv room) (hm : NM w mn n m) (hs : s.length ≤ maxLen) (hb : m s = none) :
    Calls Tryz.prog 87 #[.pointer (some ⟨d, 0, none⟩), .string ⟨s.toArray⟩] w fun e w' => e = .returned (.tuple #[.pointer none, fileErr w.heap.size]) ∧ w' = w.alloc (errObj s 11) := by
  have c0 := ht.c0
  have cf := fails_any w d ht.c4 ht.c5
  have e1 : ptr (m s) = .pointer none := by rw [hb]; rfl
  go_enter Tryz.func87, Tryz.ntmps87
  go_wp2_with (first | (at_lookup; refine wp_look _ rfl _ _ 151 rfl 9 150 Tryz.strK Tryz.underlying151 Tryz.zeroNode mn _ _ rfl hm s rfl hs ?_; rw [e1]) | (go_at_call 85; refine cf.mono ?_; rintro e w' ⟨rfl, rfl⟩))
  go_ret2
  exact ⟨rfl, rfl⟩
end Go.Proofs.YtakjpgjcfecfiaaGreatDoor
