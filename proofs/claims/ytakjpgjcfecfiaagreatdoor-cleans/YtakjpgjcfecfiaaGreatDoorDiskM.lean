import Derived.Test.YtakjpgjcfecfiaaGreatDoorFixed
import Derived.Test.YtakjpgjcfecfiaaGreatDoorNMap
import Derived.Lib.SmallJoins
/- The disk in memory: what its blocks hold; set, fails. -/
namespace Go.Proofs.YtakjpgjcfecfiaaGreatDoor
open Go.RowKit Go.Maps Go.Joins

theorem Tryz.strK : Tryz.prog.underlying 9 = some .string := Tryz.underlying9
theorem Tryz.zeroNode (w : World) : (zeroValue 150).run Tryz.prog w = .ok (.pointer none) w := by kernel_rfl

/-- all but what is not protected may have turned -/
structure Kept (K : Nat → Prop) (w w' : World) : Prop where
  os : w'.os = w.os
  tape : w'.tape = w.tape
  output : w'.output = w.output
  size : w.heap.size ≤ w'.heap.size
  block : ∀ k, K k → k < w.heap.size → w'.heap[k]? = w.heap[k]?
theorem Kept.refl (K : Nat → Prop) (w : World) : Kept K w w := ⟨rfl, rfl, rfl, Nat.le_refl _, fun _ _ _ => rfl⟩
theorem Kept.trans {K : Nat → Prop} {a b c : World} (h : Kept K a b) (k : Kept K b c) : Kept K a c :=
  ⟨k.os.trans h.os, k.tape.trans h.tape, k.output.trans h.output, Nat.le_trans h.size k.size, fun i hi hl => (k.block i hi (Nat.lt_of_lt_of_le hl h.size)).trans (h.block i hi hl)⟩
theorem Kept.of_grown {K : Nat → Prop} {a b : World} {r : Option Nat} (h : a.grownBy b r) (hr : ∀ k, r = some k → ¬ K k) : Kept K a b :=
  ⟨h.os, h.tape, h.output, h.size, fun k hk hl => h.block k hl (fun e => hr k e.symm hk)⟩
theorem Kept.of_below {K : Nat → Prop} {a b : World} (h : Below a.heap.size a b) : Kept K a b :=
  ⟨h.os, h.tape, h.output, h.size, fun k _ hl => h.block k hl⟩
theorem Kept.mono {K K' : Nat → Prop} {a b : World} (h : Kept K a b) (hk : ∀ k, K' k → K k) : Kept K' a b :=
  ⟨h.os, h.tape, h.output, h.size, fun k h1 h2 => h.block k (hk k h1) h2⟩
theorem Kept.setCell {K : Nat → Prop} {a b : World} (h : Kept K a b) {p : Addr} (hp : ¬ K p.block) (u : Value) : Kept K a (b.setCell p u) :=
  h.trans ⟨rfl, rfl, rfl, by simp, fun k hk _ => Below.heap_setCell _ _ _ _ (fun e => hp (e ▸ hk))⟩
theorem Kept.alloc {K : Nat → Prop} {a b : World} (h : Kept K a b) (o : Obj) : Kept K a (b.alloc o) :=
  h.trans (Kept.of_grown (World.grownBy_alloc b o none) (fun _ e => by cases e))
theorem Kept.drew {K : Nat → Prop} {a b : World} (h : Kept K a b) : Kept K a b.drew := ⟨h.os, h.tape, h.output, h.size, h.block⟩
theorem Kept.grown {K : Nat → Prop} {a b c : World} {r : Option Nat} (h : Kept K a b) (k : b.grownBy c r) (hr : ∀ k, r = some k → ¬ K k) : Kept K a c := h.trans (.of_grown k hr)
theorem Kept.below {K : Nat → Prop} {a b c : World} (h : Kept K a b) (k : Below b.heap.size b c) : Kept K a c := h.trans (.of_below k)

/-- steps of names -/
abbrev Steps := List (Name × Option Nat)
def replay (l : Steps) (m : Names) : Names := l.foldl (fun m p => m.set p.1 p.2) m
theorem replay_append (l k : Steps) (m : Names) : replay (l ++ k) m = replay k (replay l m) := by simp [replay, List.foldl_append]
theorem replay_snoc (l : Steps) (p : Name × Option Nat) (m : Names) : replay (l ++ [p]) m = (replay l m).set p.1 p.2 := by simp [replay, List.foldl_append]

/-- a slice of moves that holds these -/
def MoveRow (w : World) (v : Value) (l : Steps) : Prop :=
  ∃ g cap, v = .slice (some ⟨g, 0, none⟩) l.length cap ∧ w.heap[g]? = some (.cells (l.flatMap fun p => [encStr p.1, ptr p.2]).toArray 241) ∧ ∀ p ∈ l, p.1.length ≤ maxLen
theorem MoveRow.lt {w : World} {v : Value} {l : Steps} (h : MoveRow w v l) : ∃ g cap, v = .slice (some ⟨g, 0, none⟩) l.length cap ∧ g < w.heap.size := by
  obtain ⟨g, cap, rfl, hb, _⟩ := h
  exact ⟨g, cap, rfl, (Array.getElem?_eq_some_iff.1 hb).1⟩
theorem MoveRow.kept {w w' : World} {v : Value} {l : Steps} (h : MoveRow w v l) (hk : ∀ g : Nat, (∃ cs : Array Value, w.heap[g]? = some (Obj.cells cs 241)) → w'.heap[g]? = w.heap[g]?) : MoveRow w' v l := by
  obtain ⟨g, cap, rfl, hb, hs⟩ := h
  exact ⟨g, cap, rfl, (hk g ⟨_, hb⟩).trans hb, hs⟩
theorem flat_get : ∀ (l : Steps) (k : Nat), k < l.length → (l.flatMap fun p => [encStr p.1, ptr p.2])[2 * k]? = some (encStr (l.getD k ([], none)).1) ∧ (l.flatMap fun p => [encStr p.1, ptr p.2])[2 * k + 1]? = some (ptr (l.getD k ([], none)).2)
  | [], k, h => by simp at h
  | p :: l, 0, _ => by simp
  | p :: l, k + 1, h => by
    have := flat_get l k (by simp at h; omega)
    simp only [List.flatMap_cons]
    rw [show 2 * (k + 1) = 2 * k + 2 by omega, show 2 * k + 2 + 1 = (2 * k + 1) + 2 by omega]
    simpa using this

theorem take_snoc {α : Type} (l : List α) (k : Nat) (d : α) (h : k < l.length) : l.take (k + 1) = l.take k ++ [l.getD k d] := by
  rw [List.take_succ_eq_append_getElem h]; simp [h]

set_option maxRecDepth 100000 in
set_option maxHeartbeats 1000000 in
theorem set_any (v : Value) (l : Steps) (mb n : Nat) (m : Names) (w : World) (hv : MoveRow w v l) (hm : NMap Tryz.prog 9 w mb n m) (hn : n + l.length ≤ 1000000) :
    Calls Tryz.prog 75 #[.map (some mb), v] w fun e w' => e = .returned (.tuple #[]) ∧ NMap Tryz.prog 9 w' mb (n + l.length) (replay l m) ∧ w.grownBy w' (some mb) := by
  obtain ⟨g, cap, rfl, hb, hs⟩ := hv
  have hgm : g ≠ mb := by
    rintro rfl
    obtain ⟨D, ⟨es, c, h0, _⟩, _⟩ := hm
    rw [hb] at h0; cases h0
  go_enter Tryz.func75, Tryz.ntmps75
  go_wp2
  go_loopw [8] (fun i wr => ∃ k : Nat, k ≤ l.length ∧ i = .int .i64 k ∧ NMap Tryz.prog 9 wr mb (n + k) (replay (l.take k) m) ∧ w.grownBy wr (some mb)) (fun i _ => l.length - (intOf i).toNat)
  case atStart => exact ⟨0, Nat.zero_le _, rfl, by simpa [replay] using hm, grown_refl _ _⟩
  case round =>
    obtain ⟨k, hk, rfl, hmk, hg⟩ := hrel
    by_cases hlt : k < l.length
    · have hbk : wr.heap[g]? = some (.cells (l.flatMap fun p => [encStr p.1, ptr p.2]).toArray 241) := (hg.block g (Array.getElem?_eq_some_iff.1 hb).1 (by simpa using hgm)).trans hb
      have hf := flat_get l k hlt
      have c0 := cell_of_block hbk (k * 2)
      have c1 := cell_of_block hbk (k * 2 + 1)
      rw [Nat.mul_comm k 2] at c0 c1
      simp only [List.getElem?_toArray, hf.1, hf.2] at c0 c1
      rw [Nat.mul_comm 2 k] at c0 c1
      have hsl := hs _ (show l.getD k ([], none) ∈ l by rw [List.getD_eq_getElem?_getD]; simp [hlt])
      have htk := take_snoc l k ([], none) hlt
      generalize l.getD k ([], none) = p at c0 c1 hsl htk
      obtain ⟨s, o⟩ := p
      simp only at c0 c1 hsl
      have hm1 := hmk.alloc (.cells #[encStr s, ptr o] 241)
      have hg1 : w.grownBy (wr.alloc (.cells #[encStr s, ptr o] 241)) (some mb) := grown_trans hg (World.grownBy_alloc _ _ _)
      have hk1 : n + k < maxLen := by unfold maxLen; omega
      clear hf hbk hmk
      cases o with
      | none =>
        simp only [ptr] at c1 hm1 hg1
        go_wp2_with (first | (at_delete; refine wp_drop _ rfl _ _ 151 9 rfl 150 Tryz.strK Tryz.underlying151 mb _ _ rfl hm1 s rfl hsl ?_; intro w2 hm2 hg2))
        go_wp2
        go_roundw
        case rel => exact ⟨k + 1, by omega, by go_num, by rw [htk, replay_snoc]; exact hm2.mono (by omega), grown_trans hg1 hg2⟩
        case measure => simp [intOf]; omega
      | some b =>
        simp only [ptr] at c1 hm1 hg1
        go_wp2_with (first | (at_mapUpdate; refine wp_store _ rfl _ _ _ 151 rfl 9 150 Tryz.strK Tryz.underlying151 mb _ _ rfl hm1 hk1 s b rfl hsl rfl ?_; intro w2 hm2 hg2))
        go_wp2
        go_roundw
        case rel => exact ⟨k + 1, by omega, by go_num, by rw [htk, replay_snoc]; exact hm2.mono (by omega), grown_trans hg1 hg2⟩
        case measure => simp [intOf]; omega
    · go_wp2
      go_end0
      obtain rfl : k = l.length := by omega
      exact ⟨rfl, by simpa using hmk, hg⟩
end Go.Proofs.YtakjpgjcfecfiaaGreatDoor
