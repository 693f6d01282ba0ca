import Derived.Test.YtakjpgjcfecfiaaGreatDoorDiskL
import Derived.Test.YtakjpgjcfecfiaaGreatDoorShelf
import Derived.Sort.OwnSorted
/- List: the names, sorted. -/
namespace Go.Proofs.YtakjpgjcfecfiaaGreatDoor
open Go.RowKit Go.Maps Go.Joins Go.Sort

theorem Tryz.infoStr : (Tryz.prog.info? 9).map (fun i => (i.zero, i.size, i.bytes)) = some (some (.string ⟨#[]⟩), 1, 16) := by kernel_rfl

/-- the names that have a file, each once, in the order of their bytes -/
structure IsNames (now : Names) (l : List Name) : Prop where
  sorted : l.Pairwise (fun a b => leB a b = true)
  nodup : l.Nodup
  mem : ∀ s, s ∈ l ↔ (now s).isSome = true
theorem IsNames.eq {now now' : Names} {l l' : List Name} (h : IsNames now l) (h' : IsNames now' l') (e : ∀ s, (now s).isSome = (now' s).isSome) : l = l' := by
  refine List.Perm.eq_of_pairwise (le := fun a b => leB a b = true) (fun a b _ _ h1 h2 => ?_) h.sorted h'.sorted ((List.perm_ext_iff_of_nodup h.nodup h'.nodup).2 fun s => by rw [h.mem, h'.mem, e])
  simp only [leB, decide_eq_true_eq] at h1 h2
  exact List.le_antisymm h1 h2
theorem isNames_sort {now : Names} {l : List Name} (hn : l.Nodup) (hm : ∀ s, s ∈ l ↔ (now s).isSome = true) : IsNames now (l.mergeSort leB) := by
  have tr : ∀ a b c : List UInt8, leB a b = true → leB b c = true → leB a c = true := fun a b c h1 h2 => by simp only [leB, decide_eq_true_eq] at *; exact List.le_trans h1 h2
  have to : ∀ a b : List UInt8, (leB a b || leB b a) = true := fun a b => by simp only [leB, Bool.or_eq_true, decide_eq_true_eq]; exact List.le_total a b
  exact ⟨List.pairwise_mergeSort tr to l, (List.mergeSort_perm l leB).nodup_iff.2 hn, fun s => by rw [(List.mergeSort_perm l leB).mem_iff, hm]⟩

/-- a slice of strings of the call's own -/
abbrev StrRow (w : World) (base : Nat) (v : Value) (l : List Name) : Prop := w.ownsRow base 9 1 v l.length (l.map encStr)

theorem nrange_iter {w : World} {mb r n cnt : Nat} {m : Names} {left : Name → Bool} (h : NRange Tryz.prog 9 w mb r n m left cnt) {cs : Array Value} {t : TypeId} {fr : Nat × Nat} (hb : w.heap[r]? = some (.cells cs t fr)) : False := by
  obtain ⟨D, lf, ⟨es, clock, since, seen, c0, q1, q2, q3, q4, q5, q6⟩, g⟩ := h
  rw [hb] at q5; cases q5
theorem nrange_lt {w : World} {mb r n cnt : Nat} {m : Names} {left : Name → Bool} (h : NRange Tryz.prog 9 w mb r n m left cnt) : r < w.heap.size := by
  obtain ⟨D, lf, ⟨es, clock, since, seen, c0, q1, q2, q3, q4, q5, q6⟩, g⟩ := h
  exact (Array.getElem?_eq_some_iff.1 q5).1

set_option maxRecDepth 100000 in
set_option maxHeartbeats 1000000 in
theorem list_any {w : World} {d c mn ms : Nat} {mv : Value} {room : Int} {now : Names} (ht : Top w d mn ms mv room) (hm : NM w mn c now) (hc : c ≤ 1000000) :
    Calls Tryz.prog 54 #[.pointer (some ⟨d, 0, none⟩)] w fun e w' => ∃ v l, e = .returned v ∧ StrRow w' w.heap.size v l ∧ IsNames now l ∧ l.length ≤ c ∧ (∀ s ∈ l, s.length ≤ maxLen) ∧ Below w.heap.size w w' := by
  have c0 := ht.c0
  obtain ⟨i0, hi, hz0, hz1, hz2⟩ := info_parts Tryz.infoStr
  go_enter Tryz.func54, Tryz.ntmps54
  go_wp2_with (first | (at_range; refine wp_range _ rfl _ 151 rfl 9 150 Tryz.strK Tryz.underlying151 mn _ _ rfl hm ?_; intro w0 cnt0 hc0 hr0 hg0 hs0))
  go_frame
  have hsz0 : w.heap.size < w0.heap.size := by omega
  clear hs0
  have hB0 : Below w.heap.size w w0 := ⟨hg0.os, hg0.tape, hg0.output, hg0.size, fun k hk => hg0.block k hk (by simp)⟩
  go_loopw [3] (fun v wr => ∃ (left : Name → Bool) (cnt : Nat) (ss : List Name), NRange Tryz.prog 9 wr mn w.heap.size c now left cnt ∧ StrRow wr w.heap.size v ss ∧ ss.Nodup ∧ (∀ s, s ∈ ss ↔ (now s).isSome = true ∧ left s = false) ∧ ss.length + cnt ≤ c ∧ (∀ s ∈ ss, s.length ≤ maxLen) ∧ Below w.heap.size w wr) (fun _ wr => wr.rangeLeft mn w.heap.size)
  case atStart => exact ⟨_, cnt0, [], hr0, World.ownsRow_nil _ _ _ _, List.nodup_nil, fun s => by cases (now s).isSome <;> simp, by simpa using hc0, by simp, hB0⟩
  case round =>
    obtain ⟨left, cnt, ss, hrg, hrow, hnd, hmem, hcnt, hln, hB⟩ := hrel
    obtain ⟨av, capv, rfl, _⟩ := row_shape hrow
    go_wp2_with (first | (at_next; refine wp_next _ rfl _ rfl 9 Tryz.strK mn w.heap.size c now left cnt rfl hrg ?_ ?_))
    · intro _ hl0
      have hall : ∀ s, s ∈ ss ↔ (now s).isSome = true := fun s => by rw [hmem, hl0 s]; simp
      have hN := isNames_sort hnd hall
      have hlen : (ss.mergeSort leB).length = ss.length := List.length_mergeSort _
      have hln2 : ∀ s ∈ ss.mergeSort leB, s.length ≤ maxLen := fun s hs => hln s ((List.mergeSort_perm ss leB).mem_iff.1 hs)
      rcases hrow.2 with ⟨hnil, hn0⟩ | ⟨g, cap, cur, hv, hbase, hb, h1, h2, h3, h4⟩
      · obtain rfl : ss = [] := List.eq_nil_of_length_eq_zero hn0
        cases hnil
        have cs := Tryz.slices_Sort_string_none none 0 wr
        go_wp2_with (first | (go_at_call 86; refine cs.mono ?_; rintro e w' ⟨rfl, hw'⟩; rw [hw']; clear hw'))
        go_ret
        rw [List.mergeSort_nil] at hN
        exact ⟨_, [], rfl, hrow, hN, by simp, by simp, hB⟩
      · cases hv
        have hH := holds_of_block hb (by simpa using h4)
        have hgl := (Array.getElem?_eq_some_iff.1 hb).1
        have cs := Tryz.slices_Sort_string g 0 capv ss wr hH hgl (by omega)
        go_wp2_with fail
        refine cs.mono ?_
        rintro e w' ⟨rfl, nn, os, hw'⟩
        have hr2 : StrRow w' w.heap.size (.slice (some ⟨g, 0, none⟩) ss.length capv) (ss.mergeSort leB) := by
          rw [hw']
          have := ownsRow_sorted (n := nn) (os := os) hlen hbase hb h1 h2 h3
          show World.ownsRow _ _ _ 1 _ (ss.mergeSort leB).length _
          rw [hlen]; exact this
        have hB2 : Below w.heap.size w w' := by
          rw [hw']
          exact hB.grown (grownBy_sorted _) hB.size (fun j hj => by cases hj; exact hbase)
        clear hw' cs hH
        go_wp2
        go_ret
        exact ⟨_, _, rfl, hr2, hN, by rw [hlen]; omega, hln2, hB2⟩
    · intro x bx w1 cnt1 hx hlx hmx hrg1 hlt hg1 hs1 hen
      have hB1 : Below w.heap.size w w1 := hB.grown hg1 (by have := hB.size; omega) (fun k hk => by cases hk; omega)
      have hrow1 : StrRow w1 w.heap.size (.slice av ss.length capv) ss := hrow.kept hg1 (.inr fun e => by
        obtain ⟨cs, hb⟩ := row_block hrow e
        exact nrange_iter hrg hb)
      have hsz1 : w.heap.size ≤ w1.heap.size := hB1.size
      clear hs1
      go_wp2_with (first | (at_builtin; refine wpList_append_own_at _ rfl _ _ 28 rfl w.heap.size 9 i0 (.string ⟨#[]⟩) 1 16 Tryz.underlying28 hi hz0 hz1 hz2 rfl (by decide) _ ss.length (ss.map encStr) rfl (hrow1.alloc _) ⟨w1.heap.size, 0, none⟩ 1 1 [encStr x] rfl rfl (cell_one_new _ _ _) (by simp [Value.oneCell']) (by unfold maxLen; omega) (by omega) (by simp; omega) ?_; intro v2 w2 hrow2 hg2 _ hat2))
      have hrg2 : NRange Tryz.prog 9 w2 mn w.heap.size c now (fun s => left s && !decide (s = x)) cnt1 := by
        have hra := hrg1.alloc (.cells #[encStr x] 9)
        have hne1 : (Value.slice av ss.length capv).ownBlock ≠ some mn := row_ne_map (hrow1.alloc (.cells #[encStr x] 9)) hra.map
        refine hra.kept (hg2.block mn hra.map.lt (Ne.symm hne1)) (hg2.block _ (nrange_lt hra) (fun e => ?_))
        obtain ⟨cs, hb⟩ := row_block (hrow1.alloc (.cells #[encStr x] 9)) e.symm
        exact nrange_iter hra hb
      have hB2 : Below w.heap.size w w2 := (hB1.alloc hB1.size _).grown hg2 (by simp; omega) (fun k hk => (hrow1.lt k hk).1)
      obtain ⟨av2, capv2, rfl, _⟩ := row_shape hrow2
      clear hg2 hrow1 hrow hat2
      go_wp2
      go_roundw
      case rel =>
        refine ⟨_, cnt1, ss ++ [x], hrg2, by show w2.ownsRow _ _ 1 _ (ss ++ [x]).length ((ss ++ [x]).map encStr); simpa using hrow2, ?_, fun s => ?_, by simp; omega, fun s hs => ?_, hB2⟩
        · refine List.nodup_append.2 ⟨hnd, by simp, fun a ha b hb e => ?_⟩
          simp at hb; subst hb; subst e
          have := ((hmem a).1 ha).2
          rw [hlx] at this; cases this
        · rw [List.mem_append, hmem]
          by_cases hsx : s = x
          · subst hsx; simp [hmx]
          · simp [hsx]
        · rcases List.mem_append.1 hs with h1 | h1
          · exact hln s h1
          · simp at h1; subst h1; exact hx
      case measure => rw [hrg2.left_eq, hrg.left_eq]; omega
end Go.Proofs.YtakjpgjcfecfiaaGreatDoor
