import Derived.Test.YtakjpgjcfecfiaaGreatDoorDiskA
/- SyncDir; NewDisk. -/
namespace Go.Proofs.YtakjpgjcfecfiaaGreatDoor
open Go.RowKit Go.Maps Go.Joins

theorem all2_get {α β : Type} {R : α → β → Prop} (d : β) : ∀ {l : List α} {k : List β}, All2 R l k → ∀ i, i < k.length → ∃ a, l[i]? = some a ∧ R a (k.getD i d)
  | _, _, .nil, i, hi => by simp at hi
  | _, _, .cons h1 h2, 0, _ => ⟨_, rfl, h1⟩
  | _, _, .cons h1 h2, i + 1, hi => by
    obtain ⟨a, e, h⟩ := all2_get d h2 i (by simp at hi; omega)
    exact ⟨a, by simpa using e, by simpa using h⟩
theorem row_shape {w : World} {base e size n : Nat} {v : Value} {xs : List Value} (h : w.ownsRow base e size v n xs) : ∃ a cap, v = .slice a n cap ∧ (0 < n → ∃ g, a = some ⟨g, 0, none⟩) := by
  obtain ⟨_, ⟨rfl, h0⟩ | ⟨g, cap, cur, rfl, _⟩⟩ := h
  · exact ⟨none, 0, by rw [h0], fun h => by omega⟩
  · exact ⟨_, cap, rfl, fun _ => ⟨g, rfl⟩⟩

/-- the moves, one by one -/
theorem moves_at {w : World} {mv : Value} {L : List Steps} {vs : List Value} (hr : w.ownsRow 0 174 1 mv L.length vs) (hf : All2 (MoveRow w) vs L) :
    ∃ a cap, mv = .slice a L.length cap ∧ ∀ k, k < L.length → ∃ g gv cv, a = some ⟨g, 0, none⟩ ∧ mv.ownBlock = some g ∧ w.cell? ⟨g, k, none⟩ = some (.slice (some ⟨gv, 0, none⟩) (L.getD k []).length cv) ∧ MoveRow w (.slice (some ⟨gv, 0, none⟩) (L.getD k []).length cv) (L.getD k []) := by
  obtain ⟨a, cap, rfl, ha⟩ := row_shape hr
  refine ⟨a, cap, rfl, fun k hk => ?_⟩
  obtain ⟨g, rfl⟩ := ha (by omega)
  obtain ⟨v, hv, hm⟩ := all2_get [] hf k hk
  have hm' := hm
  obtain ⟨gv, cv, e, _⟩ := hm'
  subst e
  exact ⟨g, gv, cv, rfl, rfl, by have h1 := World.ownsRow.cellAt hr k (by omega); simpa [hv] using h1, hm⟩

set_option maxRecDepth 100000 in
set_option maxHeartbeats 1000000 in
theorem syncDir_any {w : World} {d c mn ms : Nat} {K : Nat → Prop} {now safe : Names} {mv : Value} {L : List Steps} {room : Int} {F : Files} (h : DiskAt w d K c mn ms now safe mv L room F) (hc : c ≤ 1000000) :
    Calls Tryz.prog 53 #[.pointer (some ⟨d, 0, none⟩)] w fun e w' => e = .returned .nilIface ∧ DiskAt w' d K c mn ms now now (.slice none 0 0) [] room F ∧ Kept K w w' := by
  have ht := h.top
  have c1 := ht.c1
  have c2 := ht.c2
  have cf := fails_any w d ht.c4 ht.c5
  have hdl := ht.lt
  obtain ⟨ns, hns, hs⟩ := h.msafe
  obtain ⟨vs, hr, hf⟩ := h.row
  have hdm : d ≠ ms := ht.ne_map hs
  have hrm := row_ne_map hr hs
  have hlen := h.len
  obtain ⟨a, cap, e, hel⟩ := moves_at hr hf
  rw [e] at c2 hrm
  have hel2 : ∀ k, k < L.length → ∃ g gv cv, a = some ⟨g, 0, none⟩ ∧ g ≠ ms ∧ g < w.heap.size ∧ w.cell? ⟨g, k, none⟩ = some (.slice (some ⟨gv, 0, none⟩) (L.getD k []).length cv) ∧ MoveRow w (.slice (some ⟨gv, 0, none⟩) (L.getD k []).length cv) (L.getD k []) := by
    intro k hk
    obtain ⟨g, gv, cv, e1, e2, e3, e4⟩ := hel k hk
    exact ⟨g, gv, cv, e1, fun e5 => hrm (by rw [← e, ← e5]; exact e2), row_lt hr e2, e3, e4⟩
  clear hel
  have htk : ∀ k, k < L.length → (L.take (k + 1)).flatten = (L.take k).flatten ++ L.getD k [] := fun k hk => by rw [take_snoc L k [] hk]; simp
  have hle : ∀ k, (L.take k).flatten.length ≤ L.flatten.length := fun k => by
    conv => rhs; rw [← List.take_append_drop k L]
    rw [List.flatten_append, List.length_append]; omega
  go_enter Tryz.func53, Tryz.ntmps53
  go_wp2_with (first | (go_at_call 85; refine cf.mono ?_; rintro e w' ⟨rfl, hw'⟩; rw [hw']; clear hw'))
  go_loopw [15] (fun i wr => ∃ k : Nat, k ≤ L.length ∧ i = .int .i64 k ∧ NM wr ms (ns + (L.take k).flatten.length) (replay (L.take k).flatten safe) ∧ w.grownBy wr (some ms)) (fun i _ => L.length - (intOf i).toNat)
  case atStart => exact ⟨0, Nat.zero_le _, rfl, by simpa [replay] using hs, grown_refl _ _⟩
  case round =>
    obtain ⟨k, hk, rfl, hm, hg⟩ := hrel
    by_cases hlt : k < L.length
    · obtain ⟨g, gv, cv, rfl, hgm, hgl, hcell, hmv⟩ := hel2 k hlt
      have r1 : wr.cell? ⟨d, 1, none⟩ = some (.map (some ms)) := by rw [World.cell?_of_block (hg.block d hdl (by simpa using hdm))]; exact c1
      have rc : wr.cell? ⟨g, k, none⟩ = some (.slice (some ⟨gv, 0, none⟩) (L.getD k []).length cv) := by rw [World.cell?_of_block (hg.block g hgl (by simpa using hgm))]; exact hcell
      have hmv2 : MoveRow wr (.slice (some ⟨gv, 0, none⟩) (L.getD k []).length cv) (L.getD k []) := hmv.kept fun g' hg' => by
        obtain ⟨cs, e⟩ := hg'
        exact hg.block g' (Array.getElem?_eq_some_iff.1 e).1 (fun e2 => by cases e2; exact hs.not_cells e)
      have hb := hle (k + 1)
      rw [htk k hlt, List.length_append] at hb
      have cs := set_any _ (L.getD k []) ms _ _ wr hmv2 hm (by omega)
      have ek := htk k hlt
      generalize L.getD k [] = lk at rc cs ek hb hmv2
      clear hmv2 hmv hcell
      go_wp2_with fail
      refine cs.mono ?_
      rintro e w' ⟨rfl, hm', hg'⟩
      clear cs
      go_wp2
      go_roundw
      case rel => exact ⟨k + 1, by omega, by go_num, by rw [ek, List.length_append, replay_append, ← Nat.add_assoc]; exact hm', grown_trans hg hg'⟩
      case measure => simp [intOf]; omega
    · obtain rfl : k = L.length := by omega
      rw [List.take_length, h.rep] at hm
      have ht' : Top wr d mn ms mv room := ht.kept (hg.block d hdl (by simpa using hdm))
      have r2 := ht'.c2
      rw [e] at r2
      have f2 := ht'.fz 2
      go_wp2
      go_ret
      have hK : Kept K w (wr.setCell ⟨d, 2, none⟩ (.slice none 0 0)) := ((Kept.refl _ w).grown hg (fun k e => by cases e; exact h.ks)).setCell h.kd _
      have hst : ∀ (g : Nat) (cs : Array Value) (t : TypeId) (fr : Nat × Nat), w.heap[g]? = some (.cells cs t fr) → t ≠ 154 → (wr.setCell ⟨d, 2, none⟩ (.slice none 0 0)).heap[g]? = w.heap[g]? := by
        intro g cs t fr hgb h1
        rw [Below.heap_setCell, hg.block g (Array.getElem?_eq_some_iff.1 hgb).1]
        · intro e2; cases e2; exact hs.not_cells hgb
        · rintro rfl
          have := ht; unfold Top at this; rw [this] at hgb; cases hgb; exact h1 rfl
      refine ⟨rfl, ⟨block_setCell ht' _, (h.mnow.kept (hg.block mn h.mnow.lt (by simpa using h.ne))).setCell (ht.ne_map h.mnow).symm _, ⟨_, by simpa using hns, hm.setCell hdm.symm _⟩, h.ne, ⟨[], World.ownsRow_nil _ _ _ _, .nil⟩, by simp, rfl, fun s b hb => ?_, h.no, h.inj, h.kd, h.kn, h.ks, h.kb, fun g hg => (by cases hg), fun k hk => Nat.lt_of_lt_of_le (h.bd k hk) hK.size⟩, hK⟩
      obtain ⟨l, e1, e2⟩ := h.node s b hb
      have e2' := e2
      obtain ⟨_, u, hbu, _⟩ := e2'
      exact ⟨l, e1, e2.kept (hst b _ _ _ hbu (by decide)) (fun g hg => by obtain ⟨cs, e⟩ := hg; exact hst g _ _ _ e (by decide))⟩

set_option maxHeartbeats 400000 in
theorem newDisk_any (w : World) (room : Int) :
    Calls Tryz.prog 46 #[.int .i64 room] w fun e w' => ∃ d, e = .returned (.pointer (some ⟨d, 0, none⟩)) ∧
      (∃ mn ms, DiskAt w' d (fun k => k < w.heap.size) 0 mn ms (fun _ => none) (fun _ => none) (.slice none 0 0) [] room (fun _ => none)) ∧ Below w.heap.size w w' := by
  have hmm := @run_makeMap Tryz.prog
  have hB : Below w.heap.size w (((w.alloc (.map #[] 0)).alloc (.map #[] 0)).alloc (.cells #[.map (some w.heap.size), .map (some (w.heap.size + 1)), .slice none 0 0, .int .i64 room, .int .i64 0, .int .i64 0] 154)) :=
    (((Below.refl _ w).alloc (Nat.le_refl _) _).alloc (by simp) _).alloc (by simp; omega) _
  go_enter Tryz.func46, Tryz.ntmps46
  go_wp2
  go_ret
  refine ⟨_, rfl, ⟨w.heap.size, w.heap.size + 1, ⟨?_, ((NMap.made w).alloc _).alloc _, ⟨0, by simp, ?_⟩, by omega, ⟨[], World.ownsRow_nil _ _ _ _, .nil⟩, by simp, rfl, fun s b e => (by cases e), fun _ _ => rfl, fun _ _ _ e => (by cases e), ?_, ?_, ?_, fun _ _ e => (by cases e), fun _ e => (by cases e), ?_⟩⟩, hB⟩
  · have := (MapKept.heap_alloc ((w.alloc (.map #[] 0)).alloc (.map #[] 0)) (.cells #[.map (some w.heap.size), .map (some (w.heap.size + 1)), .slice none 0 0, .int .i64 room, .int .i64 0, .int .i64 0] 154)).1
    simpa [Top] using this
  · have := (NMap.made (P := Tryz.prog) (k := 9) (w.alloc (.map #[] 0))).alloc (.cells #[.map (some w.heap.size), .map (some (w.heap.size + 1)), .slice none 0 0, .int .i64 room, .int .i64 0, .int .i64 0] 154)
    simpa using this
  · simp; omega
  · simp
  · simp
  · intro k hk; simp; omega
end Go.Proofs.YtakjpgjcfecfiaaGreatDoor
