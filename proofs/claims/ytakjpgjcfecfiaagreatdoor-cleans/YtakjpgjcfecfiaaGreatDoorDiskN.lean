import Derived.Test.YtakjpgjcfecfiaaGreatDoorDiskF
import Derived.Maps.AppendAt
/- name: a step of names is done and noted. -/
namespace Go.Proofs.YtakjpgjcfecfiaaGreatDoor
open Go.RowKit Go.Maps Go.Joins

theorem NM.not_cells {w : World} {mb n : Nat} {m : Names} (h : NM w mb n m) {cs : Array Value} {t : TypeId} {fr : Nat × Nat} (hb : w.heap[mb]? = some (.cells cs t fr)) : False := by
  obtain ⟨D, ⟨es, c, h0, _⟩, _⟩ := h
  rw [hb] at h0; cases h0
theorem Top.ne_map {w : World} {d mn ms mb n : Nat} {mv : Value} {room : Int} {m : Names} (h : Top w d mn ms mv room) (hm : NM w mb n m) : d ≠ mb := by
  rintro rfl; exact hm.not_cells h
theorem row_block {w : World} {base e size n : Nat} {v : Value} {xs : List Value} (h : w.ownsRow base e size v n xs) {g : Nat} (hg : v.ownBlock = some g) : ∃ cs, w.heap[g]? = some (Obj.cells cs e (0, 0)) := by
  obtain ⟨_, ⟨rfl, _⟩ | ⟨g', cap, cur, rfl, _, hb, _⟩⟩ := h
  · cases hg
  · cases hg; exact ⟨_, hb⟩
theorem row_ne_map {w : World} {base e size n mb k : Nat} {v : Value} {xs : List Value} {m : Names} (h : w.ownsRow base e size v n xs) (hm : NM w mb k m) : v.ownBlock ≠ some mb := by
  intro hg
  obtain ⟨cs, hb⟩ := row_block h hg
  exact hm.not_cells hb
theorem row_ne_top {w : World} {base size n d mn ms : Nat} {e : TypeId} {v mv : Value} {room : Int} {xs : List Value} (h : w.ownsRow base e size v n xs) (ht : Top w d mn ms mv room) (he : e ≠ 154) : v.ownBlock ≠ some d := by
  intro hg
  obtain ⟨cs, hb⟩ := row_block h hg
  unfold Top at ht
  rw [ht] at hb
  cases hb
  exact he rfl
theorem row_lt {w : World} {base e size n : Nat} {v : Value} {xs : List Value} (h : w.ownsRow base e size v n xs) {g : Nat} (hg : v.ownBlock = some g) : g < w.heap.size := by
  obtain ⟨cs, hb⟩ := row_block h hg
  exact (Array.getElem?_eq_some_iff.1 hb).1
theorem grown_setCell (w : World) (p : Addr) (u : Value) : w.grownBy (w.setCell p u) (some p.block) :=
  ⟨rfl, rfl, rfl, by simp, fun k _ hk => Below.heap_setCell _ _ _ _ (fun e => hk (by rw [e]))⟩
theorem Tryz.infoMv : (Tryz.prog.info? 174).map (fun i => (i.zero, i.size, i.bytes)) = some (some (.slice none 0 0), 1, 24) := by kernel_rfl

set_option maxRecDepth 100000 in
set_option maxHeartbeats 1000000 in
theorem name_any (w : World) (d mn ms n N : Nat) (mv v : Value) (room : Int) (m : Names) (l : Steps) (vs : List Value) (ht : Top w d mn ms mv room) (hm : NM w mn n m) (hv : MoveRow w v l)
    (hr : w.ownsRow 0 174 1 mv N vs) (hn : n + l.length ≤ 1000000) (hN : N ≤ 1000000) :
    Calls Tryz.prog 114 #[.pointer (some ⟨d, 0, none⟩), v] w fun e w' => e = .returned (.tuple #[]) ∧
      ∃ mv', Top w' d mn ms mv' room ∧ NM w' mn (n + l.length) (replay l m) ∧ w'.ownsRow 0 174 1 mv' (N + 1) (vs ++ [v]) ∧ (mv'.ownBlock = mv.ownBlock ∨ ∃ k, mv'.ownBlock = some k ∧ w.heap.size ≤ k) ∧
        Kept (fun k => k ≠ d ∧ k ≠ mn ∧ mv.ownBlock ≠ some k) w w' := by
  have c0 := ht.c0
  have hdm := ht.ne_map hm
  have cs := set_any _ l mn n m w hv hm hn
  have hv' := hv
  obtain ⟨gv, cv, rfl, _⟩ := hv'
  have hvo : (Value.slice (some ⟨gv, 0, none⟩) l.length cv).oneCell' = true := rfl
  obtain ⟨i0, hi, hz0, hz1, hz2⟩ := info_parts Tryz.infoMv
  go_enter Tryz.func114, Tryz.ntmps114
  go_wp2_with fail
  refine cs.mono ?_
  rintro e w1 ⟨rfl, hm1, hg1⟩
  have ht1 : Top w1 d mn ms mv room := ht.kept (hg1.block d ht.lt (by simpa using hdm))
  have hr1 : w1.ownsRow 0 174 1 mv N vs := hr.kept hg1 (.inr (row_ne_map hr hm))
  have c2 := ht1.c2
  clear cs c0
  have ht2 : Top (w1.alloc (.cells #[.slice (some ⟨gv, 0, none⟩) l.length cv] 174)) d mn ms mv room := ht1.kept ((World.grownBy_alloc w1 _ none).block d ht1.lt (by simp))
  have hm2 := hm1.alloc (.cells #[.slice (some ⟨gv, 0, none⟩) l.length cv] 174)
  have hne := row_ne_top (hr1.alloc (.cells #[.slice (some ⟨gv, 0, none⟩) l.length cv] 174)) ht2 (by decide)
  have hnm := row_ne_map (hr1.alloc (.cells #[.slice (some ⟨gv, 0, none⟩) l.length cv] 174)) hm2
  go_wp2_with (at_builtin; refine wpList_append_own_at _ rfl _ _ 152 rfl 0 174 i0 (.slice none 0 0) 1 24 Tryz.underlying152 hi hz0 hz1 hz2 rfl (by decide) mv N vs rfl (hr1.alloc _) ⟨w1.heap.size, 0, none⟩ 1 1 [.slice (some ⟨gv, 0, none⟩) l.length cv] rfl rfl (cell_one_new _ _ _) (by simpa using hvo) (by unfold maxLen; omega) (by omega) (by omega) ?_)
  intro mv' w3 hr3 hg3 _ hat
  obtain ⟨g3, cap3, rfl⟩ : ∃ g3 cap3, mv' = .slice (some ⟨g3, 0, none⟩) (N + 1) cap3 := by
    obtain ⟨_, ⟨_, h0⟩ | ⟨g', cap, cur, h0, _⟩⟩ := hr3
    · omega
    · exact ⟨g', cap, h0⟩
  have ht3 : Top w3 d mn ms mv room := ht2.kept (hg3.block d ht2.lt (Ne.symm hne))
  have hm3 : NM w3 mn (n + l.length) (replay l m) := hm2.kept (hg3.block mn hm2.lt (Ne.symm hnm))
  have hne3 := row_ne_top hr3 ht3 (by decide)
  have q2 := ht3.c2
  have f2 := ht3.fz 2
  have hr4 : (w3.setCell ⟨d, 2, none⟩ (.slice (some ⟨g3, 0, none⟩) (N + 1) cap3)).ownsRow 0 174 1 (.slice (some ⟨g3, 0, none⟩) (N + 1) cap3) (N + 1) (vs ++ [.slice (some ⟨gv, 0, none⟩) l.length cv]) := hr3.kept (grown_setCell w3 ⟨d, 2, none⟩ (.slice (some ⟨g3, 0, none⟩) (N + 1) cap3)) (.inr hne3)
  have ht4 : Top (w3.setCell ⟨d, 2, none⟩ (.slice (some ⟨g3, 0, none⟩) (N + 1) cap3)) d mn ms (.slice (some ⟨g3, 0, none⟩) (N + 1) cap3) room := block_setCell ht3 (.slice (some ⟨g3, 0, none⟩) (N + 1) cap3)
  have hm4 : NM (w3.setCell ⟨d, 2, none⟩ (.slice (some ⟨g3, 0, none⟩) (N + 1) cap3)) mn (n + l.length) (replay l m) := hm3.setCell (Ne.symm hdm) _
  have hK : Kept (fun k => k ≠ d ∧ k ≠ mn ∧ mv.ownBlock ≠ some k) w (w3.setCell ⟨d, 2, none⟩ (.slice (some ⟨g3, 0, none⟩) (N + 1) cap3)) :=
    ((((Kept.refl _ w).grown hg1 (fun k e h => by cases e; exact h.2.1 rfl)).alloc _).grown hg3 (fun k e h => h.2.2 e)).setCell (fun h => h.1 rfl) _
  have hs1 := hg1.size
  have hat2 : (Value.slice (some ⟨g3, 0, none⟩) (N + 1) cap3).ownBlock = mv.ownBlock ∨ ∃ k, (Value.slice (some ⟨g3, 0, none⟩) (N + 1) cap3).ownBlock = some k ∧ w.heap.size ≤ k := hat.imp id (fun h => ⟨_, h, by first | omega | (simp; omega)⟩)
  clear hg3 hg1 hat hr3 hm3 hm2 hm1 hr1
  go_wp2
  go_end0
  exact ⟨rfl, (.slice (some ⟨g3, 0, none⟩) (N + 1) cap3), ht4, hm4, hr4, hat2, hK⟩
end Go.Proofs.YtakjpgjcfecfiaaGreatDoor
