import Derived.Test.YtakjpgjcfecfiaaGreatDoorDiskY
import Derived.Test.YtakjpgjcfecfiaaGreatDoorTellF
/- keydirlaw.file: a file is laid on the disk. -/
namespace Go.Proofs.YtakjpgjcfecfiaaGreatDoor
open Go.RowKit Go.Maps Go.Joins

theorem Laid.keep {w w' : World} {K : Nat → Prop} (h : Laid w) (hk : Kept K w w') (hg : K 0) : Laid w' := by
  unfold Laid
  rw [World.cell?_of_block (hk.block _ hg h.lt)]; exact h

/-- a file's own block is written -/
theorem DiskAt.wrote {w w' : World} {d c mn ms b : Nat} {K : Nat → Prop} {now safe : Names} {mv : Value} {L : List Steps} {room : Int} {F : Files} (h : DiskAt w d K c mn ms now safe mv L room F) (s : Name) (l : List UInt8) (hb : now s = some b) (hg : w.grownBy w' (some b)) (hn : NodeAt w' b l) :
    DiskAt w' d K c mn ms now safe mv L room (F.set s (some l)) := by
  obtain ⟨ns, hns, hs⟩ := h.msafe
  obtain ⟨vs, hr, hf⟩ := h.row
  obtain ⟨l0, _, hn0⟩ := h.node s b hb
  obtain ⟨_, v0, hb0, _⟩ := hn0
  have hst : ∀ (g : Nat) (cs : Array Value) (t : TypeId) (fr : Nat × Nat), w.heap[g]? = some (.cells cs t fr) → t ≠ 156 → w'.heap[g]? = w.heap[g]? := by
    intro g cs t fr hgb h1
    refine hg.block g (Array.getElem?_eq_some_iff.1 hgb).1 (fun e => ?_)
    cases e
    rw [hb0] at hgb; cases hgb; exact h1 rfl
  have hmb : ∀ {mb k : Nat} {m : Names}, NM w mb k m → w'.heap[mb]? = w.heap[mb]? := by
    intro mb k m hm
    exact hg.block mb hm.lt (fun e => by cases e; exact hm.not_cells hb0)
  have hnk : ∀ (b' : Nat) (l' : List UInt8), b' ≠ b → NodeAt w b' l' → NodeAt w' b' l' := by
    intro b' l' hne hn'
    exact hn'.kept (hg.block b' hn'.lt (by simpa using hne)) (fun g hg => by obtain ⟨cs, e⟩ := hg; exact hst g _ _ _ e (by decide))
  refine ⟨h.top.kept (hst d _ _ _ h.top (by decide)), h.mnow.kept (hmb h.mnow), ⟨ns, hns, hs.kept (hmb hs)⟩, h.ne, ⟨vs, hr.kept hg (.inr fun e => ?_), all2_imp (fun u l hu => hu.kept fun g hg => by obtain ⟨cs, e⟩ := hg; exact hst g _ _ _ e (by decide)) hf⟩, h.len, h.rep, fun x bx hx => ?_, fun x hx => ?_, h.inj, h.kd, h.kn, h.ks, h.kb, h.kv, fun k hk => Nat.lt_of_lt_of_le (h.bd k hk) hg.size⟩
  · obtain ⟨cs', hb'⟩ := row_block hr e
    rw [hb0] at hb'; cases hb'
  · by_cases hxs : x = s
    · subst hxs
      rw [hb] at hx; cases hx
      exact ⟨l, by simp [Files.set], hn⟩
    · obtain ⟨lx, e1, e2⟩ := h.node x bx hx
      exact ⟨lx, by simp [Files.set, hxs, e1], hnk bx lx (fun e => hxs (h.inj x s b (e ▸ hx) hb)) e2⟩
  · have hxs : x ≠ s := by rintro rfl; rw [hb] at hx; cases hx
    simp [Files.set, hxs, h.no x hx]

set_option maxHeartbeats 1000000 in
theorem file_any {w : World} {d c : Nat} {K : Nat → Prop} {F : Files} (h : Dk w d K c F) (hL : Laid w) (s : Name) (hs : s.length ≤ maxLen) (hc : c < 1000000)
    (a : Option Addr) (n cap : Nat) (l : List UInt8) (hl : l.length = n) (hn : n ≤ 1000000) (hbs : Bs w a l) (hnil : a = none → n = 0 ∧ cap = 0) (hKa : ∀ b o, a = some ⟨b, o, none⟩ → 0 < n → K b) :
    Calls Tryz.prog 50 #[.pointer (some ⟨d, 0, none⟩), .string ⟨s.toArray⟩, .slice a n cap] w fun e w' => e = .returned (.tuple #[]) ∧ (∃ F', Dk w' d K (c + 1) F') ∧ Kept K w w' := by
  obtain ⟨mn, ms, now, safe, mv, L, room, h⟩ := h
  cases hb : now s with
  | some b =>
    have cc := create_old h s hs hb
    have hB1 : Below w.heap.size w (w.alloc (errObj s 12)) := (Below.refl _ w).alloc (Nat.le_refl _) _
    have hL1 := hL.below hB1 (Nat.le_refl _)
    have ct := tell_file w.heap.size 12 ⟨s.toArray⟩ (w.alloc (errObj s 12)) hL1 (by simp [errObj]) (by simp [errObj])
    go_enter Tryz.func50, Tryz.ntmps50
    go_wp2_with (first | (go_at_call 82; refine cc.mono ?_; rintro e w1 ⟨rfl, hw1⟩; rw [hw1]; clear hw1))
    refine ct.mono ?_
    rintro e w2 ⟨rfl, hB2⟩
    have hB : Below w.heap.size w w2 := hB1.trans (hB2.mono (by simp))
    clear ct cc hB2
    go_wp2
    go_end0
    exact ⟨rfl, ⟨F, _, _, _, _, _, _, _, (h.below' hB).mono (Nat.le_succ _)⟩, .of_below hB⟩
  | none =>
    have cc := create_new h s hs hb hc
    go_enter Tryz.func50, Tryz.ntmps50
    go_wp2_with fail
    refine cc.mono ?_
    rintro e w1 ⟨rfl, ⟨b, mv1, h1, hb1⟩, hk1⟩
    clear cc
    go_wp2_with fail
    refine (tell_nil w1).mono ?_
    rintro e w2 ⟨rfl, hB2⟩
    have h2 := h1.below' hB2
    have hb2 : w2.heap[b]? = some (.cells #[.slice none 0 0, .int .i64 0] 156) := (hB2.block b (Array.getElem?_eq_some_iff.1 hb1).1).trans hb1
    have hk2 : Kept K w w2 := hk1.trans (.of_below hB2)
    have hbs2 : Bs w2 a l := by
      intro i hi
      obtain ⟨bb, oo, e, hcell⟩ := hbs i hi
      exact ⟨bb, oo, e, by rw [World.cell?_of_block (hk2.block bb (hKa bb oo e (by omega)) (World.block_lt_of_cell? _ _ hcell))]; exact hcell⟩
    have hnow : (now.set s (some b)) s = some b := by simp [Names.set]
    have ca := append_any h2 s hs hnow hb2 a n cap l hl hn hbs2 hnil
    clear h1 hb1 hB2 hk1 hbs hbs2 h hb
    go_wp2_with fail
    refine ca.mono ?_
    intro e w3 hpost
    obtain ⟨ev, a3, cap3, n3, l3, rfl, hg3, hb3, ho3, hl3, hn3⟩ : ∃ ev a3 cap3 n3 l3, e = .returned ev ∧ w2.grownBy w3 (some b) ∧ w3.heap[b]? = some (.cells #[.slice a3 n3 cap3, .int .i64 0] 156) ∧ Own w3 0 (.slice a3 n3 cap3) n3 l3 ∧ l3.length = n3 ∧ n3 ≤ 1000000 := by
      rcases hpost with ⟨p, rfl, hB3⟩ | ⟨rfl, v', hb', ho', hg'⟩
      · exact ⟨_, none, 0, 0, [], rfl, ⟨hB3.os, hB3.tape, hB3.output, hB3.size, fun k hk _ => hB3.block k hk⟩, (hB3.block b (Array.getElem?_eq_some_iff.1 hb2).1).trans hb2, Own.nil _ _, rfl, by omega⟩
      · obtain ⟨a3, cap3, rfl⟩ := ho'.sl
        exact ⟨_, a3, cap3, n, l, rfl, hg', hb', ho', hl, hn⟩
    clear ca hpost
    have hn3' : NodeAt (w3.setCell ⟨b, 1, none⟩ (.int .i64 (n3 : Int))) b l3 := by
      refine ⟨by omega, .slice a3 n3 cap3, ?_, ?_⟩
      · have := block_setCell (i := 1) hb3 (.int .i64 (n3 : Int))
        rw [this, hl3]; rfl
      · rw [hl3]; exact ho3.aside (grown_setCell _ _ _) hb3 (by decide)
    have hg4 : w2.grownBy (w3.setCell ⟨b, 1, none⟩ (.int .i64 (n3 : Int))) (some b) := grown_trans hg3 (grown_setCell _ _ _)
    have h4 := h2.wrote s l3 hnow hg4 hn3'
    have ht3 : Top w3 d mn ms mv1 room := h2.top.kept (hg3.block d h2.top.lt (fun e => by
      cases e; have := h2.top; unfold Top at this; rw [this] at hb2; cases hb2))
    have hm3 : NM w3 mn (c + 1) (now.set s (some b)) := h2.mnow.kept (hg3.block mn h2.mnow.lt (fun e => by cases e; exact h2.mnow.not_cells hb2))
    have cy := sync_any w3 d mn ms (c + 1) b n3 cap3 mv1 room 0 _ s a3 ht3 hm3 hs hnow hb3
    have hk4 : Kept K w (w3.setCell ⟨b, 1, none⟩ (.int .i64 (n3 : Int))) := hk2.grown hg4 (fun k e => by cases e; exact h2.kb s b hnow)
    clear hg3 hb3 ho3 hn3' hg4 ht3 hm3 h2 hb2 hk2
    go_wp2_with fail
    refine cy.mono ?_
    rintro e w5 ⟨rfl, hw5⟩
    rw [hw5]
    clear hw5 cy
    go_wp2
    go_end0
    exact ⟨rfl, ⟨_, _, _, _, _, _, _, _, h4⟩, hk4⟩
end Go.Proofs.YtakjpgjcfecfiaaGreatDoor
