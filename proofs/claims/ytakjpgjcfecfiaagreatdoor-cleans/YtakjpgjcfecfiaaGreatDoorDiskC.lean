import Derived.Test.YtakjpgjcfecfiaaGreatDoorDiskN
/- The whole disk; Create, Remove. -/
namespace Go.Proofs.YtakjpgjcfecfiaaGreatDoor
open Go.RowKit Go.Maps Go.Joins

inductive All2 {α β : Type} (R : α → β → Prop) : List α → List β → Prop
  | nil : All2 R [] []
  | cons {a : α} {b : β} {l : List α} {k : List β} : R a b → All2 R l k → All2 R (a :: l) (b :: k)

/-- a file's block: its bytes, all of them safe -/
def NodeAt (w : World) (b : Nat) (l : List UInt8) : Prop :=
  l.length ≤ 1000000 ∧ ∃ v, w.heap[b]? = some (.cells #[v, .int .i64 (l.length : Int)] 156) ∧ Own w 0 v l.length l
theorem NodeAt.lt {w : World} {b : Nat} {l : List UInt8} (h : NodeAt w b l) : b < w.heap.size := by
  obtain ⟨_, v, hb, _⟩ := h
  exact (Array.getElem?_eq_some_iff.1 hb).1
theorem NodeAt.kept {w w' : World} {b : Nat} {l : List UInt8} (h : NodeAt w b l) (h1 : w'.heap[b]? = w.heap[b]?) (h2 : ∀ g : Nat, (∃ cs : Array Value, w.heap[g]? = some (Obj.cells cs 5)) → w'.heap[g]? = w.heap[g]?) : NodeAt w' b l := by
  obtain ⟨hl, v, hb, hn, hx, h0 | ⟨g, cap, cur, hv, hbase, hg, h3⟩⟩ := h
  · exact ⟨hl, v, h1.trans hb, hn, hx, .inl h0⟩
  · exact ⟨hl, v, h1.trans hb, hn, hx, .inr ⟨g, cap, cur, hv, hbase, (h2 g ⟨_, hg⟩).trans hg, h3⟩⟩

/-- the disk at block d: what its names stand for now, and what is safe; what happened to names since; K: what is not its own -/
structure DiskAt (w : World) (d : Nat) (K : Nat → Prop) (c mn ms : Nat) (now safe : Names) (mv : Value) (L : List Steps) (room : Int) (F : Name → Option (List UInt8)) : Prop where
  top : Top w d mn ms mv room
  mnow : NM w mn c now
  msafe : ∃ ns, ns + L.flatten.length ≤ c ∧ NM w ms ns safe
  ne : mn ≠ ms
  row : ∃ vs, w.ownsRow 0 174 1 mv L.length vs ∧ All2 (MoveRow w) vs L
  len : L.length ≤ c
  rep : replay L.flatten safe = now
  node : ∀ s b, now s = some b → ∃ l, F s = some l ∧ NodeAt w b l
  no : ∀ s, now s = none → F s = none
  inj : ∀ s s' b, now s = some b → now s' = some b → s = s'
  kd : ¬ K d
  kn : ¬ K mn
  ks : ¬ K ms
  kb : ∀ s b, now s = some b → ¬ K b
  kv : ∀ g, mv.ownBlock = some g → ¬ K g
  bd : ∀ k, K k → k < w.heap.size
/-- the disk, whatever happened to names since -/
def Dk (w : World) (d : Nat) (K : Nat → Prop) (c : Nat) (F : Name → Option (List UInt8)) : Prop := ∃ mn ms now safe mv L room, DiskAt w d K c mn ms now safe mv L room F
/-- the disk at rest: all names are safe -/
def Rest (w : World) (d : Nat) (K : Nat → Prop) (c : Nat) (F : Name → Option (List UInt8)) : Prop := ∃ mn ms now room, DiskAt w d K c mn ms now now (.slice none 0 0) [] room F
theorem Rest.dk {w : World} {d c : Nat} {K : Nat → Prop} {F : Name → Option (List UInt8)} (h : Rest w d K c F) : Dk w d K c F := by
  obtain ⟨mn, ms, now, room, h⟩ := h; exact ⟨_, _, _, _, _, _, _, h⟩

theorem all2_imp {α β : Type} {R S : α → β → Prop} (h : ∀ a b, R a b → S a b) : ∀ {l : List α} {k : List β}, All2 R l k → All2 S l k
  | _, _, .nil => .nil
  | _, _, .cons h1 h2 => .cons (h _ _ h1) (all2_imp h h2)
theorem all2_snoc {α β : Type} {R : α → β → Prop} {a : α} {b : β} (h : R a b) : ∀ {l : List α} {k : List β}, All2 R l k → All2 R (l ++ [a]) (k ++ [b])
  | _, _, .nil => .cons h .nil
  | _, _, .cons h1 h2 => .cons h1 (all2_snoc h h2)

section
variable {w : World} {d c mn ms : Nat} {K : Nat → Prop} {now safe : Names} {mv : Value} {L : List Steps} {room : Int} {F : Name → Option (List UInt8)}
/-- nothing that is there turns -/
theorem DiskAt.below {w' : World} (h : DiskAt w d K c mn ms now safe mv L room F) (hb : Below w.heap.size w w') : DiskAt w' d (fun k => K k ∨ (w.heap.size ≤ k ∧ k < w'.heap.size)) c mn ms now safe mv L room F := by
  obtain ⟨ns, hns, hs⟩ := h.msafe
  obtain ⟨vs, hr, hf⟩ := h.row
  have hsz := hb.size
  have hlt : ∀ {g : Nat} {o : Obj}, w.heap[g]? = some o → g < w.heap.size := fun e => (Array.getElem?_eq_some_iff.1 e).1
  refine ⟨h.top.kept (hb.block d h.top.lt), h.mnow.kept (hb.block mn h.mnow.lt), ⟨ns, hns, hs.kept (hb.block ms hs.lt)⟩, h.ne, ⟨vs, ?_, all2_imp (fun v l hv => hv.kept fun g hg => by obtain ⟨cs, e⟩ := hg; exact hb.block g (hlt e)) hf⟩, h.len, h.rep,
    fun s b e => ?_, h.no, h.inj, ?_, ?_, ?_, ?_, ?_, ?_⟩
  · exact hr.kept (row := none) ⟨hb.os, hb.tape, hb.output, hb.size, fun k hk _ => hb.block k hk⟩ (by cases e : mv.ownBlock <;> simp)
  · obtain ⟨l, h1, h2⟩ := h.node s b e
    exact ⟨l, h1, h2.kept (hb.block b h2.lt) (fun g hg => by obtain ⟨cs, e⟩ := hg; exact hb.block g (hlt e))⟩
  · have := h.top.lt; have := h.kd; simp only [not_or, not_and]; exact ⟨this, fun _ => by omega⟩
  · have := h.mnow.lt; have := h.kn; simp only [not_or, not_and]; exact ⟨this, fun _ => by omega⟩
  · have := hs.lt; have := h.ks; simp only [not_or, not_and]; exact ⟨this, fun _ => by omega⟩
  · intro s b e
    obtain ⟨l, h1, h2⟩ := h.node s b e
    have := h2.lt; have := h.kb s b e; simp only [not_or, not_and]; exact ⟨this, fun _ => by omega⟩
  · intro g e
    have := row_lt hr e; have := h.kv g e; simp only [not_or, not_and]; exact ⟨this, fun _ => by omega⟩
  · rintro k (hk | hk)
    · have := h.bd k hk; omega
    · exact hk.2
/-- less is protected -/
theorem DiskAt.less {K' : Nat → Prop} (h : DiskAt w d K c mn ms now safe mv L room F) (hk : ∀ k, K' k → K k) : DiskAt w d K' c mn ms now safe mv L room F :=
  ⟨h.top, h.mnow, h.msafe, h.ne, h.row, h.len, h.rep, h.node, h.no, h.inj, fun x => h.kd (hk _ x), fun x => h.kn (hk _ x), fun x => h.ks (hk _ x), fun s b e x => h.kb s b e (hk _ x), fun g e x => h.kv g e (hk _ x), fun k x => h.bd k (hk k x)⟩
theorem DiskAt.mono {c' : Nat} (h : DiskAt w d K c mn ms now safe mv L room F) (hc : c ≤ c') : DiskAt w d K c' mn ms now safe mv L room F := by
  obtain ⟨ns, hns, hs⟩ := h.msafe
  exact ⟨h.top, h.mnow.mono hc, ⟨ns, by omega, hs⟩, h.ne, h.row, by have := h.len; omega, h.rep, h.node, h.no, h.inj, h.kd, h.kn, h.ks, h.kb, h.kv, h.bd⟩
end
theorem Dk.below {w w' : World} {d c : Nat} {K : Nat → Prop} {F : Name → Option (List UInt8)} (h : Dk w d K c F) (hb : Below w.heap.size w w') : Dk w' d (fun k => K k ∨ (w.heap.size ≤ k ∧ k < w'.heap.size)) c F := by
  obtain ⟨_, _, _, _, _, _, _, h⟩ := h; exact ⟨_, _, _, _, _, _, _, h.below hb⟩
theorem Dk.less {w : World} {d c : Nat} {K K' : Nat → Prop} {F : Name → Option (List UInt8)} (h : Dk w d K c F) (hk : ∀ k, K' k → K k) : Dk w d K' c F := by
  obtain ⟨_, _, _, _, _, _, _, h⟩ := h; exact ⟨_, _, _, _, _, _, _, h.less hk⟩
theorem Dk.mono {w : World} {d c c' : Nat} {K : Nat → Prop} {F : Name → Option (List UInt8)} (h : Dk w d K c F) (hc : c ≤ c') : Dk w d K c' F := by
  obtain ⟨_, _, _, _, _, _, _, h⟩ := h; exact ⟨_, _, _, _, _, _, _, h.mono hc⟩
theorem Dk.same {w w' : World} {d c : Nat} {K : Nat → Prop} {F : Name → Option (List UInt8)} (h : Dk w d K c F) (hb : Below w.heap.size w w') : Dk w' d K c F := (h.below hb).less (fun _ => .inl)
theorem Rest.below {w w' : World} {d c : Nat} {K : Nat → Prop} {F : Name → Option (List UInt8)} (h : Rest w d K c F) (hb : Below w.heap.size w w') : Rest w' d (fun k => K k ∨ (w.heap.size ≤ k ∧ k < w'.heap.size)) c F := by
  obtain ⟨_, _, _, _, h⟩ := h; exact ⟨_, _, _, _, h.below hb⟩
theorem Rest.less {w : World} {d c : Nat} {K K' : Nat → Prop} {F : Name → Option (List UInt8)} (h : Rest w d K c F) (hk : ∀ k, K' k → K k) : Rest w d K' c F := by
  obtain ⟨_, _, _, _, h⟩ := h; exact ⟨_, _, _, _, h.less hk⟩
theorem Rest.same {w w' : World} {d c : Nat} {K : Nat → Prop} {F : Name → Option (List UInt8)} (h : Rest w d K c F) (hb : Below w.heap.size w w') : Rest w' d K c F := (h.below hb).less (fun _ => .inl)
end Go.Proofs.YtakjpgjcfecfiaaGreatDoor
