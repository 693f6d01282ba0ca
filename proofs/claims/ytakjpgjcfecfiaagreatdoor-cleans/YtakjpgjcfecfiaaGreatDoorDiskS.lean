import Derived.Test.YtakjpgjcfecfiaaGreatDoorDiskC
/- A step of names on the whole disk; Create, Remove. -/
namespace Go.Proofs.YtakjpgjcfecfiaaGreatDoor
open Go.RowKit Go.Maps Go.Joins

abbrev Files := Name → Option (List UInt8)
def Files.set (F : Files) (s : Name) (o : Option (List UInt8)) : Files := fun x => if x = s then o else F x

theorem DiskAt.step {w : World} {d c mn ms : Nat} {K : Nat → Prop} {now safe : Names} {mv : Value} {L : List Steps} {room : Int} {F : Files} (h : DiskAt w d K c mn ms now safe mv L room F) (s : Name) (o : Option Nat) (v : Value) (hv : MoveRow w v [(s, o)]) (fo : Option (List UInt8))
    (hsome : ∀ b, o = some b → ∃ l, fo = some l ∧ NodeAt w b l ∧ ¬ K b ∧ ∀ x, now x ≠ some b) (hnone : o = none → fo = none) (hc : c < 1000000) :
    Calls Tryz.prog 114 #[.pointer (some ⟨d, 0, none⟩), v] w fun e w' => e = .returned (.tuple #[]) ∧ (∃ mv', DiskAt w' d K (c + 1) mn ms (now.set s o) safe mv' (L ++ [[(s, o)]]) room (F.set s fo)) ∧ Kept K w w' ∧
      (∀ (g : Nat) (cs : Array Value) (t : TypeId) (fr : Nat × Nat), w.heap[g]? = some (.cells cs t fr) → t ≠ 154 → t ≠ 174 → w'.heap[g]? = w.heap[g]?) := by
  obtain ⟨ns, hns, hs⟩ := h.msafe
  obtain ⟨vs, hr, hf⟩ := h.row
  have hlen := h.len
  refine (name_any w d mn ms c L.length mv v room now [(s, o)] vs h.top h.mnow hv hr (by simp; omega) (by omega)).mono ?_
  rintro e w' ⟨rfl, mv', ht', hm', hr', hat, hK0⟩
  have hsz := hK0.size
  have hst : ∀ (g : Nat) (cs : Array Value) (t : TypeId) (fr : Nat × Nat), w.heap[g]? = some (.cells cs t fr) → t ≠ 154 → t ≠ 174 → w'.heap[g]? = w.heap[g]? := by
    intro g cs t fr hg h1 h2
    refine hK0.block g ⟨?_, ?_, ?_⟩ (Array.getElem?_eq_some_iff.1 hg).1
    · rintro rfl
      have := h.top; unfold Top at this; rw [this] at hg; cases hg; exact h1 rfl
    · rintro rfl; exact h.mnow.not_cells hg
    · intro e
      obtain ⟨cs', hb⟩ := row_block hr e
      rw [hb] at hg; cases hg; exact h2 rfl
  have hfl : (L ++ [[(s, o)]]).flatten.length = L.flatten.length + 1 := by rw [List.flatten_append, List.length_append]; rfl
  have hsd : ms ≠ d := (h.top.ne_map hs).symm
  have hnk : ∀ {b : Nat} {l : List UInt8}, NodeAt w b l → NodeAt w' b l := by
    intro b l hn
    have hn' := hn
    obtain ⟨_, u, hb, _⟩ := hn'
    exact hn.kept (hst b _ _ _ hb (by decide) (by decide)) (fun g hg => by obtain ⟨cs, e⟩ := hg; exact hst g _ _ _ e (by decide) (by decide))
  refine ⟨rfl, ⟨mv', ht', ?_, ⟨ns, by rw [hfl]; omega, hs.kept (hK0.block ms ⟨hsd, h.ne.symm, row_ne_map hr hs⟩ hs.lt)⟩, h.ne, ⟨vs ++ [v], by simpa using hr', all2_snoc ?_ (all2_imp (fun u l hu => hu.kept fun g hg => by obtain ⟨cs, e⟩ := hg; exact hst g _ _ _ e (by decide) (by decide)) hf)⟩, by simp; omega, ?_, ?_, ?_, ?_, h.kd, h.kn, h.ks, ?_, ?_, ?_⟩, hK0.mono fun k hk => ⟨fun e => h.kd (e ▸ hk), fun e => h.kn (e ▸ hk), fun e => h.kv k e hk⟩, hst⟩
  · have := hm'; simpa [replay] using this
  · exact hv.kept fun g hg => by obtain ⟨cs, e⟩ := hg; exact hst g _ _ _ e (by decide) (by decide)
  · rw [List.flatten_append]
    show replay (L.flatten ++ [(s, o)]) safe = _
    rw [replay_snoc, h.rep]
  · intro x b hx
    by_cases hxs : x = s
    · subst hxs
      simp only [Names.set, if_true] at hx
      obtain ⟨l, e1, e2, _⟩ := hsome b hx
      exact ⟨l, by simp [Files.set, e1], hnk e2⟩
    · simp only [Names.set, hxs, if_false] at hx
      obtain ⟨l, e1, e2⟩ := h.node x b hx
      exact ⟨l, by simp [Files.set, hxs, e1], hnk e2⟩
  · intro x hx
    by_cases hxs : x = s
    · subst hxs
      simp only [Names.set, if_true] at hx
      simp [Files.set, hnone hx]
    · simp only [Names.set, hxs, if_false] at hx
      simp [Files.set, hxs, h.no x hx]
  · intro x x' b hx hx'
    by_cases hxs : x = s
    · subst hxs
      by_cases hxs' : x' = x
      · exact hxs'.symm
      · simp only [Names.set, if_true] at hx
        simp only [Names.set, hxs', if_false] at hx'
        obtain ⟨_, _, _, _, h4⟩ := hsome b hx
        exact absurd hx' (h4 x')
    · simp only [Names.set, hxs, if_false] at hx
      by_cases hxs' : x' = s
      · subst hxs'
        simp only [Names.set, if_true] at hx'
        obtain ⟨_, _, _, _, h4⟩ := hsome b hx'
        exact absurd hx (h4 x)
      · simp only [Names.set, hxs', if_false] at hx'
        exact h.inj x x' b hx hx'
  · intro x b hx
    by_cases hxs : x = s
    · subst hxs
      simp only [Names.set, if_true] at hx
      obtain ⟨_, _, _, h3, _⟩ := hsome b hx
      exact h3
    · simp only [Names.set, hxs, if_false] at hx
      exact h.kb x b hx
  · intro g hg hk
    rcases hat with e | ⟨k, e, hk2⟩
    · exact h.kv g (e ▸ hg) hk
    · rw [e] at hg; cases hg
      have := h.bd _ hk; omega
  · intro k hk
    have := h.bd k hk; omega

theorem DiskAt.below' {w w' : World} {d c mn ms : Nat} {K : Nat → Prop} {now safe : Names} {mv : Value} {L : List Steps} {room : Int} {F : Files} (h : DiskAt w d K c mn ms now safe mv L room F) (hb : Below w.heap.size w w') : DiskAt w' d K c mn ms now safe mv L room F :=
  (h.below hb).less fun _ => .inl

set_option maxHeartbeats 400000 in
theorem create_old {w : World} {d c mn ms b : Nat} {K : Nat → Prop} {now safe : Names} {mv : Value} {L : List Steps} {room : Int} {F : Files} (h : DiskAt w d K c mn ms now safe mv L room F) (s : Name) (hs : s.length ≤ maxLen) (hb : now s = some b) :
    Calls Tryz.prog 82 #[.pointer (some ⟨d, 0, none⟩), .string ⟨s.toArray⟩] w fun e w' => e = .returned (fileErr w.heap.size) ∧ w' = w.alloc (errObj s 12) := by
  have ht := h.top
  have c0 := ht.c0
  have hm := h.mnow
  have cf := fails_any w d ht.c4 ht.c5
  have e1 : ptr (now s) = .pointer (some ⟨b, 0, none⟩) := by rw [hb]; rfl
  clear h
  go_enter Tryz.func82, Tryz.ntmps82
  go_wp2_with (first | (at_lookup; refine wp_look _ rfl _ _ 151 rfl 9 150 Tryz.strK Tryz.underlying151 Tryz.zeroNode mn _ _ rfl hm s rfl hs ?_; rw [e1]) | (go_at_call 85; refine cf.mono ?_; rintro e w' ⟨rfl, rfl⟩))
  go_ret
  exact ⟨rfl, rfl⟩

set_option maxHeartbeats 400000 in
theorem create_new {w : World} {d c mn ms : Nat} {K : Nat → Prop} {now safe : Names} {mv : Value} {L : List Steps} {room : Int} {F : Files} (h : DiskAt w d K c mn ms now safe mv L room F) (s : Name) (hs : s.length ≤ maxLen) (hb : now s = none) (hc : c < 1000000) :
    Calls Tryz.prog 82 #[.pointer (some ⟨d, 0, none⟩), .string ⟨s.toArray⟩] w fun e w' => e = .returned .nilIface ∧
      (∃ b mv', DiskAt w' d K (c + 1) mn ms (now.set s (some b)) safe mv' (L ++ [[(s, some b)]]) room (F.set s (some [])) ∧ w'.heap[b]? = some (.cells #[.slice none 0 0, .int .i64 0] 156)) ∧ Kept K w w' := by
  have ht := h.top
  have c0 := ht.c0
  have hm := h.mnow
  have cf := fails_any w d ht.c4 ht.c5
  have e1 : ptr (now s) = .pointer none := by rw [hb]; rfl
  have hB : Below w.heap.size w ((w.alloc (.cells #[.slice none 0 0, .int .i64 0] 156)).alloc (.cells #[.string ⟨s.toArray⟩, .pointer (some ⟨w.heap.size, 0, none⟩)] 241)) := ((Below.refl _ w).alloc (Nat.le_refl _) _).alloc (by simp) _
  have h2 := h.below' hB
  have hblk : ((w.alloc (.cells #[.slice none 0 0, .int .i64 0] 156)).alloc (.cells #[.string ⟨s.toArray⟩, .pointer (some ⟨w.heap.size, 0, none⟩)] 241)).heap[w.heap.size]? = some (.cells #[.slice none 0 0, .int .i64 0] 156) := by
    rw [(World.grownBy_alloc _ _ none).block w.heap.size (by simp) (by simp)]
    exact (MapKept.heap_alloc w _).1
  have hn : NodeAt ((w.alloc (.cells #[.slice none 0 0, .int .i64 0] 156)).alloc (.cells #[.string ⟨s.toArray⟩, .pointer (some ⟨w.heap.size, 0, none⟩)] 241)) w.heap.size [] :=
    ⟨by simp, .slice none 0 0, hblk, Own.nil _ _⟩
  have hv : MoveRow ((w.alloc (.cells #[.slice none 0 0, .int .i64 0] 156)).alloc (.cells #[.string ⟨s.toArray⟩, .pointer (some ⟨w.heap.size, 0, none⟩)] 241)) (.slice (some ⟨w.heap.size + 1, 0, none⟩) 1 1) [(s, some w.heap.size)] := by
    refine ⟨w.heap.size + 1, 1, rfl, ?_, by simpa using hs⟩
    have := (MapKept.heap_alloc (w.alloc (.cells #[.slice none 0 0, .int .i64 0] 156)) (.cells #[.string ⟨s.toArray⟩, .pointer (some ⟨w.heap.size, 0, none⟩)] 241)).1
    simpa [ptr] using this
  have cn := h2.step s (some w.heap.size) _ hv (some []) (fun b e => by
    cases e
    refine ⟨[], rfl, hn, fun hk => ?_, fun x hx => ?_⟩
    · have := h.bd _ hk; omega
    · obtain ⟨l, _, hl⟩ := h.node x _ hx
      have := hl.lt; omega) (fun e => by cases e) hc
  have hk2 : Kept K w ((w.alloc (.cells #[.slice none 0 0, .int .i64 0] 156)).alloc (.cells #[.string ⟨s.toArray⟩, .pointer (some ⟨w.heap.size, 0, none⟩)] 241)) := .of_below hB
  clear h h2 hn hv hB
  go_enter Tryz.func82, Tryz.ntmps82
  go_wp2_with (first | (at_lookup; refine wp_look _ rfl _ _ 151 rfl 9 150 Tryz.strK Tryz.underlying151 Tryz.zeroNode mn _ _ rfl hm s rfl hs ?_; rw [e1]) | (go_at_call 85; refine cf.mono ?_; rintro e w' ⟨rfl, rfl⟩))
  refine cn.mono ?_
  rintro e w3 ⟨rfl, ⟨mv', h3⟩, hk3, hst3⟩
  have hblk3 := (hst3 _ _ _ _ hblk (by decide) (by decide)).trans hblk
  clear cn hst3 hblk
  go_wp2
  go_ret
  exact ⟨rfl, ⟨_, mv', h3, hblk3⟩, hk2.trans hk3⟩

set_option maxHeartbeats 400000 in
theorem remove_some {w : World} {d c mn ms b : Nat} {K : Nat → Prop} {now safe : Names} {mv : Value} {L : List Steps} {room : Int} {F : Files} (h : DiskAt w d K c mn ms now safe mv L room F) (s : Name) (hs : s.length ≤ maxLen) (hb : now s = some b) (hc : c < 1000000) :
    Calls Tryz.prog 148 #[.pointer (some ⟨d, 0, none⟩), .string ⟨s.toArray⟩] w fun e w' => e = .returned .nilIface ∧
      (∃ mv', DiskAt w' d K (c + 1) mn ms (now.set s none) safe mv' (L ++ [[(s, none)]]) room (F.set s none)) ∧ Kept K w w' := by
  have cf := find_some w d mn ms c b mv room now s h.top h.mnow hs hb
  have hB : Below w.heap.size w (w.alloc (.cells #[.string ⟨s.toArray⟩, .pointer none] 241)) := (Below.refl _ w).alloc (Nat.le_refl _) _
  have h2 := h.below' hB
  have hv : MoveRow (w.alloc (.cells #[.string ⟨s.toArray⟩, .pointer none] 241)) (.slice (some ⟨w.heap.size, 0, none⟩) 1 1) [(s, none)] := by
    refine ⟨w.heap.size, 1, rfl, ?_, by simpa using hs⟩
    simpa [ptr] using (MapKept.heap_alloc w (.cells #[.string ⟨s.toArray⟩, .pointer none] 241)).1
  have cn := h2.step s none _ hv none (fun b e => by cases e) (fun _ => rfl) hc
  have hk2 : Kept K w (w.alloc (.cells #[.string ⟨s.toArray⟩, .pointer none] 241)) := .of_below hB
  clear h h2 hv hB
  go_enter Tryz.func148, Tryz.ntmps148
  go_wp2_with (first | (go_at_call 87; refine cf.mono ?_; rintro e w' ⟨rfl, rfl⟩))
  refine cn.mono ?_
  rintro e w3 ⟨rfl, ⟨mv', h3⟩, hk3, _⟩
  clear cn
  go_wp2
  go_ret
  exact ⟨rfl, ⟨mv', h3⟩, hk2.trans hk3⟩
end Go.Proofs.YtakjpgjcfecfiaaGreatDoor
