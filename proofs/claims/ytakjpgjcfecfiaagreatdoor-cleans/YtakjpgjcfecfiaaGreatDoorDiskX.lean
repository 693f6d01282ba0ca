import Derived.Test.YtakjpgjcfecfiaaGreatDoorDiskI
import Derived.Test.YtakjpgjcfecfiaaGreatDoorDiskR
/- keydirlaw.files: what a disk has. -/
namespace Go.Proofs.YtakjpgjcfecfiaaGreatDoor
open Go.RowKit Go.Maps Go.Joins

theorem Tryz.infoFile : (Tryz.prog.info? 37).map (fun i => (i.zero, i.size, i.bytes)) = some (some (.agg #[.string ⟨#[]⟩, .slice none 0 0]), 2, 40) := by kernel_rfl

/-- a list of files in memory: names, and slices that hold the bytes -/
def FRow (w : World) (base : Nat) (v : Value) (l : List (Name × List UInt8)) : Prop :=
  ∃ vs : List Value, vs.length = l.length ∧ w.ownsRow base 37 2 v l.length ((l.zip vs).flatMap fun p => [encStr p.1.1, p.2]) ∧ ∀ i, i < l.length → Own w base (vs.getD i undef) (l.getD i ([], [])).2.length (l.getD i ([], [])).2 ∧ (l.getD i ([], [])).2.length ≤ 1000000

/-- what a disk has, in the order of the names -/
def IsFiles (F : Files) (l : List (Name × List UInt8)) : Prop := (l.map (·.1)).Pairwise (fun a b => leB a b = true) ∧ (l.map (·.1)).Nodup ∧ (∀ p ∈ l, F p.1 = some p.2) ∧ ∀ s b, F s = some b → (s, b) ∈ l

theorem zip_snoc {α β : Type} (l : List α) (k : List β) (a : α) (b : β) (h : k.length = l.length) : (l ++ [a]).zip (k ++ [b]) = l.zip k ++ [(a, b)] := by
  rw [List.zip_append h.symm]; rfl

theorem Own.low {w : World} {base base' n : Nat} {v : Value} {l : List UInt8} (h : Own w base v n l) (hb : base' ≤ base) : Own w base' v n l := by
  obtain ⟨h1, h2, h3 | ⟨g, cap, cur, e, hg, r⟩⟩ := h
  · exact ⟨h1, h2, .inl h3⟩
  · exact ⟨h1, h2, .inr ⟨g, cap, cur, e, Nat.le_trans hb hg, r⟩⟩
theorem FRow.below {w w' : World} {base : Nat} {v : Value} {l : List (Name × List UInt8)} (h : FRow w base v l) (hb : Below w.heap.size w w') : FRow w' base v l := by
  obtain ⟨vs, h1, h2, h3⟩ := h
  refine ⟨vs, h1, h2.kept (row := none) ⟨hb.os, hb.tape, hb.output, hb.size, fun k hk _ => hb.block k hk⟩ (by cases e : v.ownBlock <;> simp), fun i hi => ⟨(h3 i hi).1.kept hb (Nat.le_refl _), (h3 i hi).2⟩⟩
theorem FRow.low {w : World} {base base' : Nat} {v : Value} {l : List (Name × List UInt8)} (h : FRow w base v l) (hb : base' ≤ base) : FRow w base' v l := by
  obtain ⟨vs, h1, ⟨h2, h3 | ⟨g, cap, cur, e, hg, r⟩⟩, h4⟩ := h
  · exact ⟨vs, h1, ⟨h2, .inl h3⟩, fun i hi => ⟨(h4 i hi).1.low hb, (h4 i hi).2⟩⟩
  · exact ⟨vs, h1, ⟨h2, .inr ⟨g, cap, cur, e, Nat.le_trans hb hg, r⟩⟩, fun i hi => ⟨(h4 i hi).1.low hb, (h4 i hi).2⟩⟩
theorem FRow.nil (w : World) (base : Nat) : FRow w base (.slice none 0 0) [] := ⟨[], rfl, World.ownsRow_nil _ _ _ _, fun i hi => by simp at hi⟩
theorem FRow.shape {w : World} {base : Nat} {v : Value} {l : List (Name × List UInt8)} (h : FRow w base v l) : ∃ a cap, v = .slice a l.length cap ∧ (0 < l.length → ∃ g, a = some ⟨g, 0, none⟩) := by
  obtain ⟨vs, h1, h2, h3⟩ := h
  exact row_shape h2
theorem cells_two_new (w : World) (x y : Value) (t : TypeId) : ∀ j u, [x, y][j]? = some u → (w.alloc (.cells #[x, y] t)).cell? ((⟨w.heap.size, 0, none⟩ : Addr).add j) = some u := by
  intro j u hj
  match j, hj with
  | 0, hj => simp at hj; subst hj; simp [Addr.add]
  | 1, hj => simp at hj; subst hj; simp [Addr.add]

/-- out = append(out, File{..}) -/
theorem app_file (w : World) {ops : Array Oper} {rest : List Oper} {o : Oper} {a : Act} {Q : Exit → Act → World → Prop} (hgd : o.guard = none)
    (so x : Operand) (ho : o.op = Op.call { callee := Callee.builtin Builtin.append, args := #[so, x], argTypes := #[32, 32] })
    (base : Nat) (v : Value) (l : List (Name × List UInt8)) (hs : a.eval so = v) (hown : FRow w base v l) (hbase : base ≤ w.heap.size) (s : Name) (u : Value) (b : List UInt8) (hu : Own w base u b.length b) (hub : b.length ≤ 1000000) (hl : l.length ≤ 1000000)
    (hx : a.eval x = .slice (some ⟨w.heap.size, 0, none⟩) 1 1)
    (h : ∀ v' w', FRow w' base v' (l ++ [(s, b)]) → Below base (w.alloc (.cells #[encStr s, u] 37)) w' → wpList Tryz.prog ops Q rest (a.put o.dst v') w') :
    wpList Tryz.prog ops Q (o :: rest) a (w.alloc (.cells #[encStr s, u] 37)) := by
  obtain ⟨i0, hi, hz0, hz1, hz2⟩ := info_parts Tryz.infoFile
  obtain ⟨vs, h1, h2, h3⟩ := hown
  have hu1 : u.oneCell' = true := by obtain ⟨a, cap, rfl⟩ := hu.sl; rfl
  refine wpList_append_own_at _ hgd so x 32 ho base 37 i0 (.agg #[.string ⟨#[]⟩, .slice none 0 0]) 2 40 Tryz.underlying32 hi hz0 hz1 hz2 rfl (by decide) v l.length _ hs (h2.alloc _) ⟨w.heap.size, 0, none⟩ 1 1 [encStr s, u] hx rfl (cells_two_new _ _ _ _)
    (by
      intro z hz
      simp at hz
      rcases hz with rfl | rfl
      · rfl
      · exact hu1) (by unfold maxLen; omega) (by omega) (by simp; omega) ?_
  intro v' w' hr hg _ _
  have hall : ∀ {z : Value} {n : Nat} {bs : List UInt8}, Own w base z n bs → Own w' base z n bs := by
    intro z n bs hz
    have hz2 := hz.alloc (.cells #[encStr s, u] 37)
    refine ⟨hz2.1, hz2.2.kept hg ?_⟩
    by_cases e : v.ownBlock = none
    · exact (by cases hzb : z.ownBlock with
        | none => exact .inl rfl
        | some k => exact .inr (by rw [e]; simp))
    · cases hzb : z.ownBlock with
      | none => exact .inl rfl
      | some k =>
        refine .inr fun e2 => ?_
        obtain ⟨cs1, hb1⟩ := row_block hz2.2 hzb
        obtain ⟨cs2, hb2⟩ := row_block (h2.alloc (.cells #[encStr s, u] 37)) e2.symm
        rw [hb1] at hb2
        cases hb2
  refine h v' w' ⟨vs ++ [u], by simp [h1], ?_, fun i hi2 => ?_⟩ ((Below.refl _ _).grown hg (by simp; omega) (fun k hk => (h2.lt k hk).1))
  · rw [zip_snoc _ _ _ _ h1, List.flatMap_append]
    simpa using hr
  · by_cases hlt : i < l.length
    · have e1 : (vs ++ [u]).getD i undef = vs.getD i undef := by simp [List.getElem?_append_left (show i < vs.length by omega)]
      have e2 : (l ++ [(s, b)]).getD i ([], []) = l.getD i ([], []) := by simp [List.getElem?_append_left hlt]
      rw [e1, e2]
      exact ⟨hall (h3 i hlt).1, (h3 i hlt).2⟩
    · have : i = l.length := by simp at hi2; omega
      subst this
      have e1 : (vs ++ [u]).getD l.length undef = u := by rw [← h1]; simp
      have e2 : (l ++ [(s, b)]).getD l.length ([], []) = (s, b) := by simp
      rw [e1, e2]
      exact ⟨hall hu, hub⟩
def entry (F : Files) (s : Name) : Name × List UInt8 := (s, (F s).getD [])

set_option maxRecDepth 100000 in
set_option maxHeartbeats 2000000 in
theorem files_any {w : World} {d c mn ms : Nat} {K : Nat → Prop} {now safe : Names} {mv : Value} {L : List Steps} {room : Int} {F : Files} (h : DiskAt w d K c mn ms now safe mv L room F) (hc : c ≤ 1000000) :
    Calls Tryz.prog 14 #[.pointer (some ⟨d, 0, none⟩)] w fun e w' => ∃ v l, e = .returned v ∧ FRow w' w.heap.size v l ∧ IsFiles F l ∧ l.length ≤ c ∧ (∀ p ∈ l, p.1.length ≤ maxLen) ∧ Below w.heap.size w w' := by
  obtain ⟨i0, hi, hz0, hz1, hz2⟩ := info_parts Tryz.infoFile
  have cl := list_any h.top h.mnow hc
  go_enter Tryz.func14, Tryz.ntmps14
  go_wp2_with fail
  refine cl.mono ?_
  rintro e w1 ⟨v1, ns, rfl, hrow, hN, hnc, hnl, hB1⟩
  obtain ⟨a1, cap1, rfl, ha1⟩ := row_shape hrow
  clear cl
  have hsz1 := hB1.size
  go_wp2
  go_loopw [3, 5] (fun v i wr => ∃ k : Nat, k ≤ ns.length ∧ i = .int .i64 k ∧ FRow wr w1.heap.size v ((ns.take k).map (entry F)) ∧ Below w1.heap.size w1 wr) (fun _ i _ => ns.length - (intOf i).toNat)
  case atStart => exact ⟨0, Nat.zero_le _, rfl, FRow.nil _ _, Below.refl _ _⟩
  case round =>
    obtain ⟨k, hk, rfl, hfr, hBr⟩ := hrel
    have hBw : Below w.heap.size w wr := hB1.trans (hBr.mono hsz1)
    have hlk : ((ns.take k).map (entry F)).length = k := by simp; omega
    obtain ⟨av, capv, hve, _⟩ := hfr.shape
    rw [hlk] at hve
    subst hve
    by_cases hlt : k < ns.length
    · obtain ⟨g1, rfl⟩ := ha1 (by omega)
      have hmem : ns.getD k [] ∈ ns := by rw [List.getD_eq_getElem?_getD]; simp [hlt]
      have htk := take_snoc ns k [] hlt
      have hc1 : w1.cell? ⟨g1, k, none⟩ = some (encStr (ns.getD k [])) := by
        have := World.ownsRow.cellAt hrow k (by omega)
        rw [this]; simp [hlt]
      have hcr : wr.cell? ⟨g1, k, none⟩ = some (encStr (ns.getD k [])) := (hBr.cell (p := ⟨g1, k, none⟩) (World.block_lt_of_cell? _ _ hc1)).trans hc1
      have hsl := hnl _ hmem
      have hsome := (hN.mem _).1 hmem
      generalize ns.getD k [] = s at hcr hsl hsome htk
      obtain ⟨b, hb⟩ := Option.isSome_iff_exists.1 hsome
      obtain ⟨lb, hF, _⟩ := h.node s b hb
      have hr := h.below' hBw
      obtain ⟨lb', hF', hnode⟩ := hr.node s b hb
      rw [hF] at hF'; cases hF'
      have hll := hnode.1
      have cz := size_any wr d mn ms c b mv room now s lb hr.top hr.mnow hsl hb hnode
      have ca := readAt_all wr d mn ms c b mv room (lb.length : Int) now s lb hr.top hr.mnow hsl hb hnode (Int.le_refl _)
      have hent : entry F s = (s, lb) := by simp [entry, hF]
      clear hc1 hr hnode hmem
      go_wp2_with (first | (go_at_call 55; refine cz.mono ?_; rintro e w' ⟨rfl, hw'⟩; rw [hw']; clear hw'))
      refine ca.mono ?_
      rintro e w2 ⟨v2, rfl, ho2, hB2⟩
      obtain ⟨a2, cap2, rfl⟩ := ho2.sl
      have hfr2 := hfr.below hB2
      have hsr := hBr.size
      have hs2 := hB2.size
      have hc2 : w2.cell? ⟨g1, k, none⟩ = some (encStr s) := (hB2.cell (p := ⟨g1, k, none⟩) (World.block_lt_of_cell? _ _ hcr)).trans hcr
      have ho2' : Own w2 w1.heap.size (.slice a2 lb.length cap2) lb.length lb := ho2.low hsr
      clear ca cz hcr
      go_wp2_with (first | (at_builtin; go_loud (refine app_file _ rfl _ _ rfl w1.heap.size _ _ rfl hfr2 (by omega) s _ lb ho2' hll (by rw [hlk]; omega) rfl ?_; intro v3 w3 hfr3 hB3)))
      have hB4 : Below w1.heap.size w1 w3 := ((hBr.trans (hB2.mono hsr)).alloc (by omega) _).trans hB3
      rw [← hent] at hfr3
      obtain ⟨av3, capv3, hve3, _⟩ := hfr3.shape
      rw [List.length_append, hlk] at hve3
      subst hve3
      clear hB3 hfr2 hfr
      go_wp2
      go_roundw
      case rel => exact ⟨k + 1, by omega, by go_num, by rw [htk, List.map_append]; exact hfr3, hB4⟩
      case measure => simp [intOf]; omega
    · obtain rfl : k = ns.length := by omega
      rw [List.take_length] at hfr hlk
      go_wp2
      go_ret
      refine ⟨_, ns.map (entry F), rfl, hfr.low hsz1, ⟨?_, ?_, ?_, ?_⟩, by rw [hlk]; exact hnc, ?_, hBw⟩
      · rw [List.map_map, show ((fun x => x.1) ∘ entry F) = id from rfl, List.map_id]; exact hN.sorted
      · rw [List.map_map, show ((fun x => x.1) ∘ entry F) = id from rfl, List.map_id]; exact hN.nodup
      · intro p hp
        obtain ⟨s, hs, rfl⟩ := List.mem_map.1 hp
        obtain ⟨b, hb⟩ := Option.isSome_iff_exists.1 ((hN.mem s).1 hs)
        obtain ⟨lb, hF, _⟩ := h.node s b hb
        simp [entry, hF]
      · intro s b hF
        refine List.mem_map.2 ⟨s, (hN.mem s).2 ?_, by simp [entry, hF]⟩
        cases hn : now s with
        | none => rw [h.no s hn] at hF; cases hF
        | some _ => rfl
      · intro p hp
        obtain ⟨s, hs, rfl⟩ := List.mem_map.1 hp
        exact hnl s hs
end Go.Proofs.YtakjpgjcfecfiaaGreatDoor
