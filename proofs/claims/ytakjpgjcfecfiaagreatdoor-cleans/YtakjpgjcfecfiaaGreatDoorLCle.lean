import Derived.Test.YtakjpgjcfecfiaaGreatDoorLTdy
import Derived.Deep.CutRange
import Derived.Deep.DeepCutAuto
import Derived.Deep.RegionHeld3
/- merge.tidy. -/
namespace Go.Proofs.YtakjpgjcfecfiaaGreatDoor
open Go.RowKit Go.Maps Go.Joins

abbrev Z3 : Obj := .cells #[.slice none 0 0, .slice none 0 0, .slice none 0 0] 290
/-- what tidy has laid out: the names by their fates -/
structure Laid3 (W wc : World) (ids : List Nat) (ns : List Name) (b : Nat) (v0 v2 : Value) : Prop where
  c0 : wc.cell? ⟨b, 0, none⟩ = some v0
  c2 : wc.cell? ⟨b, 2, none⟩ = some v2
  row0 : StrRow wc W.heap.size v0 (fated ids ns 0)
  row2 : StrRow wc W.heap.size v2 (fated ids ns 2)
  below : Below W.heap.size W wc
  hi : W.heap.size ≤ b
theorem Laid3.of_set {W w : World} {ids : List Nat} {ns : List Name} {b B : Nat} {v0 v2 : Value} (v1 : Value) (hb : w.heap[b]? = some Z3) (hWb : W.heap.size ≤ b) (hbB : b < B) (hr0 : StrRow w B v0 (fated ids ns 0)) (hr2 : StrRow w B v2 (fated ids ns 2)) (hB : Below W.heap.size W w) :
    Laid3 W (((w.setCell ⟨b, 0, none⟩ v0).setCell ⟨b, 1, none⟩ v1).setCell ⟨b, 2, none⟩ v2) ids ns b v0 v2 := by
  have h1 := heap_setCell_same w b 0 _ _ v0 hb
  have h2 := heap_setCell_same _ b 1 _ _ v1 h1
  have h3 := heap_setCell_same _ b 2 _ _ v2 h2
  refine ⟨?_, ?_, ?_, ?_, ?_, hWb⟩
  · rw [cell_of_block h3]; rfl
  · rw [cell_of_block h3]; rfl
  · exact row_mono (ownsRow_setCell_below (ownsRow_setCell_below (ownsRow_setCell_below hr0 hbB _) hbB _) hbB _) (by omega)
  · exact row_mono (ownsRow_setCell_below (ownsRow_setCell_below (ownsRow_setCell_below hr2 hbB _) hbB _) hbB _) (by omega)
  · exact ((hB.setCell hWb _).setCell hWb _).setCell hWb _
theorem Laid3.of_alloc {W w : World} {ids : List Nat} {ns : List Name} {B : Nat} {v0 v2 : Value} (v1 : Value) (hWB : W.heap.size ≤ B) (hr0 : StrRow w B v0 (fated ids ns 0)) (hr2 : StrRow w B v2 (fated ids ns 2)) (hB : Below W.heap.size W w) :
    Laid3 W (w.alloc (.cells #[v0, v1, v2] 290)) ids ns w.heap.size v0 v2 := by
  have h3 := (MapKept.heap_alloc w (.cells #[v0, v1, v2] 290)).1
  refine ⟨?_, ?_, row_mono (hr0.alloc _) hWB, row_mono (hr2.alloc _) hWB, hB.alloc hB.size _, hB.size⟩
  · rw [cell_of_block h3]; rfl
  · rw [cell_of_block h3]; rfl

theorem five (w : World) (o1 o2 o3 o4 o5 : Obj) (x : World) (hx : x = (((((w.alloc o1).alloc o2).alloc o3).alloc o4).alloc o5).drew) :
    x.heap[w.heap.size]? = some o1 ∧ x.heap[w.heap.size + 1]? = some o2 ∧ x.heap[w.heap.size + 1 + 1]? = some o3 ∧ x.heap[w.heap.size + 1 + 1 + 1]? = some o4 ∧ x.heap[w.heap.size + 1 + 1 + 1 + 1]? = some o5 ∧ Below w.heap.size w x ∧ x.heap.size = w.heap.size + 5 := by
  obtain ⟨w1, h1⟩ : ∃ w1, w1 = w.alloc o1 := ⟨_, rfl⟩
  obtain ⟨w2, h2⟩ : ∃ w2, w2 = w1.alloc o2 := ⟨_, rfl⟩
  obtain ⟨w3, h3⟩ : ∃ w3, w3 = w2.alloc o3 := ⟨_, rfl⟩
  obtain ⟨w4, h4⟩ : ∃ w4, w4 = w3.alloc o4 := ⟨_, rfl⟩
  rw [← h1, ← h2, ← h3, ← h4] at hx
  have s1 : w1.heap.size = w.heap.size + 1 := by rw [h1]; simp
  have s2 : w2.heap.size = w.heap.size + 1 + 1 := by rw [h2]; simp [s1]
  have s3 : w3.heap.size = w.heap.size + 1 + 1 + 1 := by rw [h3]; simp [s2]
  have s4 : w4.heap.size = w.heap.size + 1 + 1 + 1 + 1 := by rw [h4]; simp [s3]
  have s5 : x.heap.size = w.heap.size + 5 := by rw [hx]; show (w4.alloc o5).heap.size = _; simp [s4]
  have n1 : w1.heap[w.heap.size]? = some o1 := by rw [h1]; exact (MapKept.heap_alloc w o1).1
  have n2 : w2.heap[w.heap.size + 1]? = some o2 := by rw [h2, ← s1]; exact (MapKept.heap_alloc w1 o2).1
  have n3 : w3.heap[w.heap.size + 1 + 1]? = some o3 := by rw [h3, ← s2]; exact (MapKept.heap_alloc w2 o3).1
  have n4 : w4.heap[w.heap.size + 1 + 1 + 1]? = some o4 := by rw [h4, ← s3]; exact (MapKept.heap_alloc w3 o4).1
  have n5 : x.heap[w.heap.size + 1 + 1 + 1 + 1]? = some o5 := by rw [hx, ← s4]; exact (MapKept.heap_alloc w4 o5).1
  have k2 : ∀ q, q < w1.heap.size → w2.heap[q]? = w1.heap[q]? := by rw [h2]; exact (MapKept.heap_alloc w1 o2).2
  have k3 : ∀ q, q < w2.heap.size → w3.heap[q]? = w2.heap[q]? := by rw [h3]; exact (MapKept.heap_alloc w2 o3).2
  have k4 : ∀ q, q < w3.heap.size → w4.heap[q]? = w3.heap[q]? := by rw [h4]; exact (MapKept.heap_alloc w3 o4).2
  have k5 : ∀ q, q < w4.heap.size → x.heap[q]? = w4.heap[q]? := by rw [hx]; exact (MapKept.heap_alloc w4 o5).2
  have hB : Below w.heap.size w x := by
    have b1 : Below w.heap.size w w1 := by rw [h1]; exact (Below.refl _ w).alloc (Nat.le_refl _) _
    have b2 : Below w.heap.size w w2 := by rw [h2]; exact b1.alloc b1.size _
    have b3 : Below w.heap.size w w3 := by rw [h3]; exact b2.alloc b2.size _
    have b4 : Below w.heap.size w w4 := by rw [h4]; exact b3.alloc b3.size _
    rw [hx]; exact (b4.alloc b4.size _).drew
  refine ⟨?_, ?_, ?_, ?_, n5, hB, s5⟩
  · rw [k5 _ (by omega), k4 _ (by omega), k3 _ (by omega), k2 _ (by omega)]; exact n1
  · rw [k5 _ (by omega), k4 _ (by omega), k3 _ (by omega)]; exact n2
  · rw [k5 _ (by omega), k4 _ (by omega)]; exact n3
  · rw [k5 _ (by omega)]; exact n4

set_option maxRecDepth 100000 in
set_option maxHeartbeats 4000000 in
theorem tidy_any {W : World} {d c mn ms bd bi m cap : Nat} {K : Nat → Prop} {now : Names} {room : Int} {F : Files} {a : Option Addr} {ids : List Nat} (h : DiskAt W d K c mn ms now now (.slice none 0 0) [] room F) (hc : c ≤ 10000) (hT : Tab W)
    (hbd : W.cell? ⟨bd, 0, none⟩ = some (.pointer (some ⟨d, 0, none⟩))) (hbi : W.cell? ⟨bi, 0, none⟩ = some (.slice a m cap)) (hKd : K bd) (hm : ids.length = m) (hm6 : m ≤ 1000) (hle : ∀ x ∈ ids, x ≤ 999999) (hids : IdsAt W a ids) :
    Calls Tryz.prog 145 #[.pointer (some ⟨bd, 0, none⟩), .pointer (some ⟨bi, 0, none⟩)] W fun e w' => e = .returned .nilIface ∧ (∃ F', Rest w' d K (c + c) F' ∧ Less F F' fun s => decide (fateN ids s = 2)) ∧ Kept K W w' := by
  have keepS : ∀ w, Below W.heap.size W w → w.cell? ⟨bd, 0, none⟩ = some (.pointer (some ⟨d, 0, none⟩)) ∧ w.cell? ⟨bi, 0, none⟩ = some (.slice a m cap) := fun w hB =>
    ⟨(hB.cell (p := ⟨bd, 0, none⟩) (World.block_lt_of_cell? _ _ hbd)).trans hbd, (hB.cell (p := ⟨bi, 0, none⟩) (World.block_lt_of_cell? _ _ hbi)).trans hbi⟩
  have cl : ∀ w, Below W.heap.size W w → Calls Tryz.prog 54 #[.pointer (some ⟨d, 0, none⟩)] w fun e w' => ∃ v ns, e = .returned v ∧ StrRow w' W.heap.size v ns ∧ IsNames now ns ∧ ns.length ≤ c ∧ (∀ s ∈ ns, s.length ≤ maxLen) ∧ Below w.heap.size w w' ∧ Below W.heap.size W w' := by
    intro w hB
    have hd := h.below' hB
    refine (list_any hd.top hd.mnow (by omega)).mono ?_
    rintro e w' ⟨v, ns, rfl, hr, hN, hn, hl, hB'⟩
    exact ⟨v, ns, rfl, row_mono hr hB.size, hN, hn, hl, hB', hB.trans (hB'.mono hB.size)⟩
  have cs : ∀ w v ns, Below W.heap.size W w → StrRow w W.heap.size v ns → ns.length ≤ c → (∀ s ∈ ns, s.length ≤ maxLen) → Calls Tryz.prog 146 #[v, .slice a m cap] w fun e w' => ∃ a0 n0 p0 a1 n1 p1 a2 n2 p2, e = .returned (.agg #[.slice a0 n0 p0, .slice a1 n1 p1, .slice a2 n2 p2]) ∧ StrRow w' w.heap.size (.slice a0 n0 p0) (fated ids ns 0) ∧ StrRow w' w.heap.size (.slice a2 n2 p2) (fated ids ns 2) ∧ Below w.heap.size w w' ∧ Below W.heap.size W w' := by
    intro w v ns hB hr hn hl
    refine (sortOut_any hr (hT.below hB) hm (by omega) hle (hids.stay hB) (by omega) hl).mono ?_
    rintro e w' ⟨r, rfl, hrr, hB'⟩
    have h0 := hrr 0 (by omega)
    have h2 := hrr 2 (by omega)
    obtain ⟨a0, p0, s0, _⟩ := row_shape h0
    obtain ⟨a1, p1, s1, _⟩ := row_shape (hrr 1 (by omega))
    obtain ⟨a2, p2, s2, _⟩ := row_shape h2
    rw [s0] at h0
    rw [s2] at h2
    rw [s0, s1, s2]
    exact ⟨_, _, _, _, _, _, _, _, _, rfl, h0, h2, hB', hB.trans (hB'.mono hB.size)⟩
  have hBd : Below W.heap.size W W.drew := (Below.refl _ W).drew
  have lbd := World.block_lt_of_cell? _ _ hbd
  have lbi := World.block_lt_of_cell? _ _ hbi
  simp only at lbd lbi
  have ne1 : W.heap.size ≠ bd := by omega
  have ne2 : W.heap.size ≠ bi := by omega
  have hZ0 : ((W.drew).alloc Z3).heap[W.heap.size]? = some Z3 := (MapKept.heap_alloc W.drew Z3).1
  go_enter Tryz.func145, Tryz.ntmps145
  go_upto_region 1 with fail
  go_cut [3] (fun p wc => ∃ b a0 n0 p0 a2 n2 p2 ns, p = .pointer (some ⟨b, 0, none⟩) ∧ Laid3 W wc ids ns b (.slice a0 n0 p0) (.slice a2 n2 p2) ∧ IsNames now ns ∧ ns.length ≤ c ∧ ∀ s ∈ ns, s.length ≤ maxLen)
  case first =>
    go_region_held3 (fun w' => w'.cell? ⟨bd, 0, none⟩ = some (.pointer (some ⟨d, 0, none⟩)) ∧ w'.cell? ⟨bi, 0, none⟩ = some (.slice a m cap)) (first | (constructor <;> assumption) | go_keep)
      (first
        | (go_at_call 54; refine (cl W.drew hBd).mono ?_; rintro e w1 ⟨v1, ns, rfl, hr1, hN, hn1, hl1, hB1, hBW1⟩; obtain ⟨k1a, k1b⟩ := keepS w1 hBW1; have ne3 : w1.heap.size ≠ bd := Nat.ne_of_gt (Nat.lt_of_lt_of_le lbd hBW1.size); have ne4 : w1.heap.size ≠ bi := Nat.ne_of_gt (Nat.lt_of_lt_of_le lbi hBW1.size))
        | (go_at_call 54; refine (cl (W.drew.alloc Z3) (hBd.alloc hBd.size _)).mono ?_; rintro e w1 ⟨v1, ns, rfl, hr1, hN, hn1, hl1, hB1, hBW1⟩; obtain ⟨k1a, k1b⟩ := keepS w1 hBW1; have ne3 : w1.heap.size ≠ bd := Nat.ne_of_gt (Nat.lt_of_lt_of_le lbd hBW1.size); have ne4 : w1.heap.size ≠ bi := Nat.ne_of_gt (Nat.lt_of_lt_of_le lbi hBW1.size); have hZ1 := (hB1.block W.heap.size (by simp)).trans hZ0)
        | (go_at_call 146; have hZ1' := hZ1; refine (cs w1 v1 ns hBW1 hr1 hn1 hl1).mono ?_; rintro e w2 ⟨a0, n0, p0, a1, n1, p1, a2, n2, p2, rfl, hr20, hr22, hB2, hBW2⟩; obtain ⟨k2a, k2b⟩ := keepS w2 hBW2; have hZ2 := (hB2.block W.heap.size (Array.getElem?_eq_some_iff.1 hZ1).1).trans hZ1; have q0 : w2.cell? ⟨W.heap.size, 0, none⟩ = some (.slice none 0 0) := by { rw [cell_of_block hZ2]; rfl }; have q1 : w2.cell? ⟨W.heap.size, 1, none⟩ = some (.slice none 0 0) := by { rw [cell_of_block hZ2]; rfl }; have q2 : w2.cell? ⟨W.heap.size, 2, none⟩ = some (.slice none 0 0) := by { rw [cell_of_block hZ2]; rfl }; have z0 := unfrozen_of_block hZ2 0; have z1 := unfrozen_of_block hZ2 1; have z2 := unfrozen_of_block hZ2 2)
        | (go_at_call 146; refine (cs w1 v1 ns hBW1 hr1 hn1 hl1).mono ?_; rintro e w2 ⟨a0, n0, p0, a1, n1, p1, a2, n2, p2, rfl, hr20, hr22, hB2, hBW2⟩; obtain ⟨k2a, k2b⟩ := keepS w2 hBW2)
        | (go_at_call 146; refine (cs (w1.alloc Z3) v1 ns (hBW1.alloc hBW1.size _) (hr1.alloc _) hn1 hl1).mono ?_; rintro e w2 ⟨a0, n0, p0, a1, n1, p1, a2, n2, p2, rfl, hr20, hr22, hB2, hBW2⟩; obtain ⟨k2a, k2b⟩ := keepS w2 hBW2; have hZ2 := (hB2.block w1.heap.size (by simp)).trans (MapKept.heap_alloc w1 Z3).1; have q0 : w2.cell? ⟨w1.heap.size, 0, none⟩ = some (.slice none 0 0) := by { rw [cell_of_block hZ2]; rfl }; have q1 : w2.cell? ⟨w1.heap.size, 1, none⟩ = some (.slice none 0 0) := by { rw [cell_of_block hZ2]; rfl }; have q2 : w2.cell? ⟨w1.heap.size, 2, none⟩ = some (.slice none 0 0) := by { rw [cell_of_block hZ2]; rfl }; have z0 := unfrozen_of_block hZ2 0; have z1 := unfrozen_of_block hZ2 1; have z2 := unfrozen_of_block hZ2 2))
    · go_wp2_with fail
      go_meet
      case rel => exact ⟨_, _, _, _, _, _, _, ns, rfl, Laid3.of_alloc _ hBW1.size hr20 hr22 hBW2, hN, hn1, hl1⟩
    · go_wp2_with fail
      go_meet
      case rel => exact ⟨_, _, _, _, _, _, _, ns, rfl, Laid3.of_set _ hZ2 hBW1.size (by simp) hr20 hr22 hBW2, hN, hn1, hl1⟩
    · go_wp2_with fail
      go_meet
      case rel => exact ⟨_, _, _, _, _, _, _, ns, rfl, Laid3.of_set _ hZ2 (Nat.le_refl _) (Array.getElem?_eq_some_iff.1 hZ1).1 hr20 hr22 hBW2, hN, hn1, hl1⟩
  case rest =>
    obtain ⟨b, a0, n0, p0, a2, n2, p2, ns, rfl, ⟨c0, c2, r0, r2, hBc, hb3⟩, hN, hn, hl⟩ := hcut
    obtain ⟨kbd, _⟩ := keepS wc hBc
    clear cl cs hZ0 hBd ne1 ne2 hids hle hT
    obtain ⟨x, hx⟩ : ∃ x, x = (((((wc.alloc (.cells #[.func (.func 84) #[.pointer (some ⟨d, 0, none⟩)] #[]] 182)).alloc (.cells #[.slice a0 n0 p0] 28)).alloc (.cells #[.func (.func 148) #[.pointer (some ⟨d, 0, none⟩)] #[]] 182)).alloc (.cells #[.slice a2 n2 p2] 28)).alloc
      (.cells #[.func (.func 202) #[] #[.pointer (some ⟨wc.heap.size + 1, 0, none⟩), .pointer (some ⟨wc.heap.size, 0, none⟩)], .func (.func 53) #[.pointer (some ⟨d, 0, none⟩)] #[],
        .func (.func 202) #[] #[.pointer (some ⟨wc.heap.size + 1 + 1 + 1, 0, none⟩), .pointer (some ⟨wc.heap.size + 1 + 1, 0, none⟩)], .func (.func 53) #[.pointer (some ⟨d, 0, none⟩)] #[]] 233)).drew := ⟨_, rfl⟩
    obtain ⟨g0, g1, g2, g3, g4, hBx0, hxs⟩ := five wc _ _ _ _ _ x hx
    have hBx : Below W.heap.size W x := hBc.trans (hBx0.mono hBc.size)
    obtain ⟨K', hK'⟩ : ∃ K' : Nat → Prop, K' = fun q => K q ∨ (W.heap.size ≤ q ∧ q < x.heap.size) := ⟨_, rfl⟩
    have hdx := h.below hBx
    rw [← hK'] at hdx
    have hKK : ∀ q, K q → K' q := fun q hq => by rw [hK']; exact .inl hq
    have hKn : ∀ q, W.heap.size ≤ q → q < x.heap.size → K' q := fun q h1 h2 => by rw [hK']; exact .inr ⟨h1, h2⟩
    have hsz := hBc.size
    have hmem : ∀ f s, s ∈ fated ids ns f → s ∈ ns ∧ fateN ids s = f := fun f s hs => by
      have := List.mem_filter.1 hs
      exact ⟨this.1, by simpa using this.2⟩
    have hFs : ∀ s ∈ ns, (F s).isSome = true := fun s hs => by
      obtain ⟨bb, hb⟩ := Option.isSome_iff_exists.1 ((hN.mem s).1 hs)
      obtain ⟨lb, hFb, _⟩ := h.node s bb hb
      rw [hFb]; rfl
    have hl0 := fated_length ids ns 0
    have hl2 := fated_length ids ns 2
    have cell1 : ∀ {q : Nat} {v : Value} {t : TypeId}, x.heap[q]? = some (.cells #[v] t) → x.cell? ⟨q, 0, none⟩ = some v := fun e => by rw [cell_of_block e]; rfl
    have cit := tidy_turn hdx (B := W.heap.size) (by rw [cell_of_block g4]; rfl) (by rw [cell_of_block g4]; rfl) (by rw [cell_of_block g4]; rfl) (by rw [cell_of_block g4]; rfl) (cell1 g1) (cell1 g0) (cell1 g3) (cell1 g2)
      hKn (by omega) (by omega) (by omega) (by omega) (by omega) (row_keep r0 fun q hq => hBx0.block q (r0.lt q hq).2) (row_keep r2 fun q hq => hBx0.block q (r2.lt q hq).2) (by omega) (by omega) (hN.nodup.sublist List.filter_sublist)
      (fun s hs => hFs s (hmem 0 s hs).1) (fun s hs => hFs s (hmem 2 s hs).1) (fun s hs => hl s (hmem 0 s hs).1) (fun s hs => hl s (hmem 2 s hs).1)
    clear g0 g1 g2 g3 g4 cell1 r0 r2
    have lb := World.block_lt_of_cell? _ _ c0
    simp only at lb
    have fin : ∀ w9, (∃ F', Rest w9 d K' (c + (fated ids ns 2).length) F' ∧ Less F F' fun s => decide (s ∈ fated ids ns 2)) → Kept K' x w9 → (∃ F', Rest w9 d K (c + c) F' ∧ Less F F' fun s => decide (fateN ids s = 2)) ∧ Kept K W w9 := by
      rintro w9 ⟨F', ⟨mn', ms', now', room', hd9⟩, hless⟩ hk9
      refine ⟨⟨F', ⟨_, _, _, _, (hd9.mono (by omega)).less hKK⟩, fun s => ?_⟩, (Kept.of_below hBx).trans (hk9.mono hKK)⟩
      rw [hless s]
      by_cases hs : s ∈ ns
      · have : (s ∈ fated ids ns 2) ↔ fateN ids s = 2 := ⟨fun e => (hmem 2 s e).2, fun e => List.mem_filter.2 ⟨hs, by simpa using e⟩⟩
        simp [this]
      · have h1 : ¬ s ∈ fated ids ns 2 := fun e => hs (hmem 2 s e).1
        have h2 : F s = none := by
          have : now s = none := by
            cases hq : now s with
            | none => rfl
            | some bb => exact absurd ((hN.mem s).2 (by rw [hq]; rfl)) hs
          exact h.no s this
        simp [h1, h2]
    go_upto_region 2 with fail
    have keepC : ∀ w, Below wc.heap.size wc w → w.cell? ⟨bd, 0, none⟩ = some (.pointer (some ⟨d, 0, none⟩)) ∧ w.cell? ⟨b, 0, none⟩ = some (.slice a0 n0 p0) ∧ w.cell? ⟨b, 2, none⟩ = some (.slice a2 n2 p2) := fun w hB =>
      ⟨(hB.cell (p := ⟨bd, 0, none⟩) (World.block_lt_of_cell? _ _ kbd)).trans kbd, (hB.cell (p := ⟨b, 0, none⟩) lb).trans c0, (hB.cell (p := ⟨b, 2, none⟩) lb).trans c2⟩
    have keepX : ∀ w9, Kept K' x w9 → w9.cell? ⟨bd, 0, none⟩ = some (.pointer (some ⟨d, 0, none⟩)) ∧ w9.cell? ⟨b, 0, none⟩ = some (.slice a0 n0 p0) ∧ w9.cell? ⟨b, 2, none⟩ = some (.slice a2 n2 p2) := fun w9 hk => by
      obtain ⟨e1, e2, e3⟩ := keepC x hBx0
      exact ⟨(World.cell?_of_block (a := ⟨bd, 0, none⟩) (hk.block bd (hKK bd hKd) (by omega))).trans e1, (World.cell?_of_block (a := ⟨b, 0, none⟩) (hk.block b (hKn b hb3 (by omega)) (by omega))).trans e2, (World.cell?_of_block (a := ⟨b, 2, none⟩) (hk.block b (hKn b hb3 (by omega)) (by omega))).trans e3⟩
    refine wp_region_noPanic ?_
    refine wp_region_held_drew (S := fun w' => w'.cell? ⟨bd, 0, none⟩ = some (.pointer (some ⟨d, 0, none⟩)) ∧ w'.cell? ⟨b, 0, none⟩ = some (.slice a0 n0 p0) ∧ w'.cell? ⟨b, 2, none⟩ = some (.slice a2 n2 p2)) (by kernel_rfl) ⟨kbd, c0, c2⟩ (fun hHeld => ?_)
    refine wpAnyH_take (i := 0) (oi := { dst := some 8, op := Op.load 30 (Operand.tmp 0), type := 30, pos := "tidy.go:33", after := #[], guard := none }) (v := .pointer (some ⟨d, 0, none⟩)) rfl (by kernel_rfl) (by kernel_rfl) (by kernel_rfl) (fun _ _ _ h => h) (Or.inl ⟨by rfl, ?_⟩) (by assumption) ?_
    · intro w hSw
      obtain ⟨s1, s2, s3⟩ := hSw
      go_simp
    try simp only [Act.put, List.setIfInBounds_toArray, List.set_cons_zero, List.set_cons_succ]
    refine wpAnyH_take (i := 1) (oi := { dst := some 9, op := Op.makeFunc (Fn.func 84) #[Operand.tmp 8] #[], type := 182, pos := "tidy.go:33", after := #[{ on := 0, ground := Ground.data }], guard := none }) (v := .func (.func 84) #[.pointer (some ⟨d, 0, none⟩)] #[]) rfl (by kernel_rfl) (by kernel_rfl) (by kernel_rfl) (fun _ _ _ h => h) (Or.inl ⟨by rfl, ?_⟩) (by assumption) ?_
    · intro w hSw
      obtain ⟨s1, s2, s3⟩ := hSw
      go_simp
    try simp only [Act.put, List.setIfInBounds_toArray, List.set_cons_zero, List.set_cons_succ]
    refine wpAnyH_take (i := 2) (oi := { dst := some 10, op := Op.indexAddr 290 (Operand.tmp 3) (Operand.const (Value.int IntKind.i64 0)), type := 0, pos := "tidy.go:33", after := #[], guard := none }) (v := .pointer (some ⟨b, 0, none⟩)) rfl (by kernel_rfl) (by kernel_rfl) (by kernel_rfl) (fun _ _ _ h => h) (Or.inl ⟨by rfl, ?_⟩) (by assumption) ?_
    · intro w hSw
      obtain ⟨s1, s2, s3⟩ := hSw
      go_simp
    try simp only [Act.put, List.setIfInBounds_toArray, List.set_cons_zero, List.set_cons_succ]
    refine wpAnyH_take (i := 3) (oi := { dst := some 11, op := Op.load 28 (Operand.tmp 10), type := 28, pos := "tidy.go:33", after := #[{ on := 2, ground := Ground.data }], guard := none }) (v := .slice a0 n0 p0) rfl (by kernel_rfl) (by kernel_rfl) (by kernel_rfl) (fun _ _ _ h => h) (Or.inl ⟨by rfl, ?_⟩) (by assumption) ?_
    · intro w hSw
      obtain ⟨s1, s2, s3⟩ := hSw
      go_simp
    try simp only [Act.put, List.setIfInBounds_toArray, List.set_cons_zero, List.set_cons_succ]
    refine wpAnyH_take (i := 5) (oi := { dst := some 13, op := Op.load 30 (Operand.tmp 0), type := 30, pos := "tidy.go:33", after := #[], guard := none }) (v := .pointer (some ⟨d, 0, none⟩)) rfl (by kernel_rfl) (by kernel_rfl) (by kernel_rfl) (fun _ _ _ h => h) (Or.inl ⟨by rfl, ?_⟩) (by assumption) ?_
    · intro w hSw
      obtain ⟨s1, s2, s3⟩ := hSw
      go_simp
    try simp only [Act.put, List.setIfInBounds_toArray, List.set_cons_zero, List.set_cons_succ]
    refine wpAnyH_take (i := 6) (oi := { dst := some 14, op := Op.makeFunc (Fn.func 53) #[Operand.tmp 13] #[], type := 123, pos := "tidy.go:33", after := #[{ on := 5, ground := Ground.data }], guard := none }) (v := .func (.func 53) #[.pointer (some ⟨d, 0, none⟩)] #[]) rfl (by kernel_rfl) (by kernel_rfl) (by kernel_rfl) (fun _ _ _ h => h) (Or.inl ⟨by rfl, ?_⟩) (by assumption) ?_
    · intro w hSw
      obtain ⟨s1, s2, s3⟩ := hSw
      go_simp
    try simp only [Act.put, List.setIfInBounds_toArray, List.set_cons_zero, List.set_cons_succ]
    refine wpAnyH_take (i := 7) (oi := { dst := some 15, op := Op.load 30 (Operand.tmp 0), type := 30, pos := "tidy.go:33", after := #[], guard := none }) (v := .pointer (some ⟨d, 0, none⟩)) rfl (by kernel_rfl) (by kernel_rfl) (by kernel_rfl) (fun _ _ _ h => h) (Or.inl ⟨by rfl, ?_⟩) (by assumption) ?_
    · intro w hSw
      obtain ⟨s1, s2, s3⟩ := hSw
      go_simp
    try simp only [Act.put, List.setIfInBounds_toArray, List.set_cons_zero, List.set_cons_succ]
    refine wpAnyH_take (i := 8) (oi := { dst := some 16, op := Op.makeFunc (Fn.func 148) #[Operand.tmp 15] #[], type := 182, pos := "tidy.go:33", after := #[{ on := 7, ground := Ground.data }], guard := none }) (v := .func (.func 148) #[.pointer (some ⟨d, 0, none⟩)] #[]) rfl (by kernel_rfl) (by kernel_rfl) (by kernel_rfl) (fun _ _ _ h => h) (Or.inl ⟨by rfl, ?_⟩) (by assumption) ?_
    · intro w hSw
      obtain ⟨s1, s2, s3⟩ := hSw
      go_simp
    try simp only [Act.put, List.setIfInBounds_toArray, List.set_cons_zero, List.set_cons_succ]
    refine wpAnyH_take (i := 9) (oi := { dst := some 17, op := Op.indexAddr 290 (Operand.tmp 3) (Operand.const (Value.int IntKind.i64 2)), type := 0, pos := "tidy.go:33", after := #[], guard := none }) (v := .pointer (some ⟨b, 2, none⟩)) rfl (by kernel_rfl) (by kernel_rfl) (by kernel_rfl) (fun _ _ _ h => h) (Or.inl ⟨by rfl, ?_⟩) (by assumption) ?_
    · intro w hSw
      obtain ⟨s1, s2, s3⟩ := hSw
      go_simp
    try simp only [Act.put, List.setIfInBounds_toArray, List.set_cons_zero, List.set_cons_succ]
    refine wpAnyH_take (i := 10) (oi := { dst := some 18, op := Op.load 28 (Operand.tmp 17), type := 28, pos := "tidy.go:33", after := #[{ on := 9, ground := Ground.data }], guard := none }) (v := .slice a2 n2 p2) rfl (by kernel_rfl) (by kernel_rfl) (by kernel_rfl) (fun _ _ _ h => h) (Or.inl ⟨by rfl, ?_⟩) (by assumption) ?_
    · intro w hSw
      obtain ⟨s1, s2, s3⟩ := hSw
      go_simp
    try simp only [Act.put, List.setIfInBounds_toArray, List.set_cons_zero, List.set_cons_succ]
    refine wpAnyH_take (i := 12) (oi := { dst := some 20, op := Op.load 30 (Operand.tmp 0), type := 30, pos := "tidy.go:33", after := #[], guard := none }) (v := .pointer (some ⟨d, 0, none⟩)) rfl (by kernel_rfl) (by kernel_rfl) (by kernel_rfl) (fun _ _ _ h => h) (Or.inl ⟨by rfl, ?_⟩) (by assumption) ?_
    · intro w hSw
      obtain ⟨s1, s2, s3⟩ := hSw
      go_simp
    try simp only [Act.put, List.setIfInBounds_toArray, List.set_cons_zero, List.set_cons_succ]
    refine wpAnyH_take (i := 13) (oi := { dst := some 21, op := Op.makeFunc (Fn.func 53) #[Operand.tmp 20] #[], type := 123, pos := "tidy.go:33", after := #[{ on := 12, ground := Ground.data }], guard := none }) (v := .func (.func 53) #[.pointer (some ⟨d, 0, none⟩)] #[]) rfl (by kernel_rfl) (by kernel_rfl) (by kernel_rfl) (fun _ _ _ h => h) (Or.inl ⟨by rfl, ?_⟩) (by assumption) ?_
    · intro w hSw
      obtain ⟨s1, s2, s3⟩ := hSw
      go_simp
    try simp only [Act.put, List.setIfInBounds_toArray, List.set_cons_zero, List.set_cons_succ]
    refine wpAnyH_ready (rs := [4]) (by kernel_rfl) (by simp) ?_
    refine AllReadyH.cons (o := { dst := some 12, op := Op.call { callee := Callee.value (Operand.func 147), args := #[Operand.tmp 9, Operand.tmp 11], argTypes := #[182, 28] }, type := 233, pos := "tidy.go:35", after := #[{ on := 1, ground := Ground.data }, { on := 3, ground := Ground.data }], guard := none }) rfl (fun Kq hKq => ?_) AllReadyH.nil
    go_simp
    go_at_call 147
    refine (toEach_any _ _ _ _ _ _ _).mono ?_
    rintro e w' ⟨rfl, rfl⟩
    go_wp2_with fail
    refine hKq.out _ _ ?_ (fun hHeld => ?_)
    · refine keepC _ ?_
      repeat first | exact Below.refl _ _ | refine Below.drew ?_ | refine Below.alloc ?_ (by simp <;> omega) _
    clear hKq Kq
    try simp only [Act.put, List.setIfInBounds_toArray, List.set_cons_zero, List.set_cons_succ]
    refine wpAnyH_ready (rs := [11]) (by kernel_rfl) (by simp) ?_
    refine AllReadyH.cons (o := { dst := some 19, op := Op.call { callee := Callee.value (Operand.func 147), args := #[Operand.tmp 16, Operand.tmp 18], argTypes := #[182, 28] }, type := 233, pos := "tidy.go:37", after := #[{ on := 8, ground := Ground.data }, { on := 10, ground := Ground.data }, { on := 4, ground := Ground.chain }], guard := none }) rfl (fun Kq hKq => ?_) AllReadyH.nil
    go_simp
    go_at_call 147
    refine (toEach_any _ _ _ _ _ _ _).mono ?_
    rintro e w' ⟨rfl, rfl⟩
    go_wp2_with fail
    refine hKq.out _ _ ?_ (fun hHeld => ?_)
    · refine keepC _ ?_
      repeat first | exact Below.refl _ _ | refine Below.drew ?_ | refine Below.alloc ?_ (by simp <;> omega) _
    clear hKq Kq
    try simp only [Act.put, List.setIfInBounds_toArray, List.set_cons_zero, List.set_cons_succ]
    refine wpAnyH_ready (rs := [14]) (by kernel_rfl) (by simp) ?_
    refine AllReadyH.cons (o := { dst := some 22, op := Op.buildSlice 289 4 #[(0, Operand.tmp 12), (1, Operand.tmp 14), (2, Operand.tmp 19), (3, Operand.tmp 21)], type := 289, pos := "tidy.go:33", after := #[{ on := 4, ground := Ground.data }, { on := 6, ground := Ground.data }, { on := 11, ground := Ground.data }, { on := 13, ground := Ground.data }], guard := none }) rfl (fun Kq hKq => ?_) AllReadyH.nil
    go_simp
    refine hKq.out _ _ ?_ (fun hHeld => ?_)
    · refine keepC _ ?_
      repeat first | exact Below.refl _ _ | refine Below.drew ?_ | refine Below.alloc ?_ (by simp <;> omega) _
    clear hKq Kq
    try simp only [Act.put, List.setIfInBounds_toArray, List.set_cons_zero, List.set_cons_succ]
    refine wpAnyH_ready (rs := [15]) (by kernel_rfl) (by simp) ?_
    refine AllReadyH.cons (o := { dst := some 23, op := Op.call { callee := Callee.value (Operand.func 106), args := #[Operand.tmp 22], argTypes := #[289] }, type := 40, pos := "tidy.go:33", after := #[{ on := 14, ground := Ground.data }, { on := 11, ground := Ground.chain }], guard := none }) rfl (fun Kq hKq => ?_) AllReadyH.nil
    go_simp
    go_at_call 106
    rw [← hx]
    refine cit.mono ?_
    rintro e w9 ⟨rfl, hF9, hk9⟩
    go_wp2_with fail
    refine hKq.out _ _ ?_ (fun hHeld => ?_)
    · exact keepX w9 hk9
    clear hKq Kq
    try simp only [Act.put, List.setIfInBounds_toArray, List.set_cons_zero, List.set_cons_succ]
    refine wpAnyH_take (i := 16) (oi := { dst := some 2, op := Op.assign (Operand.tmp 23), type := 40, pos := "tidy.go:33", after := #[{ on := 15, ground := Ground.data }, { on := 15, ground := Ground.chain }, { on := 0, ground := Ground.phase }, { on := 1, ground := Ground.phase }, { on := 2, ground := Ground.phase }, { on := 3, ground := Ground.phase }, { on := 4, ground := Ground.phase }, { on := 5, ground := Ground.phase }, { on := 6, ground := Ground.phase }, { on := 7, ground := Ground.phase }, { on := 8, ground := Ground.phase }, { on := 9, ground := Ground.phase }, { on := 10, ground := Ground.phase }, { on := 11, ground := Ground.phase }, { on := 12, ground := Ground.phase }, { on := 13, ground := Ground.phase }, { on := 14, ground := Ground.phase }, { on := 15, ground := Ground.phase }], guard := none }) (v := .nilIface) rfl (by kernel_rfl) (by kernel_rfl) (by kernel_rfl) (fun _ _ _ h => h) (Or.inl ⟨by rfl, ?_⟩) (by assumption) ?_
    · intro w hSw
      obtain ⟨s1, s2, s3⟩ := hSw
      go_simp
    try simp only [Act.put, List.setIfInBounds_toArray, List.set_cons_zero, List.set_cons_succ]
    refine wpAnyH_done (by kernel_rfl) ?_ _
    refine NoPanic.normal ?_
    go_wp2
    go_ret
    exact ⟨rfl, fin w9 hF9 hk9⟩
end Go.Proofs.YtakjpgjcfecfiaaGreatDoor

/- merge.Clean, keydir.Clean. -/
namespace Go.Proofs.YtakjpgjcfecfiaaGreatDoor
open Go.RowKit Go.Maps Go.Joins

theorem tidy_call (d : Nat) (a : Option Addr) (n c : Nat) (w : World) :
    Calls Tryz.prog 107 #[.pointer (some ⟨d, 0, none⟩), .slice a n c] w fun e w' => e = .returned (.func (.func 145) #[] #[.pointer (some ⟨w.heap.size, 0, none⟩), .pointer (some ⟨w.heap.size + 1, 0, none⟩)]) ∧
      w' = (w.alloc (.cells #[.pointer (some ⟨d, 0, none⟩)] 30)).alloc (.cells #[.slice a n c] 76) := by
  go_enter Tryz.func107, Tryz.ntmps107
  go_wp2
  go_ret
  exact ⟨rfl, rfl⟩
theorem fate_ok (ids : List Nat) (s : Name) (h : fateN ids s ≠ 2) : okName ids s = true := by
  unfold fateN at h
  unfold okName
  split at h
  · rename_i e
    rw [Bool.or_eq_true] at e
    rcases e with e | e <;> simp [e]
  · split at h
    · rename_i e
      simp [e]
    · exact absurd rfl h
theorem fate_kept (ids : List Nat) (s : Name) (h : (decide (s = sManifest) || listedB ids s) = true) : fateN ids s = 0 := by
  unfold fateN
  rw [if_pos h]

set_option maxHeartbeats 1000000 in
theorem clean_none {W : World} {d : Nat} {K : Nat → Prop} {F : Files} (h : Rest W d K 1000 F) (hF : F sManifest = none) :
    Calls Tryz.prog 79 #[.pointer (some ⟨d, 0, none⟩)] W fun e w' => CleanIs W w' d K F e := by
  obtain ⟨mn, ms, now, room, hd⟩ := h
  have cr := readManifest_none hd (by omega) hF
  go_enter Tryz.func79, Tryz.ntmps79
  go_wp2_with fail
  refine cr.mono ?_
  rintro e w1 ⟨rfl, hB1⟩
  clear cr
  have hB2 : Below W.heap.size W (w1.alloc Z45) := hB1.alloc hB1.size _
  go_wp2
  go_ret
  unfold CleanIs
  rw [hF]
  exact ⟨rfl, ⟨_, _, _, _, (hd.below' hB2).mono (by omega)⟩, Kept.of_below hB2⟩

set_option maxRecDepth 100000 in
set_option maxHeartbeats 2000000 in
theorem clean_some {W : World} {d : Nat} {K : Nat → Prop} {F : Files} (h : Rest W d K 1000 F) (hT : Tab W) (l : List UInt8) (hF : F sManifest = some l) :
    Calls Tryz.prog 79 #[.pointer (some ⟨d, 0, none⟩)] W fun e w' => CleanIs W w' d K F e := by
  obtain ⟨mn, ms, now, room, hd⟩ := h
  have cr := readManifest_has hd (by omega) l hF
  go_enter Tryz.func79, Tryz.ntmps79
  go_wp2_with fail
  refine cr.mono ?_
  rintro e w1 (⟨hr, rfl, hB1⟩ | ⟨hr, g, rfl, hoi, hB1⟩)
  · clear cr
    have hB2 : Below W.heap.size W (w1.alloc Z45) := hB1.alloc hB1.size _
    go_wp2
    go_ret
    unfold CleanIs
    rw [hF]
    simp only [hr, Bool.false_eq_true, if_false]
    exact ⟨rfl, ⟨_, _, _, _, (hd.below' hB2).mono (by omega)⟩, Kept.of_below hB2⟩
  · clear cr
    have hids := mids_ids hoi.is
    obtain ⟨hm60, hmle⟩ := mids_le hr
    have hml := mids_length l
    generalize rgen l = gen at *
    obtain ⟨m, hm⟩ : ∃ m, m = rcnt l := ⟨_, rfl⟩
    rw [← hm] at hml hoi ⊢
    clear hoi hm
    generalize hidl : mids l = ids at *
    obtain ⟨w2, hw2⟩ : ∃ w2, w2 = w1.alloc (.cells #[.int .u64 (gen : Nat), .slice (some ⟨g, 0, none⟩) m m] 131) := ⟨_, rfl⟩
    obtain ⟨w3, hw3⟩ : ∃ w3, w3 = (w2.alloc (.cells #[.pointer (some ⟨d, 0, none⟩)] 30)).alloc (.cells #[.slice (some ⟨g, 0, none⟩) m m] 76) := ⟨_, rfl⟩
    have hB2 : Below W.heap.size W w2 := by rw [hw2]; exact hB1.alloc hB1.size _
    have hB23 : Below w2.heap.size w2 w3 := by rw [hw3]; exact ((Below.refl _ _).alloc (Nat.le_refl _) _).alloc (by simp) _
    have hB3 : Below W.heap.size W w3 := hB2.trans (hB23.mono hB2.size)
    have hs3 : w3.heap.size = w2.heap.size + 2 := by rw [hw3]; simp
    have hB12 : Below w1.heap.size w1 w2 := by rw [hw2]; exact (Below.refl _ _).alloc (Nat.le_refl _) _
    have hids3 : IdsAt w3 (some ⟨g, 0, none⟩) ids := (hids.stay hB12).stay hB23
    have hb1 : w3.heap[w2.heap.size]? = some (.cells #[.pointer (some ⟨d, 0, none⟩)] 30) := by
      rw [hw3, (MapKept.heap_alloc _ _).2 _ (by simp)]; exact (MapKept.heap_alloc w2 _).1
    have hb2 : w3.heap[w2.heap.size + 1]? = some (.cells #[.slice (some ⟨g, 0, none⟩) m m] 76) := by
      have e : (w2.alloc (.cells #[.pointer (some ⟨d, 0, none⟩)] 30)).heap.size = w2.heap.size + 1 := by simp
      rw [hw3, ← e]; exact (MapKept.heap_alloc _ _).1
    obtain ⟨K3, hK3⟩ : ∃ K3 : Nat → Prop, K3 = fun q => K q ∨ (W.heap.size ≤ q ∧ q < w3.heap.size) := ⟨_, rfl⟩
    have hd3 := hd.below hB3
    rw [← hK3] at hd3
    have hKK : ∀ q, K q → K3 q := fun q hq => by rw [hK3]; exact .inl hq
    have hsz := hB2.size
    have ct := tidy_any (bd := w2.heap.size) (bi := w2.heap.size + 1) hd3 (by omega) (hT.below hB3) (by rw [cell_of_block hb1]; rfl) (by rw [cell_of_block hb2]; rfl) (by rw [hK3]; exact .inr ⟨hsz, by omega⟩) hml (by omega) hmle hids3
    have cc := tidy_call d (some ⟨g, 0, none⟩) m m w2
    rw [← hw3] at cc
    clear hids hids3 hb1 hb2 hK3 hw3
    go_wp2_with fail
    rw [← hw2]
    refine cc.mono ?_
    rintro e w' ⟨rfl, hw'⟩
    rw [hw']
    clear hw' cc hw2
    go_wp2_with fail
    refine ct.mono ?_
    rintro e w9 ⟨rfl, ⟨F', ⟨mn', ms', now', room', hd9⟩, hless⟩, hk9⟩
    clear ct
    go_wp2
    go_ret
    unfold CleanIs
    rw [hF]
    simp only [hr, if_true]
    refine ⟨rfl, F', ⟨_, _, _, _, (hd9.mono (by omega)).less hKK⟩, (Kept.of_below hB3).trans (hk9.mono hKK), ?_, ?_⟩
    · intro s b hs
      rw [hidl]
      refine fate_ok ids s fun e => ?_
      have h1 := hless s
      rw [hs] at h1
      simp [e] at h1
    · intro s b hs hl
      rw [hidl] at hl
      have h1 := hless s
      have h2 := fate_kept ids s hl
      rw [h1]
      simp [h2, hs]

theorem clean_spec : CleanSpec := by
  intro W d K F h _ _ hT _
  have key : Calls Tryz.prog 79 #[.pointer (some ⟨d, 0, none⟩)] W fun e w' => CleanIs W w' d K F e := by
    cases hF : F sManifest with
    | none => exact clean_none h hF
    | some l => exact clean_some h hT l hF
  go_enter Tryz.func41, Tryz.ntmps41
  go_wp2_with fail
  refine key.mono ?_
  intro e w' he
  have hv : ∃ v, e = .returned v ∧ ∃ q, v = .nilIface ∨ v = .iface 51 q := by
    unfold CleanIs at he
    split at he
    · exact ⟨_, he.1, _, .inr rfl⟩
    · split at he
      · exact ⟨_, he.1, .nilIface, .inl rfl⟩
      · exact ⟨_, he.1, _, .inr rfl⟩
  obtain ⟨v, rfl, q, hq⟩ := hv
  clear key
  rcases hq with rfl | rfl
  all_goals
    go_wp2
    go_ret
    exact he
end Go.Proofs.YtakjpgjcfecfiaaGreatDoor
