import Derived.Test.YtakjpgjcfecfiaaGreatDoorLSort
/- merge.toEach, inTurn: steps. -/
namespace Go.Proofs.YtakjpgjcfecfiaaGreatDoor
open Go.RowKit Go.Maps Go.Joins

theorem setCell_idle {w : World} {b i : Nat} {cs : Array Value} {t : TypeId} (hb : w.heap[b]? = some (.cells cs t)) {v : Value} (hv : cs[i]? = some v) : w.setCell ⟨b, i, none⟩ v = w := by
  have h : (w.setCell ⟨b, i, none⟩ v).heap = w.heap := by
    apply Array.ext_getElem?
    intro k
    by_cases e : k = b
    · subst e
      rw [heap_setCell_same w k i cs t v hb, hb]
      congr 2
      apply Array.ext_getElem?
      intro j
      rw [Array.getElem?_setIfInBounds]
      split
      · rename_i e2
        subst e2
        rw [hv]
        have := (Array.getElem?_eq_some_iff.1 hv).1
        simp [this]
      · rfl
    · exact heap_setCell_other w _ k v e
  exact congrArg (fun x => { w with heap := x }) h

/-- Sync of a file that is safe -/
theorem sync_safe {w : World} {d c mn ms : Nat} {K : Nat → Prop} {now safe : Names} {mv : Value} {L : List Steps} {room : Int} {F : Files} (h : DiskAt w d K c mn ms now safe mv L room F) (s : Name) (hs : s.length ≤ maxLen) (hF : (F s).isSome = true) :
    Calls Tryz.prog 84 #[.pointer (some ⟨d, 0, none⟩), .string ⟨s.toArray⟩] w fun e w' => e = .returned .nilIface ∧ w' = w := by
  obtain ⟨l, hl⟩ := Option.isSome_iff_exists.1 hF
  obtain ⟨b, hb, hn⟩ := h.some_of hl
  obtain ⟨_, v, hbk, hown⟩ := hn
  obtain ⟨a, cap, rfl, _⟩ := row_shape hown.2
  refine (sync_any w d mn ms c b l.length cap mv room _ now s a h.top h.mnow hs hb hbk).mono ?_
  rintro e w' ⟨rfl, rfl⟩
  exact ⟨rfl, setCell_idle hbk rfl⟩

set_option maxRecDepth 100000 in
set_option maxHeartbeats 1000000 in
/-- one operation to several files, in turn: Sync, Remove -/
theorem each_any {K : Nat → Prop} {d nb ob B fop : Nat} {v : Value} {names : List Name} (hfop : fop = 84 ∨ fop = 148) (w0 : World) (I : Nat → World → Prop)
    (hrow : StrRow w0 B v names) (hlen : names.length ≤ 1000000) (hn : w0.cell? ⟨nb, 0, none⟩ = some v) (ho : w0.cell? ⟨ob, 0, none⟩ = some (.func (.func fop) #[.pointer (some ⟨d, 0, none⟩)] #[]))
    (_hKn : K nb) (hKo : K ob) (hKv : ∀ g, v.ownBlock = some g → K g) (hI : I 0 w0)
    (step : ∀ j w, j < names.length → I j w → Kept K w0 w → Calls Tryz.prog fop #[.pointer (some ⟨d, 0, none⟩), .string ⟨(names.getD j []).toArray⟩] w fun e w' => e = .returned .nilIface ∧ I (j + 1) w' ∧ Kept K w w') :
    Calls Tryz.prog 202 #[.pointer (some ⟨nb, 0, none⟩), .pointer (some ⟨ob, 0, none⟩)] w0 fun e w' => e = .returned .nilIface ∧ I names.length w' ∧ Kept K w0 w' := by
  obtain ⟨av, cv, rfl, hav⟩ := row_shape hrow
  have hob := World.block_lt_of_cell? _ _ ho
  rcases hfop with rfl | rfl
  all_goals
    go_enter Tryz.func202, Tryz.ntmps202
    go_wp2
    go_loopw [4, 5, 8] (fun _ _ i wr => ∃ k : Nat, k ≤ names.length ∧ i = .int .i64 k ∧ I k wr ∧ Kept K w0 wr) (fun _ _ i _ => names.length - (intOf i).toNat)
    case atStart => exact ⟨0, Nat.zero_le _, rfl, hI, Kept.refl _ _⟩
    case round =>
      obtain ⟨k, hk, rfl, hIk, hkr⟩ := hrel
      by_cases hlt : k < names.length
      · obtain ⟨g, rfl⟩ := hav (by omega)
        have hc : wr.cell? ⟨g, k, none⟩ = some (encStr (names.getD k [])) := by
          have h0 := World.ownsRow.cellAt hrow k (by omega)
          rw [World.cell?_of_block (hkr.block g (hKv g rfl) (hrow.lt g rfl).2), h0]; simp [hlt]
        have hor := (World.cell?_of_block (a := ⟨ob, 0, none⟩) (hkr.block ob hKo hob)).trans ho
        have cs := step k wr hlt hIk hkr
        generalize names.getD k [] = s at hc cs
        unfold encStr at hc
        go_wp2_with fail
        refine cs.mono ?_
        rintro e w1 ⟨rfl, hI1, hk1⟩
        clear cs
        go_wp2
        go_roundw
        case rel => exact ⟨k + 1, by omega, by go_num, hI1, hkr.trans hk1⟩
        case measure => simp [intOf]; omega
      · obtain rfl : k = names.length := by omega
        go_wp2
        go_ret
        exact ⟨rfl, hIk, hkr⟩

set_option maxRecDepth 100000 in
set_option maxHeartbeats 1000000 in
/-- four steps in turn: those of tidy -/
theorem inTurn_four {K : Nat → Prop} {d g n1 o1 n2 o2 : Nat} (w0 : World) (I : Nat → World → Prop)
    (c0 : w0.cell? ⟨g, 0, none⟩ = some (.func (.func 202) #[] #[.pointer (some ⟨n1, 0, none⟩), .pointer (some ⟨o1, 0, none⟩)]))
    (c1 : w0.cell? ⟨g, 1, none⟩ = some (.func (.func 53) #[.pointer (some ⟨d, 0, none⟩)] #[]))
    (c2 : w0.cell? ⟨g, 2, none⟩ = some (.func (.func 202) #[] #[.pointer (some ⟨n2, 0, none⟩), .pointer (some ⟨o2, 0, none⟩)]))
    (c3 : w0.cell? ⟨g, 3, none⟩ = some (.func (.func 53) #[.pointer (some ⟨d, 0, none⟩)] #[]))
    (hK : K g) (hI : I 0 w0)
    (s0 : ∀ w, I 0 w → Kept K w0 w → Calls Tryz.prog 202 #[.pointer (some ⟨n1, 0, none⟩), .pointer (some ⟨o1, 0, none⟩)] w fun e w' => e = .returned .nilIface ∧ I 1 w' ∧ Kept K w w')
    (s1 : ∀ w, I 1 w → Kept K w0 w → Calls Tryz.prog 53 #[.pointer (some ⟨d, 0, none⟩)] w fun e w' => e = .returned .nilIface ∧ I 2 w' ∧ Kept K w w')
    (s2 : ∀ w, I 2 w → Kept K w0 w → Calls Tryz.prog 202 #[.pointer (some ⟨n2, 0, none⟩), .pointer (some ⟨o2, 0, none⟩)] w fun e w' => e = .returned .nilIface ∧ I 3 w' ∧ Kept K w w')
    (s3 : ∀ w, I 3 w → Kept K w0 w → Calls Tryz.prog 53 #[.pointer (some ⟨d, 0, none⟩)] w fun e w' => e = .returned .nilIface ∧ I 4 w' ∧ Kept K w w') :
    Calls Tryz.prog 106 #[.slice (some ⟨g, 0, none⟩) 4 4] w0 fun e w' => e = .returned .nilIface ∧ I 4 w' ∧ Kept K w0 w' := by
  have hg := World.block_lt_of_cell? _ _ c0
  go_enter Tryz.func106, Tryz.ntmps106
  go_wp2
  go_loopw [4, 5, 8] (fun _ _ i wr => ∃ k : Nat, k ≤ 4 ∧ i = .int .i64 k ∧ I k wr ∧ Kept K w0 wr) (fun _ _ i _ => 4 - (intOf i).toNat)
  case atStart => exact ⟨0, Nat.zero_le _, rfl, hI, Kept.refl _ _⟩
  case round =>
    obtain ⟨k, hk, rfl, hIk, hkr⟩ := hrel
    have hcell : ∀ i, wr.cell? ⟨g, i, none⟩ = w0.cell? ⟨g, i, none⟩ := fun i => World.cell?_of_block (a := ⟨g, i, none⟩) (hkr.block g hK hg)
    have d0 := (hcell 0).trans c0
    have d1 := (hcell 1).trans c1
    have d2 := (hcell 2).trans c2
    have d3 := (hcell 3).trans c3
    clear hcell c0 c1 c2 c3
    rcases (show k = 0 ∨ k = 1 ∨ k = 2 ∨ k = 3 ∨ k = 4 by omega) with rfl | rfl | rfl | rfl | rfl
    · have cs := s0 wr hIk hkr
      go_wp2_with fail
      refine cs.mono ?_
      rintro e w1 ⟨rfl, hI1, hk1⟩
      clear cs
      go_wp2
      go_roundw
      case rel => exact ⟨1, by omega, by go_num, hI1, hkr.trans hk1⟩
      case measure => simp [intOf]
    · have cs := s1 wr hIk hkr
      go_wp2_with fail
      refine cs.mono ?_
      rintro e w1 ⟨rfl, hI1, hk1⟩
      clear cs
      go_wp2
      go_roundw
      case rel => exact ⟨2, by omega, by go_num, hI1, hkr.trans hk1⟩
      case measure => simp [intOf]
    · have cs := s2 wr hIk hkr
      go_wp2_with fail
      refine cs.mono ?_
      rintro e w1 ⟨rfl, hI1, hk1⟩
      clear cs
      go_wp2
      go_roundw
      case rel => exact ⟨3, by omega, by go_num, hI1, hkr.trans hk1⟩
      case measure => simp [intOf]
    · have cs := s3 wr hIk hkr
      go_wp2_with fail
      refine cs.mono ?_
      rintro e w1 ⟨rfl, hI1, hk1⟩
      clear cs
      go_wp2
      go_roundw
      case rel => exact ⟨4, by omega, by go_num, hI1, hkr.trans hk1⟩
      case measure => simp [intOf]
    · go_wp2
      go_ret
      exact ⟨rfl, hIk, hkr⟩
end Go.Proofs.YtakjpgjcfecfiaaGreatDoor

/- merge.tidy: its four steps. -/
namespace Go.Proofs.YtakjpgjcfecfiaaGreatDoor
open Go.RowKit Go.Maps Go.Joins

theorem Going.congr {w : World} {d c : Nat} {K : Nat → Prop} {F F' : Files} {g g' : Name → Bool} (h : Going w d K c F F' g) (e : ∀ s, g s = g' s) : Going w d K c F F' g' :=
  ⟨h.1, fun s => by rw [← e s]; exact h.2 s⟩

/-- Remove of several files, in turn -/
theorem each_remove {K : Nat → Prop} {d nb ob B c : Nat} {v : Value} {rem : List Name} {F : Files} (w0 : World)
    (hrow : StrRow w0 B v rem) (hlen : c + rem.length ≤ 100000) (hn : w0.cell? ⟨nb, 0, none⟩ = some v) (ho : w0.cell? ⟨ob, 0, none⟩ = some (.func (.func 148) #[.pointer (some ⟨d, 0, none⟩)] #[]))
    (hKn : K nb) (hKo : K ob) (hKv : ∀ g, v.ownBlock = some g → K g) (hd : Dk w0 d K c F) (hnd : rem.Nodup) (hF : ∀ s ∈ rem, (F s).isSome = true) (hnl : ∀ s ∈ rem, s.length ≤ maxLen) :
    Calls Tryz.prog 202 #[.pointer (some ⟨nb, 0, none⟩), .pointer (some ⟨ob, 0, none⟩)] w0 fun e w' => e = .returned .nilIface ∧ (∃ F', Going w' d K (c + rem.length) F F' fun s => decide (s ∈ rem)) ∧ Kept K w0 w' := by
  refine (each_any (.inr rfl) w0 (fun j w => ∃ F', Going w d K (c + j) F F' fun s => decide (s ∈ rem.take j)) hrow (by omega) hn ho hKn hKo hKv ⟨F, hd, Less.start F _ (fun s => by simp)⟩ ?_).mono ?_
  · rintro j w hj ⟨F', hg⟩ _
    have hmem : rem.getD j [] ∈ rem := by rw [List.getD_eq_getElem?_getD]; simp [hj]
    have htk := take_snoc rem j [] hj
    have hnew : decide (rem.getD j [] ∈ rem.take j) = false := by
      rw [decide_eq_false_iff_not]
      intro hin
      have h2 : (rem.take (j + 1)).Nodup := hnd.sublist (List.take_sublist _ _)
      rw [htk, List.nodup_append] at h2
      exact h2.2.2 _ hin _ (by simp) rfl
    refine (remove_going hg (rem.getD j []) (hnl _ hmem) (by omega) (hF _ hmem) hnew).mono ?_
    rintro e w' ⟨rfl, ⟨F'', hg'⟩, hk⟩
    refine ⟨rfl, ⟨F'', hg'.congr fun s => ?_⟩, hk⟩
    rw [htk, Bool.eq_iff_iff]
    simp
  · rintro e w' ⟨rfl, ⟨F', hg⟩, hk⟩
    rw [List.take_of_length_le (Nat.le_refl _)] at hg
    exact ⟨rfl, ⟨F', hg⟩, hk⟩
/-- Sync of several files that are safe -/
theorem each_sync {K : Nat → Prop} {d nb ob B c mn ms : Nat} {v : Value} {rem : List Name} {F : Files} {now safe : Names} {mv : Value} {L : List Steps} {room : Int} (w0 : World)
    (hrow : StrRow w0 B v rem) (hlen : rem.length ≤ 1000000) (hn : w0.cell? ⟨nb, 0, none⟩ = some v) (ho : w0.cell? ⟨ob, 0, none⟩ = some (.func (.func 84) #[.pointer (some ⟨d, 0, none⟩)] #[]))
    (hKn : K nb) (hKo : K ob) (hKv : ∀ g, v.ownBlock = some g → K g) (hd : DiskAt w0 d K c mn ms now safe mv L room F) (hF : ∀ s ∈ rem, (F s).isSome = true) (hnl : ∀ s ∈ rem, s.length ≤ maxLen) :
    Calls Tryz.prog 202 #[.pointer (some ⟨nb, 0, none⟩), .pointer (some ⟨ob, 0, none⟩)] w0 fun e w' => e = .returned .nilIface ∧ w' = w0 := by
  refine (each_any (K := K) (.inl rfl) w0 (fun _ w => w = w0) hrow hlen hn ho hKn hKo hKv rfl ?_).mono ?_
  · rintro j w hj rfl _
    have hmem : rem.getD j [] ∈ rem := by rw [List.getD_eq_getElem?_getD]; simp [hj]
    refine (sync_safe hd (rem.getD j []) (hnl _ hmem) (hF _ hmem)).mono ?_
    rintro e w' ⟨rfl, hw⟩
    exact ⟨rfl, hw, by rw [hw]; exact Kept.refl _ _⟩
  · rintro e w' ⟨rfl, h, _⟩
    exact ⟨rfl, h⟩

/-- the steps of tidy -/
theorem tidy_turn {x : World} {d c mn ms : Nat} {K : Nat → Prop} {now : Names} {room : Int} {F : Files} (h : DiskAt x d K c mn ms now now (.slice none 0 0) [] room F) {B g n1 o1 n2 o2 : Nat} {v0 v2 : Value} {kp rem : List Name}
    (c0 : x.cell? ⟨g, 0, none⟩ = some (.func (.func 202) #[] #[.pointer (some ⟨n1, 0, none⟩), .pointer (some ⟨o1, 0, none⟩)]))
    (c1 : x.cell? ⟨g, 1, none⟩ = some (.func (.func 53) #[.pointer (some ⟨d, 0, none⟩)] #[]))
    (c2 : x.cell? ⟨g, 2, none⟩ = some (.func (.func 202) #[] #[.pointer (some ⟨n2, 0, none⟩), .pointer (some ⟨o2, 0, none⟩)]))
    (c3 : x.cell? ⟨g, 3, none⟩ = some (.func (.func 53) #[.pointer (some ⟨d, 0, none⟩)] #[]))
    (hn1 : x.cell? ⟨n1, 0, none⟩ = some v0) (ho1 : x.cell? ⟨o1, 0, none⟩ = some (.func (.func 84) #[.pointer (some ⟨d, 0, none⟩)] #[]))
    (hn2 : x.cell? ⟨n2, 0, none⟩ = some v2) (ho2 : x.cell? ⟨o2, 0, none⟩ = some (.func (.func 148) #[.pointer (some ⟨d, 0, none⟩)] #[]))
    (hB : ∀ k, B ≤ k → k < x.heap.size → K k) (hg : B ≤ g) (hbn1 : B ≤ n1) (hbo1 : B ≤ o1) (hbn2 : B ≤ n2) (hbo2 : B ≤ o2)
    (r0 : StrRow x B v0 kp) (r2 : StrRow x B v2 rem) (hk0 : kp.length ≤ 1000000) (hlen : c + rem.length ≤ 100000) (hnd : rem.Nodup)
    (hF0 : ∀ s ∈ kp, (F s).isSome = true) (hF2 : ∀ s ∈ rem, (F s).isSome = true) (hl0 : ∀ s ∈ kp, s.length ≤ maxLen) (hl2 : ∀ s ∈ rem, s.length ≤ maxLen) :
    Calls Tryz.prog 106 #[.slice (some ⟨g, 0, none⟩) 4 4] x fun e w' => e = .returned .nilIface ∧ (∃ F', Rest w' d K (c + rem.length) F' ∧ Less F F' fun s => decide (s ∈ rem)) ∧ Kept K x w' := by
  have lt : ∀ {b : Nat} {u : Value}, x.cell? ⟨b, 0, none⟩ = some u → b < x.heap.size := fun e => World.block_lt_of_cell? _ _ e
  have kk : ∀ {w : World} {b : Nat} {u : Value}, B ≤ b → x.cell? ⟨b, 0, none⟩ = some u → Kept K x w → w.cell? ⟨b, 0, none⟩ = some u := fun hb e hk => (World.cell?_of_block (hk.block _ (hB _ hb (lt e)) (lt e))).trans e
  have hKr : ∀ {v : Value} {l : List Name}, StrRow x B v l → ∀ g, v.ownBlock = some g → K g := fun hr g hg => hB g (hr.lt g hg).1 (hr.lt g hg).2
  refine (inTurn_four x (fun j w => match j with
      | 0 => w = x
      | 1 => w = x
      | 2 => DiskAt w d K c mn ms now now (.slice none 0 0) [] room F
      | 3 => ∃ F', Going w d K (c + rem.length) F F' fun s => decide (s ∈ rem)
      | _ => ∃ F', Rest w d K (c + rem.length) F' ∧ Less F F' fun s => decide (s ∈ rem)) c0 c1 c2 c3 (hB g hg (lt c0)) rfl ?_ ?_ ?_ ?_).mono ?_
  · rintro w rfl _
    refine (each_sync w r0 hk0 hn1 ho1 (hB _ hbn1 (lt hn1)) (hB _ hbo1 (lt ho1)) (hKr r0) h hF0 hl0).mono ?_
    rintro e w' ⟨rfl, rfl⟩
    exact ⟨rfl, rfl, Kept.refl _ _⟩
  · rintro w rfl _
    refine (syncDir_any h (by omega)).mono ?_
    rintro e w' ⟨rfl, hd, hk⟩
    exact ⟨rfl, hd, hk⟩
  · intro w hd hk
    have r2' : StrRow w B v2 rem := row_keep r2 fun q hq => hk.block q (hKr r2 q hq) (r2.lt q hq).2
    exact each_remove w r2' hlen (kk hbn2 hn2 hk) (kk hbo2 ho2 hk) (hB _ hbn2 (lt hn2)) (hB _ hbo2 (lt ho2)) (hKr r2) ⟨_, _, _, _, _, _, _, hd⟩ hnd hF2 hl2
  · rintro w ⟨F', ⟨mn', ms', now', safe', mv', L', room', hd⟩, hless⟩ _
    refine (syncDir_any hd (by omega)).mono ?_
    rintro e w' ⟨rfl, hd', hk⟩
    exact ⟨rfl, ⟨F', ⟨_, _, _, _, hd'⟩, hless⟩, hk⟩
  · rintro e w' ⟨rfl, h4, hk⟩
    exact ⟨rfl, h4, hk⟩

theorem toEach_any (fn : Fn) (first cp : Array Value) (a : Option Addr) (n c : Nat) (w : World) :
    Calls Tryz.prog 147 #[.func fn first cp, .slice a n c] w fun e w' => e = .returned (.func (.func 202) #[] #[.pointer (some ⟨w.heap.size + 1, 0, none⟩), .pointer (some ⟨w.heap.size, 0, none⟩)]) ∧
      w' = (w.alloc (.cells #[.func fn first cp] 182)).alloc (.cells #[.slice a n c] 28) := by
  go_enter Tryz.func147, Tryz.ntmps147
  go_wp2
  go_ret
  exact ⟨rfl, rfl⟩
end Go.Proofs.YtakjpgjcfecfiaaGreatDoor
