import Derived.Test.YtakjpgjcfecfiaaGreatDoorLDisk
import Derived.Test.YtakjpgjcfecfiaaGreatDoorLClean
import Derived.Test.YtakjpgjcfecfiaaGreatDoorDiskZ
import Derived.Test.YtakjpgjcfecfiaaGreatDoorLReadM
/- keydirlaw.Cleans, from what Clean does. -/
namespace Go.Proofs.YtakjpgjcfecfiaaGreatDoor
open Go.RowKit Go.Maps Go.Joins

/-- a manifest's numbers -/
def mids (l : List UInt8) : List Nat := (List.range (rcnt l)).map (rnum l)
theorem mids_length (l : List UInt8) : (mids l).length = rcnt l := by simp [mids]
theorem mids_at (l : List UInt8) (i : Nat) (h : i < rcnt l) : zat (rids l (rcnt l)) i = (((mids l).getD i 0 : Nat) : Int) := by
  rw [rids_at l _ i h]; simp [mids, h]
theorem mids_ids {w : World} {a : Option Addr} {l : List UInt8} (h : Is w a (rids l (rcnt l))) : IdsAt w a (mids l) := by
  intro i hi
  rw [mids_length] at hi
  obtain ⟨b, o, e, hc⟩ := h i (by rw [rids_length]; exact hi)
  exact ⟨b, o, e, by rw [hc, mids_at l i hi]⟩
theorem mids_le {l : List UInt8} (h : rdOk l = true) : (mids l).length ≤ 60 ∧ ∀ x ∈ mids l, x ≤ 999999 := by
  obtain ⟨_, _, _, _, hv⟩ := rd_small l h
  have hz := (validZ_iff _).1 hv
  have h60 := hz.1
  rw [rids_length] at h60
  refine ⟨by rw [mids_length]; exact h60, fun x hx => ?_⟩
  obtain ⟨i, hi, rfl⟩ := List.mem_map.1 hx
  have hi' : i < rcnt l := List.mem_range.1 hi
  have := (hz.2 i (by rw [rids_length]; exact hi')).2.1
  rw [rids_at l _ i hi'] at this
  omega

/-- what Clean does to a disk at rest -/
def CleanIs (W w' : World) (d : Nat) (K : Nat → Prop) (F : Files) (e : Ending) : Prop :=
  match F sManifest with
  | none => e = .returned (.iface 51 (.int .i64 5)) ∧ Rest w' d K 3000 F ∧ Kept K W w'
  | some l => if rdOk l = true then e = .returned .nilIface ∧ ∃ F' : Files, Rest w' d K 3000 F' ∧ Kept K W w' ∧ (∀ s b, F' s = some b → okName (mids l) s = true) ∧ (∀ s b, F s = some b → (decide (s = sManifest) || listedB (mids l) s) = true → F' s = some b)
      else e = .returned (.iface 51 (.int .i64 6)) ∧ Rest w' d K 3000 F ∧ Kept K W w'
def CleanSpec : Prop := ∀ (W : World) (d : Nat) (K : Nat → Prop) (F : Files), Rest W d K 1000 F → Laid W → K 0 → Tab W → K 1 →
  Calls Tryz.prog 41 #[.pointer (some ⟨d, 0, none⟩)] W fun e w' => CleanIs W w' d K F e

theorem assoc_of : ∀ {l : FL} {F : Files}, (l.map (·.1)).Nodup → (∀ p ∈ l, F p.1 = some p.2) → (∀ s b, F s = some b → (s, b) ∈ l) → ∀ s, assoc l s = F s
  | [], F, _, _, h3, s => by
    cases hs : F s with
    | none => rfl
    | some b => exact absurd (h3 s b hs) (by simp)
  | p :: l, F, h1, h2, h3, s => by
    rw [assoc]
    by_cases e : p.1 = s
    · rw [if_pos e, ← e, h2 p (by simp)]
    · rw [if_neg e]
      simp only [List.map_cons, List.nodup_cons] at h1
      have := assoc_of (l := l) (F := fun x => if x = p.1 then none else F x) h1.2 (fun q hq => by
        have hne : q.1 ≠ p.1 := fun e2 => h1.1 (by rw [← e2]; exact List.mem_map.2 ⟨q, hq, rfl⟩)
        simp only [hne, if_false]; exact h2 q (by simp [hq])) (fun x b hx => by
        by_cases e2 : x = p.1
        · simp [e2] at hx
        · simp only [e2, if_false] at hx
          rcases List.mem_cons.1 (h3 x b hx) with h | h
          · exact absurd (by rw [← h]) e2
          · exact h) s
      rw [this]; simp [Ne.symm e]
theorem IsFiles.assoc {F : Files} {l : FL} (h : IsFiles F l) (s : Name) : assoc l s = F s := assoc_of h.2.1 h.2.2.1 h.2.2.2 s
theorem IsFiles.eq {F : Files} {l l' : FL} (h : IsFiles F l) (h' : IsFiles F l') : l = l' := by
  have hm : ∀ {k k' : FL}, IsFiles F k → IsFiles F k' → ∀ p, p ∈ k → p ∈ k' := fun hk hk' p hp => hk'.2.2.2 p.1 p.2 (hk.2.2.1 p hp)
  have e : l.map (·.1) = l'.map (·.1) := by
    refine List.Perm.eq_of_pairwise (le := fun a b => leB a b = true) (fun a b _ _ h1 h2 => ?_) h.1 h'.1 ((List.perm_ext_iff_of_nodup h.2.1 h'.2.1).2 fun s => ⟨fun hs => ?_, fun hs => ?_⟩)
    · simp only [leB, decide_eq_true_eq] at h1 h2
      exact List.le_antisymm h1 h2
    · obtain ⟨p, hp, rfl⟩ := List.mem_map.1 hs
      exact List.mem_map.2 ⟨p, hm h h' p hp, rfl⟩
    · obtain ⟨p, hp, rfl⟩ := List.mem_map.1 hs
      exact List.mem_map.2 ⟨p, hm h' h p hp, rfl⟩
  have hv : ∀ {k : FL}, IsFiles F k → k = (k.map (·.1)).map fun s => (s, (F s).getD []) := fun {k} hk => by
    rw [List.map_map]
    conv => lhs; rw [← List.map_id k]
    refine List.map_congr_left fun p hp => ?_
    simp [hk.2.2.1 p hp]
  rw [hv h, hv h', e]
theorem Own.keepK {w w' : World} {B n : Nat} {K : Nat → Prop} {v : Value} {l : List UInt8} (h : Own w B v n l) (hk : Kept K w w') (hK : ∀ k, B ≤ k → k < w.heap.size → K k) : Own w' B v n l :=
  ⟨h.1, row_keep h.2 fun g hg => hk.block g (hK g (h.lt g hg).1 (h.lt g hg).2) (h.lt g hg).2⟩
theorem FRow.keepK {w w' : World} {B : Nat} {K : Nat → Prop} {v : Value} {l : FL} (h : FRow w B v l) (hk : Kept K w w') (hK : ∀ k, B ≤ k → k < w.heap.size → K k) : FRow w' B v l := by
  obtain ⟨vs, h1, h2, h3⟩ := h
  exact ⟨vs, h1, row_keep h2 fun g hg => hk.block g (hK g (h2.lt g hg).1 (h2.lt g hg).2) (h2.lt g hg).2, fun i hi => ⟨(h3 i hi).1.keepK hk hK, (h3 i hi).2⟩⟩
theorem OwnI.keepK {w w' : World} {B n : Nat} {K : Nat → Prop} {v : Value} {z : List Int} (h : OwnI w B v n z) (hk : Kept K w w') (hK : ∀ k, B ≤ k → k < w.heap.size → K k) : OwnI w' B v n z :=
  ⟨h.1, row_keep h.2 fun g hg => hk.block g (hK g (h.lt g hg).1 (h.lt g hg).2) (h.lt g hg).2⟩

theorem SmallDir.stay {w w' : World} {sa : Option Addr} {ns : Nat} {oa : Option Addr} {no np : Nat} {z : Int} (h : SmallDir w sa ns oa no np z) (hs : SegsAt w sa ns) (ho : OthsAt w oa no) (hb : Below w.heap.size w w') : SmallDir w' sa ns oa no np z := by
  refine ⟨h.bns, h.bno, h.bnp, fun i b o ar nr cr at' nt ct hi e h1 h2 => ?_, fun i b o ab nb cb hi e h1 => ?_⟩
  · obtain ⟨b', o', id, ar', nr', cr', at'', nt', ct', l, g, e', f1, f2, f3, _⟩ := hs i hi
    rw [e] at e'
    cases e'
    have g2 := Below.keepc hb f2
    have g3 := Below.keepc hb f3
    rw [g2] at h1; cases h1
    rw [g3] at h2; cases h2
    exact h.seg i b o _ _ _ _ _ _ hi e f2 f3
  · obtain ⟨b', o', s, hint, ab', nb', cb', e', f1, f2, f3, _⟩ := ho i hi
    rw [e] at e'
    cases e'
    have g3 := Below.keepc hb f3
    rw [g3] at h1; cases h1
    exact h.oth i b o _ _ _ hi e f3
theorem Kept.low {K : Nat → Prop} {w a b : World} (h : Below w.heap.size w a) (hk : Kept K a b) (hK : ∀ k, k < w.heap.size → K k) : Below w.heap.size w b :=
  h.trans ⟨hk.os, hk.tape, hk.output, hk.size, fun q hq => hk.block q (hK q hq) (Nat.lt_of_lt_of_le hq h.size)⟩

theorem Rest.files {w : World} {d c : Nat} {K : Nat → Prop} {F : Files} (h : Rest w d K c F) (hc : c ≤ 1000000) :
    Calls Tryz.prog 14 #[.pointer (some ⟨d, 0, none⟩)] w fun e w' => ∃ v l, e = .returned v ∧ FRow w' w.heap.size v l ∧ IsFiles F l ∧ l.length ≤ c ∧ (∀ p ∈ l, p.1.length ≤ maxLen) ∧ Below w.heap.size w w' := by
  obtain ⟨_, _, _, _, h⟩ := h
  exact files_any h hc
theorem Rest.crash {w : World} {d c : Nat} {K : Nat → Prop} {F : Files} (h : Rest w d K c F) (hc : c ≤ 1000000) (dir tail : Nat) :
    Calls Tryz.prog 36 #[.pointer (some ⟨d, 0, none⟩), .int .u64 (dir : Int), .int .u64 (tail : Int)] w fun e w' => e = .returned (.tuple #[]) ∧ Rest w' d K c F ∧ Kept K w w' := by
  obtain ⟨_, _, _, _, h⟩ := h
  exact crash_any h hc dir tail

set_option maxRecDepth 100000 in
set_option maxHeartbeats 4000000 in
theorem cleans_any (hC : CleanSpec) (w : World) (sa : Option Addr) (ns cs : Nat) (oa : Option Addr) (no co gen : Nat) (pa : Option Addr) (np cp : Nat) (wh wo : Bool) (dir tail : Nat) (hL : Laid w) (hT : Tab w) (hgen : gen < 18446744073709551616)
    (hns : ns ≤ reachN) (hno : no ≤ reachN) (hs : SegsAt w sa ns) (ho : OthsAt w oa no) (hp : BytesAt w pa np cp) :
    Calls Tryz.prog 9 #[dirV sa ns cs oa no co gen pa np cp wh wo, .int .u64 (dir : Int), .int .u64 (tail : Int)] w fun e w' => e = .returned (.bool true) ∧ Below w.heap.size w w' := by
  obtain ⟨w1, hw1⟩ : ∃ w1, w1 = w.alloc (.cells #[.slice sa ns cs, .slice oa no co, .int .u64 (gen : Int), .slice pa np cp, .bool wh, .bool wo] 27) := ⟨_, rfl⟩
  have hB1 : Below w.heap.size w w1 := by rw [hw1]; exact (Below.refl _ w).alloc (Nat.le_refl _) _
  have hX : w1.heap[w.heap.size]? = some (.cells #[.slice sa ns cs, .slice oa no co, .int .u64 (gen : Int), .slice pa np cp, .bool wh, .bool wo] 27) := by rw [hw1]; exact (MapKept.heap_alloc w _).1
  have x0 : w1.cell? ⟨w.heap.size, 0, none⟩ = some (.slice sa ns cs) := by rw [cell_of_block hX]; rfl
  have x1 : w1.cell? ⟨w.heap.size, 1, none⟩ = some (.slice oa no co) := by rw [cell_of_block hX]; rfl
  have x2 : w1.cell? ⟨w.heap.size, 2, none⟩ = some (.int .u64 (gen : Int)) := by rw [cell_of_block hX]; rfl
  have x3 : w1.cell? ⟨w.heap.size, 3, none⟩ = some (.slice pa np cp) := by rw [cell_of_block hX]; rfl
  have x4 : w1.cell? ⟨w.heap.size, 4, none⟩ = some (.bool wh) := by rw [cell_of_block hX]; rfl
  have x5 : w1.cell? ⟨w.heap.size, 5, none⟩ = some (.bool wo) := by rw [cell_of_block hX]; rfl
  have csm := small_any w1 sa ns cs oa no co gen pa np cp wh wo hns hno hp.1 (hs.stay hB1) (ho.stay hB1)
  go_enter Tryz.func9, Tryz.ntmps9
  go_wp2_with fail
  rw [← hw1]
  refine csm.mono ?_
  rintro e w2 ⟨r, rfl, hB2, hr⟩
  have hBw2 : Below w.heap.size w w2 := hB1.trans (hB2.mono hB1.size)
  cases r with
  | false =>
    clear csm
    go_wp2
    go_ret
    exact ⟨rfl, hBw2⟩
  | true =>
    have hsm1 := hr rfl
    have hsm : SmallDir w2 sa ns oa no np 40000 := hsm1.stay (hs.stay hB1) (ho.stay hB1) hB2
    have cdk := disk_any w2 sa ns cs oa no co gen pa np cp wh wo 1099511627776 (hL.below hBw2 (Nat.le_refl _)) hgen (hs.stay hBw2) (ho.stay hBw2) (hp.stay hBw2) hsm
    have y0 := Below.keepc hB2 x0
    have y1 := Below.keepc hB2 x1
    have y2 := Below.keepc hB2 x2
    have y3 := Below.keepc hB2 x3
    have y4 := Below.keepc hB2 x4
    have y5 := Below.keepc hB2 x5
    clear csm hr
    go_wp2_with fail
    refine cdk.mono ?_
    rintro e w3 ⟨d, K, F, rfl, hd3, hK3, hB3⟩
    clear cdk y0 y1 y2 y3 y4 y5
    have cf1 := hd3.files (by omega)
    go_wp2_with fail
    refine cf1.mono ?_
    rintro e w4 ⟨vo, old, rfl, hro, hio, hco, hno4, hB4⟩
    obtain ⟨ao, capo, rfl, _⟩ := hro.shape
    have hd4 := hd3.below hB4
    clear cf1
    have cfd := find_any ao old.length capo old sManifest w4 rfl (by omega) hro.at
    go_wp2_with fail
    refine cfd.mono ?_
    rintro e w5 ⟨hw5, hfd⟩
    rw [hw5]
    clear hw5 cfd
    have hman := hio.assoc sManifest
    have hBw3 : Below w.heap.size w w3 := hBw2.trans (hB3.mono hBw2.size)
    have hBw4 : Below w.heap.size w w4 := hBw3.trans (hB4.mono hBw3.size)
    rcases hfd with ⟨hnone, rfl⟩ | ⟨b, ab, cb, hsome, rfl, hslb⟩
    · rw [hnone] at hman
      have crm := refReadM_no none 0 0 [] w4 rfl (by omega) (by omega) (by omega) (fun i hi => by simp at hi) (by decide)
      go_wp2_with fail
      refine crm.mono ?_
      rintro e w6 ⟨rfl, hB6⟩
      clear crm
      have hBw6 : Below w.heap.size w w6 := hBw4.trans (hB6.mono hBw4.size)
      have hB36 : Below w3.heap.size w3 w6 := hB4.trans (hB6.mono hB4.size)
      obtain ⟨K6, hK6⟩ : ∃ K6 : Nat → Prop, K6 = fun k => K k ∨ (w3.heap.size ≤ k ∧ k < w6.heap.size) := ⟨_, rfl⟩
      have hd6 : Rest w6 d K6 1000 F := by rw [hK6]; exact hd3.below hB36
      have hL6 : Laid w6 := hL.below hBw6 (Nat.le_refl _)
      have hKG : K6 0 := by rw [hK6]; exact .inl (hK3 _ (Nat.lt_of_lt_of_le hL.lt hBw2.size))
      have hKw : ∀ k, k < w.heap.size → K6 k := fun k hk => by rw [hK6]; exact .inl (hK3 k (Nat.lt_of_lt_of_le hk hBw2.size))
      have hK36 : ∀ k, w3.heap.size ≤ k → k < w6.heap.size → K6 k := fun k h1 h2 => by rw [hK6]; exact .inr ⟨h1, h2⟩
      clear hK6
      have hro6 := hro.below hB6
      have ccl := hC w6 d K6 F hd6 hL6 hKG (hT.below hBw6) (hKw _ hT.lt)
      go_wp2_with fail
      refine ccl.mono ?_
      intro e w7 hcl
      unfold CleanIs at hcl
      rw [← hman] at hcl
      simp only at hcl
      obtain ⟨rfl, hd7, hk7⟩ := hcl
      have hL7 := hL6.keep hk7 hKG
      have hBw7 := Kept.low hBw6 hk7 hKw
      clear ccl
      go_wp2_with fail
      refine (tell_errno 5 w7 hL7).mono ?_
      rintro e w8 ⟨rfl, hB8⟩
      have hd8 := hd7.same hB8
      have cf2 := hd8.files (by omega)
      go_wp2_with fail
      refine cf2.mono ?_
      rintro e w9 ⟨vn, new, rfl, hrn, hin, hcn, hnn, hB9⟩
      obtain rfl : new = old := hin.eq hio
      obtain ⟨an, capn, rfl, _⟩ := hrn.shape
      have hBw9 : Below w.heap.size w w9 := (hBw7.trans (hB8.mono hBw7.size)).trans (hB9.mono (Nat.le_trans hBw7.size hB8.size))
      have hro9 := ((hro6.keepK hk7 hK36).below hB8).below hB9
      have csf := sameFiles_yes an ao new.length capn capo new w9 rfl (by omega) hrn.at hro9.at
      clear cf2
      go_wp2_with fail
      refine csf.mono ?_
      rintro e w10 ⟨rfl, nq, hw10⟩
      have hBw10 : Below w.heap.size w w10 := by rw [hw10]; exact ⟨hBw9.os, hBw9.tape, hBw9.output, hBw9.size, hBw9.block⟩
      clear hw10 csf
      go_wp2
      go_ret
      exact ⟨rfl, hBw10⟩
    · rw [hsome] at hman
      have hbl := hslb.small
      cases hrd : rdOk b with
      | false =>
      have crm := refReadM_no ab cb b.length b w4 rfl (by omega) hslb.le (by have := hslb.cap; unfold maxLen at this; omega) hslb.bs hrd
      go_wp2_with fail
      refine crm.mono ?_
      rintro e w6 ⟨rfl, hB6⟩
      clear crm
      have hBw6 : Below w.heap.size w w6 := hBw4.trans (hB6.mono hBw4.size)
      have hB36 : Below w3.heap.size w3 w6 := hB4.trans (hB6.mono hB4.size)
      obtain ⟨K6, hK6⟩ : ∃ K6 : Nat → Prop, K6 = fun k => K k ∨ (w3.heap.size ≤ k ∧ k < w6.heap.size) := ⟨_, rfl⟩
      have hd6 : Rest w6 d K6 1000 F := by rw [hK6]; exact hd3.below hB36
      have hL6 : Laid w6 := hL.below hBw6 (Nat.le_refl _)
      have hKG : K6 0 := by rw [hK6]; exact .inl (hK3 _ (Nat.lt_of_lt_of_le hL.lt hBw2.size))
      have hKw : ∀ k, k < w.heap.size → K6 k := fun k hk => by rw [hK6]; exact .inl (hK3 k (Nat.lt_of_lt_of_le hk hBw2.size))
      have hK36 : ∀ k, w3.heap.size ≤ k → k < w6.heap.size → K6 k := fun k h1 h2 => by rw [hK6]; exact .inr ⟨h1, h2⟩
      clear hK6
      have hro6 := hro.below hB6
      have ccl := hC w6 d K6 F hd6 hL6 hKG (hT.below hBw6) (hKw _ hT.lt)
      go_wp2_with fail
      refine ccl.mono ?_
      intro e w7 hcl
      unfold CleanIs at hcl
      rw [← hman] at hcl
      simp only [hrd, Bool.false_eq_true, if_false] at hcl
      obtain ⟨rfl, hd7, hk7⟩ := hcl
      have hL7 := hL6.keep hk7 hKG
      have hBw7 := Kept.low hBw6 hk7 hKw
      clear ccl
      go_wp2_with fail
      refine (tell_errno 6 w7 hL7).mono ?_
      rintro e w8 ⟨rfl, hB8⟩
      have hd8 := hd7.same hB8
      have cf2 := hd8.files (by omega)
      go_wp2_with fail
      refine cf2.mono ?_
      rintro e w9 ⟨vn, new, rfl, hrn, hin, hcn, hnn, hB9⟩
      obtain rfl : new = old := hin.eq hio
      obtain ⟨an, capn, rfl, _⟩ := hrn.shape
      have hBw9 : Below w.heap.size w w9 := (hBw7.trans (hB8.mono hBw7.size)).trans (hB9.mono (Nat.le_trans hBw7.size hB8.size))
      have hro9 := ((hro6.keepK hk7 hK36).below hB8).below hB9
      have csf := sameFiles_yes an ao new.length capn capo new w9 rfl (by omega) hrn.at hro9.at
      clear cf2
      go_wp2_with fail
      refine csf.mono ?_
      rintro e w10 ⟨rfl, nq, hw10⟩
      have hBw10 : Below w.heap.size w w10 := by rw [hw10]; exact ⟨hBw9.os, hBw9.tape, hBw9.output, hBw9.size, hBw9.block⟩
      clear hw10 csf
      go_wp2
      go_ret
      exact ⟨rfl, hBw10⟩
      | true =>
      have crm := refReadM_yes ab cb b.length b w4 rfl hslb.le (by have := hslb.cap; unfold maxLen at this; omega) hslb.bs hrd
      obtain ⟨hm60, hmle⟩ := mids_le hrd
      go_wp2_with fail
      refine crm.mono ?_
      rintro e w6 ⟨vi, rfl, hoi, hB6⟩
      obtain ⟨ai, ci, rfl, _⟩ := hoi.shape
      clear crm
      have hBw6 : Below w.heap.size w w6 := hBw4.trans (hB6.mono hBw4.size)
      have hB36 : Below w3.heap.size w3 w6 := hB4.trans (hB6.mono hB4.size)
      obtain ⟨K6, hK6⟩ : ∃ K6 : Nat → Prop, K6 = fun k => K k ∨ (w3.heap.size ≤ k ∧ k < w6.heap.size) := ⟨_, rfl⟩
      have hd6 : Rest w6 d K6 1000 F := by rw [hK6]; exact hd3.below hB36
      have hL6 : Laid w6 := hL.below hBw6 (Nat.le_refl _)
      have hKG : K6 0 := by rw [hK6]; exact .inl (hK3 _ (Nat.lt_of_lt_of_le hL.lt hBw2.size))
      have hKw : ∀ k, k < w.heap.size → K6 k := fun k hk => by rw [hK6]; exact .inl (hK3 k (Nat.lt_of_lt_of_le hk hBw2.size))
      have hK36 : ∀ k, w3.heap.size ≤ k → k < w6.heap.size → K6 k := fun k h1 h2 => by rw [hK6]; exact .inr ⟨h1, h2⟩
      clear hK6
      have hro6 := hro.below hB6
      have ccl := hC w6 d K6 F hd6 hL6 hKG (hT.below hBw6) (hKw _ hT.lt)
      have hK46 : ∀ k, w4.heap.size ≤ k → k < w6.heap.size → K6 k := fun k h1 h2 => hK36 k (Nat.le_trans hB4.size h1) h2
      go_wp2_with fail
      refine ccl.mono ?_
      intro e w7 hcl
      unfold CleanIs at hcl
      rw [← hman] at hcl
      simp only [hrd, if_true] at hcl
      obtain ⟨rfl, F', hd7, hk7, hokF, hkpF⟩ := hcl
      have hBw7 := Kept.low hBw6 hk7 hKw
      clear ccl
      go_wp2_with fail
      refine (tell_nil w7).mono ?_
      rintro e w8 ⟨rfl, hB8⟩
      have hd8 := hd7.same hB8
      have cf2 := hd8.files (by omega)
      go_wp2_with fail
      refine cf2.mono ?_
      rintro e w9 ⟨vn, new, rfl, hrn, hin, hcn, hnn, hB9⟩
      obtain ⟨an, capn, rfl, _⟩ := hrn.shape
      have hBw9 : Below w.heap.size w w9 := (hBw7.trans (hB8.mono hBw7.size)).trans (hB9.mono (Nat.le_trans hBw7.size hB8.size))
      have hk69 : Kept K6 w6 w9 := (hk7.below hB8).below hB9
      have hids : ∀ {wx : World}, Kept K6 w6 wx → IdsAt wx ai (mids b) := fun {wx} hk => by
        have h1 := hoi.keepK hk hK46
        obtain ⟨a', c', e', _, _, hi', _⟩ := h1.shape
        cases e'
        exact mids_ids hi'
      have hcond : ∀ {nn : FL}, IsFiles F' nn → (∀ p ∈ nn, okName (mids b) p.1 = true) ∧ ∀ p ∈ old, (decide (p.1 = sManifest) || listedB (mids b) p.1) = true → assoc nn p.1 = some p.2 := fun {nn} hnn => by
        refine ⟨fun p hp => hokF p.1 p.2 (hnn.2.2.1 p hp), fun p hp hk => ?_⟩
        rw [hnn.assoc]
        exact hkpF p.1 p.2 (hio.2.2.1 p hp) hk
      have hc1 := hcond hin
      have ccd := cleaned_yes ao an ai old.length capo new.length capn (rcnt b) ci old new (mids b) w9 rfl (by omega) rfl (by omega) (hro6.keepK hk69 hK36).at hrn.at hnn (mids_length b) (by have := mids_length b; omega) hmle (hids hk69) hc1.1 hc1.2
      clear cf2
      go_wp2_with fail
      refine ccd.mono ?_
      rintro e w10 ⟨rfl, hB10⟩
      have hd10 := (hd8.same hB9).same hB10
      have hk610 := hk69.below hB10
      have hBw10 := hBw9.trans (hB10.mono hBw9.size)
      clear ccd
      have ccr := hd10.crash (by omega) dir tail
      go_wp2_with fail
      refine ccr.mono ?_
      rintro e w11 ⟨rfl, hd11, hk11⟩
      have hk611 := hk610.trans hk11
      have hBw11 := Kept.low hBw10 hk11 hKw
      clear ccr
      have cf3 := hd11.files (by omega)
      go_wp2_with fail
      refine cf3.mono ?_
      rintro e w12 ⟨vn2, new2, rfl, hrn2, hin2, hcn2, hnn2, hB12⟩
      obtain ⟨an2, capn2, rfl, _⟩ := hrn2.shape
      have hk612 := hk611.below hB12
      have hBw12 := hBw11.trans (hB12.mono hBw11.size)
      have hc2 := hcond hin2
      have ccd2 := cleaned_yes ao an2 ai old.length capo new2.length capn2 (rcnt b) ci old new2 (mids b) w12 rfl (by omega) rfl (by omega) (hro6.keepK hk612 hK36).at hrn2.at hnn2 (mids_length b) (by have := mids_length b; omega) hmle (hids hk612) hc2.1 hc2.2
      clear cf3
      go_wp2_with fail
      refine ccd2.mono ?_
      rintro e w13 ⟨rfl, hB13⟩
      have hBw13 := hBw12.trans (hB13.mono hBw12.size)
      clear ccd2
      go_wp2
      go_ret
      exact ⟨rfl, hBw13⟩
end Go.Proofs.YtakjpgjcfecfiaaGreatDoor
