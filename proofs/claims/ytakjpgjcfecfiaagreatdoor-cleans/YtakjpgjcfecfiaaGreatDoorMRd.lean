import Derived.Test.YtakjpgjcfecfiaaGreatDoorMRdM
/- splitManifest, DecodeManifest, keydir.ReadManifest. -/
namespace Go.Proofs.YtakjpgjcfecfiaaGreatDoor
open Go.RowKit

abbrev Z45 : Obj := .cells #[.int .u64 0, .slice none 0 0] 131
abbrev zman : Value := .agg #[.int .u64 0, .slice none 0 0]
/-- a block of the zero manifest, that may be written -/
structure ZM (g : Nat) (w : World) : Prop where
  c0 : w.cell? ⟨g, 0, none⟩ = some (.int .u64 0)
  c1 : w.cell? ⟨g, 1, none⟩ = some (.slice none 0 0)
  f0 : w.frozen? ⟨g, 0, none⟩ = false
  f1 : w.frozen? ⟨g, 1, none⟩ = false
theorem ZM.start (w : World) : ZM w.heap.size (w.alloc Z45) := ⟨by simp, by simp, by simp, by simp⟩
theorem ZM.step {g B : Nat} {w w' : World} (h : ZM g w) (hb : Below B w w') (hg : g < B) : ZM g w' := by
  have hc : ∀ j, w'.cell? ⟨g, j, none⟩ = w.cell? ⟨g, j, none⟩ := fun j => hb.cell hg
  have hf : ∀ j, w'.frozen? ⟨g, j, none⟩ = w.frozen? ⟨g, j, none⟩ := fun j => hb.frozen hg
  exact ⟨(hc 0).trans h.c0, (hc 1).trans h.c1, (hf 0).trans h.f0, (hf 1).trans h.f1⟩

theorem OwnI.aside {w : World} {base n : Nat} {v : Value} {z : List Int} (h : OwnI w base v n z) {a : Addr} (ha : a.block < base) (u : Value) : OwnI (w.setCell a u) base v n z :=
  ⟨h.1, ownsRow_setCell_below h.2 ha u⟩

/-- the first k numbers are read -/
def ridsTo (l : List UInt8) (m : Nat) : Nat → List Int
  | 0 => List.replicate m 0
  | k + 1 => (ridsTo l m k).set k (rnum l k : Int)
theorem ridsTo_eq (l : List UInt8) (m : Nat) : ∀ k, k ≤ m → ridsTo l m k = rids l k ++ List.replicate (m - k) 0
  | 0, _ => by simp [ridsTo, rids]
  | k + 1, hk => by
    rw [ridsTo, ridsTo_eq l m k (by omega), show m - k = (m - (k + 1)) + 1 by omega, List.replicate_succ, set_mid _ _ _ _ _ (rids_length l k)]
    simp [rids, List.range_succ]

set_option maxRecDepth 100000 in
set_option maxHeartbeats 1000000 in
theorem splitManifest_any (b o cap n m : Nat) (l : List UInt8) (w : World) (hl : l.length = n) (hn : 14 ≤ n) (hm : n ≤ 254) (hmm : m = (n - 14) / 4) (hcap : n ≤ cap) (hcm : cap ≤ 9223372036854775807) (hb : Bs w (some ⟨b, o, none⟩) l) :
    Calls Tryz.prog 166 #[.slice (some ⟨b, o, none⟩) n cap] w fun e w' =>
      ∃ g, e = .returned (.agg #[.int .u64 (rgen l : Nat), .slice (some ⟨g, 0, none⟩) m m]) ∧ OwnI w' w.heap.size (.slice (some ⟨g, 0, none⟩) m m) m (rids l m) ∧ Below w.heap.size w w' := by
  have hB0 : Below w.heap.size w (w.alloc Z45) := (Below.refl _ w).alloc (Nat.le_refl _) _
  have z0 := ZM.start w
  have hm4 : 14 + 4 * m ≤ n ∧ n < 18 + 4 * m := by omega
  have HM : Hid (m = (n - 14) / 4) := hmm
  have hq : ((n : Int) - 14) / 4 = (m : Int) := by omega
  clear hmm
  go_enter Tryz.func166, Tryz.ntmps166
  go_wp2_with (at_make; refine make_ints _ rfl _ _ rfl m _ _ rfl rfl ?c1 ?c2 ?c3 ?_)
  case c1 => first | exact hq | omega
  case c2 => first | exact hq | omega
  case c3 => omega
  intro w1 ho1 hb1
  have z1 := z0.step hb1 (by simp)
  have hB1 : Below w.heap.size w w1 := hB0.trans (hb1.mono (by simp))
  have hs1 := ho1.lt _ rfl
  clear z0 hb1
  go_wp2
  go_loopw [4, 5, 13] (fun _ _ i wr => ∃ k : Nat, k ≤ m ∧ i = .int .i64 k ∧ OwnI wr (w.heap.size + 1) (.slice (some ⟨w.heap.size + 1, 0, none⟩) m m) m (ridsTo l m k) ∧ Below w.heap.size w wr ∧ ZM w.heap.size wr) (fun _ _ i _ => m - (intOf i).toNat)
  case atStart => exact ⟨0, Nat.zero_le _, rfl, by simpa [ridsTo] using ho1, hB1, z1⟩
  case round =>
    obtain ⟨k, hk, rfl, ho, hB, zk⟩ := hrel
    have hsw := ho.lt _ rfl
    by_cases hlt : k < m
    · have cn : ∀ c, Calls Tryz.prog 190 #[.slice (some ⟨b, o + (14 + 4 * k), none⟩) 4 c] wr fun e w' => e = .returned (.int .u64 (rnum l k : Nat)) ∧ w' = wr :=
        fun c => number_at b (o + (14 + 4 * k)) c 4 _ wr (by omega) (by simp; omega) ((hb.kept hB (Nat.le_refl _)).part (14 + 4 * k) 4 (by omega))
      have nk : ¬ cap = 14 + 4 * k := by omega
      have hc := ho.cell k hlt
      have hf := ho.frozen k
      have hs := ho.stored k (rnum l k : Int)
      have hrn := rnum_lt l k
      have hB2 : Below w.heap.size w (wr.setCell ⟨w.heap.size + 1, k, none⟩ (.int .i64 (rnum l k : Int))) := hB.setCell (by show w.heap.size ≤ w.heap.size + 1; omega) _
      have z2 : ZM w.heap.size (wr.setCell ⟨w.heap.size + 1, k, none⟩ (.int .i64 (rnum l k : Int))) := zk.step ((Below.refl (w.heap.size + 1) wr).setCell (Nat.le_refl _) _) (by omega)
      go_wp2_with fail
      refine (cn _).mono ?_
      rintro e w' ⟨rfl, hw⟩
      rw [hw]
      clear hw cn
      go_wp2
      go_roundw
      case rel => exact ⟨k + 1, by omega, by go_num, hs.1, hB2, z2⟩
      case measure => simp [intOf]; omega
    · obtain rfl : k = m := by omega
      have cn : ∀ c, Calls Tryz.prog 190 #[.slice (some ⟨b, o + 4, none⟩) 8 c] wr fun e w' => e = .returned (.int .u64 (rgen l : Nat)) ∧ w' = wr :=
        fun c => number_at b (o + 4) c 8 _ wr (by omega) (by simp; omega) ((hb.kept hB (Nat.le_refl _)).part 4 8 (by omega))
      have n4 : ¬ cap = 4 := by omega
      obtain ⟨q0, q1, f0, f1⟩ := zk
      go_wp2_with fail
      refine (cn _).mono ?_
      rintro e w' ⟨rfl, hw⟩
      rw [hw]
      clear hw cn
      go_wp2
      refine bodyPost_ret (v := .agg #[.int .u64 (rgen l : Nat), .slice (some ⟨w.heap.size + 1, 0, none⟩) k k]) ?_ rfl ⟨w.heap.size + 1, rfl, ?_, ?_⟩
      · simp [results, Tryz.results166, go_sem, q0, q1]
      · have h2 := ho
        rw [ridsTo_eq l k k (Nat.le_refl _), Nat.sub_self, List.replicate_zero, List.append_nil] at h2
        exact ((h2.aside (show w.heap.size < w.heap.size + 1 by omega) _).aside (show w.heap.size < w.heap.size + 1 by omega) _).mono (by omega)
      · exact (hB.setCell (Nat.le_refl _) _).setCell (Nat.le_refl _) _

set_option maxRecDepth 100000 in
set_option maxHeartbeats 400000 in
theorem decodeManifest_len (a : Option Addr) (cap n : Nat) (w : World) (hm : n ≤ 1000000) (h : n < 14 ∨ 254 < n) :
    Calls Tryz.prog 121 #[.slice a n cap] w fun e w' => e = .returned (.tuple #[zman, .iface 51 (.int .i64 6)]) ∧ Below w.heap.size w w' := by
  have hB : Below w.heap.size w (w.alloc Z45) := (Below.refl _ w).alloc (Nat.le_refl _) _
  have key : (decide ((n : Int) < 14) = true) ∨ (decide ((n : Int) < 14) = false ∧ decide ((254 : Int) < n) = true) := by
    simp only [decide_eq_true_iff, decide_eq_false_iff_not]; omega
  clear h
  rcases key with b1 | ⟨b1, b2⟩
  all_goals
    go_enter Tryz.func121, Tryz.ntmps121
    go_wp2
    exact bodyPost_ret (v := .tuple #[zman, .iface 51 (.int .i64 6)]) (by simp [results, Tryz.results121, go_sem]) rfl ⟨rfl, hB⟩

set_option maxRecDepth 100000 in
set_option maxHeartbeats 400000 in
theorem decodeManifest_inv (b o cap n m : Nat) (l : List UInt8) (w : World) (hl : l.length = n) (hn : 14 ≤ n) (hm : n ≤ 254) (hmm : m = (n - 14) / 4) (hcap : n ≤ cap) (hcm : cap ≤ 9223372036854775807) (hb : Bs w (some ⟨b, o, none⟩) l) (hv : validZ (rids l m) = false) :
    Calls Tryz.prog 121 #[.slice (some ⟨b, o, none⟩) n cap] w fun e w' => e = .returned (.tuple #[zman, .iface 51 (.int .i64 6)]) ∧ Below w.heap.size w w' := by
  have b1 : decide ((n : Int) < 14) = false := by simp; omega
  have b2 : decide ((254 : Int) < n) = false := by simp; omega
  have hB : Below w.heap.size w (w.alloc Z45) := (Below.refl _ w).alloc (Nat.le_refl _) _
  have z0 := ZM.start w
  have csp := splitManifest_any b o cap n m l (w.alloc Z45) hl hn hm hmm hcap hcm (hb.kept hB (Nat.le_refl _))
  have hm60 : m ≤ 60 := by omega
  clear hmm
  go_enter Tryz.func121, Tryz.ntmps121
  go_wp2_with fail
  refine csp.mono ?_
  rintro e w1 ⟨g, rfl, ho1, hb1⟩
  have z1 := z0.step hb1 (by simp)
  have hsz1 : w.heap.size < w1.heap.size := by have := hb1.size; simp at this; omega
  have hB1 : Below w.heap.size w w1 := hB.trans (hb1.mono (by simp))
  have hB2 : Below w.heap.size w (w1.alloc (.cells #[.int .u64 (rgen l : Nat), .slice (some ⟨g, 0, none⟩) m m] 131)) := hB1.alloc (by omega) _
  have z2 := z1.step ((Below.refl _ w1).alloc (Nat.le_refl _) (.cells #[.int .u64 (rgen l : Nat), .slice (some ⟨g, 0, none⟩) m m] 131)) hsz1
  have ce := encodeManifest_bad (rgen l) (some ⟨g, 0, none⟩) m m (rids l m) (w1.alloc (.cells #[.int .u64 (rgen l : Nat), .slice (some ⟨g, 0, none⟩) m m] 131)) (rids_length l m) (by omega) (Nat.le_refl _) (by omega) (ho1.alloc _).is hv
  clear csp z0 hB hb1 z1 ho1 hv
  go_wp2_with fail
  refine ce.mono ?_
  rintro e w3 ⟨rfl, hb3⟩
  obtain ⟨q0, q1, f0, f1⟩ := z2.step hb3 (by simp; omega)
  have hB3 : Below w.heap.size w w3 := hB2.trans (hb3.mono (by simp; omega))
  clear hb3 ce z2 hB2 hB1 hsz1
  go_wp2
  refine bodyPost_ret (v := .tuple #[zman, .iface 51 (.int .i64 6)]) ?_ rfl ⟨rfl, ?_⟩
  · simp [results, Tryz.results121, go_sem, q0, q1]
  · exact (hB3.setCell (Nat.le_refl _) _).setCell (Nat.le_refl _) _

set_option maxRecDepth 100000 in
set_option maxHeartbeats 400000 in
theorem decodeManifest_neq (b o cap n m : Nat) (l : List UInt8) (w : World) (hl : l.length = n) (hn : 14 ≤ n) (hm : n ≤ 254) (hmm : m = (n - 14) / 4) (hcap : n ≤ cap) (hcm : cap ≤ 9223372036854775807) (hb : Bs w (some ⟨b, o, none⟩) l) (hv : validZ (rids l m) = true)
    (hp : ¬ l = manBytes (rgen l) (rids l m)) :
    Calls Tryz.prog 121 #[.slice (some ⟨b, o, none⟩) n cap] w fun e w' => e = .returned (.tuple #[zman, .iface 51 (.int .i64 6)]) ∧ Below w.heap.size w w' := by
  have HP : Hid (¬ l = manBytes (rgen l) (rids l m)) := hp
  clear hp
  have b1 : decide ((n : Int) < 14) = false := by simp; omega
  have b2 : decide ((254 : Int) < n) = false := by simp; omega
  have hB : Below w.heap.size w (w.alloc Z45) := (Below.refl _ w).alloc (Nat.le_refl _) _
  have z0 := ZM.start w
  have csp := splitManifest_any b o cap n m l (w.alloc Z45) hl hn hm hmm hcap hcm (hb.kept hB (Nat.le_refl _))
  have hm60 : m ≤ 60 := by omega
  clear hmm
  go_enter Tryz.func121, Tryz.ntmps121
  go_wp2_with fail
  refine csp.mono ?_
  rintro e w1 ⟨g, rfl, ho1, hb1⟩
  have z1 := z0.step hb1 (by simp)
  have hsz1 : w.heap.size < w1.heap.size := by have := hb1.size; simp at this; omega
  have hB1 : Below w.heap.size w w1 := hB.trans (hb1.mono (by simp))
  have hB2 : Below w.heap.size w (w1.alloc (.cells #[.int .u64 (rgen l : Nat), .slice (some ⟨g, 0, none⟩) m m] 131)) := hB1.alloc (by omega) _
  have z2 := z1.step ((Below.refl _ w1).alloc (Nat.le_refl _) (.cells #[.int .u64 (rgen l : Nat), .slice (some ⟨g, 0, none⟩) m m] 131)) hsz1
  have ho2 := ho1.alloc (.cells #[.int .u64 (rgen l : Nat), .slice (some ⟨g, 0, none⟩) m m] 131)
  have ce := encodeManifest_ok (rgen l) (some ⟨g, 0, none⟩) m m (rids l m) (w1.alloc (.cells #[.int .u64 (rgen l : Nat), .slice (some ⟨g, 0, none⟩) m m] 131)) (rgen_lt l) (rids_length l m) (Nat.le_refl _) (by omega) ho2.is hv
  have hlm : (manBytes (rgen l) (rids l m)).length = 14 + 4 * m := by rw [manBytes_length, rids_length]
  clear csp z0 hB hb1 z1 ho1 hv
  go_wp2_with fail
  refine ce.mono ?_
  rintro e w3 ⟨g3, rfl, hom, hb3⟩
  obtain ⟨q0, q1, f0, f1⟩ := z2.step hb3 (by simp; omega)
  have hB3 : Below w.heap.size w w3 := hB2.trans (hb3.mono (by simp; omega))
  have ho3 := ho2.kept hb3 (Nat.le_refl _)
  have r0 : w3.cell? ⟨w1.heap.size, 0, none⟩ = some (.int .u64 (rgen l : Nat)) := by rw [hb3.cell (by simp)]; simp
  have r1 : w3.cell? ⟨w1.heap.size, 1, none⟩ = some (.slice (some ⟨g, 0, none⟩) m m) := by rw [hb3.cell (by simp)]; simp
  have hbm : Bs w3 (some ⟨g3, 0, none⟩) (manBytes (rgen l) (rids l m)) := by
    have := hom.bs 0 (14 + 4 * m) (by omega)
    rwa [List.drop_zero, List.take_of_length_le (by omega)] at this
  have cq := equal_any b o cap g3 0 (14 + 4 * m) n (14 + 4 * m) l (manBytes (rgen l) (rids l m)) w3 hl hlm (hb.kept hB3 (Nat.le_refl _)) hbm
  have hd : decide (l = manBytes (rgen l) (rids l m)) = false := by simp [HP.out]
  rw [hd] at cq
  clear hb3 ce z2 hB2 hB1 hbm hom ho2 hd hb
  go_wp2_with fail
  refine cq.mono ?_
  rintro e w' ⟨rfl, hw⟩
  rw [hw]
  clear hw cq
  go_wp2
  refine bodyPost_ret (v := .tuple #[zman, .iface 51 (.int .i64 6)]) ?_ rfl ⟨rfl, ?_⟩
  · simp [results, Tryz.results121, go_sem, q0, q1]
  · exact (hB3.setCell (Nat.le_refl _) _).setCell (Nat.le_refl _) _

set_option maxRecDepth 100000 in
set_option maxHeartbeats 400000 in
theorem decodeManifest_eq (b o cap n m : Nat) (l : List UInt8) (w : World) (hl : l.length = n) (hn : 14 ≤ n) (hm : n ≤ 254) (hmm : m = (n - 14) / 4) (hcap : n ≤ cap) (hcm : cap ≤ 9223372036854775807) (hb : Bs w (some ⟨b, o, none⟩) l) (hv : validZ (rids l m) = true)
    (hp : manBytes (rgen l) (rids l m) = l) :
    Calls Tryz.prog 121 #[.slice (some ⟨b, o, none⟩) n cap] w fun e w' => ∃ g, e = .returned (.tuple #[.agg #[.int .u64 (rgen l : Nat), .slice (some ⟨g, 0, none⟩) m m], .nilIface]) ∧ OwnI w' (w.heap.size + 1) (.slice (some ⟨g, 0, none⟩) m m) m (rids l m) ∧ Below w.heap.size w w' := by
  have HP : Hid (manBytes (rgen l) (rids l m) = l) := hp
  clear hp
  have b1 : decide ((n : Int) < 14) = false := by simp; omega
  have b2 : decide ((254 : Int) < n) = false := by simp; omega
  have hB : Below w.heap.size w (w.alloc Z45) := (Below.refl _ w).alloc (Nat.le_refl _) _
  have z0 := ZM.start w
  have csp := splitManifest_any b o cap n m l (w.alloc Z45) hl hn hm hmm hcap hcm (hb.kept hB (Nat.le_refl _))
  have hm60 : m ≤ 60 := by omega
  clear hmm
  go_enter Tryz.func121, Tryz.ntmps121
  go_wp2_with fail
  refine csp.mono ?_
  rintro e w1 ⟨g, rfl, ho1, hb1⟩
  have z1 := z0.step hb1 (by simp)
  have hsz1 : w.heap.size < w1.heap.size := by have := hb1.size; simp at this; omega
  have hB1 : Below w.heap.size w w1 := hB.trans (hb1.mono (by simp))
  have hB2 : Below w.heap.size w (w1.alloc (.cells #[.int .u64 (rgen l : Nat), .slice (some ⟨g, 0, none⟩) m m] 131)) := hB1.alloc (by omega) _
  have z2 := z1.step ((Below.refl _ w1).alloc (Nat.le_refl _) (.cells #[.int .u64 (rgen l : Nat), .slice (some ⟨g, 0, none⟩) m m] 131)) hsz1
  have ho2 := ho1.alloc (.cells #[.int .u64 (rgen l : Nat), .slice (some ⟨g, 0, none⟩) m m] 131)
  have ce := encodeManifest_ok (rgen l) (some ⟨g, 0, none⟩) m m (rids l m) (w1.alloc (.cells #[.int .u64 (rgen l : Nat), .slice (some ⟨g, 0, none⟩) m m] 131)) (rgen_lt l) (rids_length l m) (Nat.le_refl _) (by omega) ho2.is hv
  have hlm : (manBytes (rgen l) (rids l m)).length = 14 + 4 * m := by rw [manBytes_length, rids_length]
  clear csp z0 hB hb1 z1 ho1 hv
  go_wp2_with fail
  refine ce.mono ?_
  rintro e w3 ⟨g3, rfl, hom, hb3⟩
  obtain ⟨q0, q1, f0, f1⟩ := z2.step hb3 (by simp; omega)
  have hB3 : Below w.heap.size w w3 := hB2.trans (hb3.mono (by simp; omega))
  have ho3 := ho2.kept hb3 (Nat.le_refl _)
  have r0 : w3.cell? ⟨w1.heap.size, 0, none⟩ = some (.int .u64 (rgen l : Nat)) := by rw [hb3.cell (by simp)]; simp
  have r1 : w3.cell? ⟨w1.heap.size, 1, none⟩ = some (.slice (some ⟨g, 0, none⟩) m m) := by rw [hb3.cell (by simp)]; simp
  have hbm : Bs w3 (some ⟨g3, 0, none⟩) (manBytes (rgen l) (rids l m)) := by
    have := hom.bs 0 (14 + 4 * m) (by omega)
    rwa [List.drop_zero, List.take_of_length_le (by omega)] at this
  have cq := equal_any b o cap g3 0 (14 + 4 * m) n (14 + 4 * m) l (manBytes (rgen l) (rids l m)) w3 hl hlm (hb.kept hB3 (Nat.le_refl _)) hbm
  have hd : decide (l = manBytes (rgen l) (rids l m)) = true := by simp [HP.out]
  rw [hd] at cq
  clear hb3 ce z2 hB2 hB1 hbm hom ho2 hd hb
  go_wp2_with fail
  refine cq.mono ?_
  rintro e w' ⟨rfl, hw⟩
  rw [hw]
  clear hw cq
  go_wp2
  refine bodyPost_ret (v := .tuple #[.agg #[.int .u64 (rgen l : Nat), .slice (some ⟨g, 0, none⟩) m m], .nilIface]) ?_ rfl ⟨g, rfl, ?_, ?_⟩
  · simp [results, Tryz.results121, go_sem, q0, q1]
  · have h4 := ho3.mono (show w.heap.size + 1 ≤ _ by simp)
    exact (h4.aside (show w.heap.size < w.heap.size + 1 by omega) _).aside (show w.heap.size < w.heap.size + 1 by omega) _
  · exact (hB3.setCell (Nat.le_refl _) _).setCell (Nat.le_refl _) _

end Go.Proofs.YtakjpgjcfecfiaaGreatDoor
