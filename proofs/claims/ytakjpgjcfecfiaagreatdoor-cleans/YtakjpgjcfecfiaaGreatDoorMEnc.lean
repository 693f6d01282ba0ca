import Derived.Test.YtakjpgjcfecfiaaGreatDoorMInts
/- EncodeManifest. -/
namespace Go.Proofs.YtakjpgjcfecfiaaGreatDoor
open Go.RowKit

/-- the first k numbers in bytes -/
def idsTo (z : List Int) : Nat → List UInt8
  | 0 => []
  | k + 1 => idsTo z k ++ be 4 (zat z k).toNat
theorem idsTo_length (z : List Int) : ∀ k, (idsTo z k).length = 4 * k
  | 0 => rfl
  | k + 1 => by rw [idsTo, List.length_append, idsTo_length z k, be_length]; omega
def manBody (gen : Nat) (z : List Int) : List UInt8 := be 8 gen ++ (be 2 z.length ++ idsTo z z.length)
def manBytes (gen : Nat) (z : List Int) : List UInt8 := be 4 (crc (manBody gen z)) ++ manBody gen z
theorem manBody_length (gen : Nat) (z : List Int) : (manBody gen z).length = 10 + 4 * z.length := by
  simp [manBody, be_length, idsTo_length]; omega
theorem manBytes_length (gen : Nat) (z : List Int) : (manBytes gen z).length = 14 + 4 * z.length := by
  rw [manBytes, List.length_append, be_length, manBody_length]; omega

/-- the bytes at the steps of EncodeManifest -/
def menL1 (gen n : Nat) : List UInt8 := splice (List.replicate (14 + 4 * n) 0) 4 (be 8 gen)
def menL2 (gen n : Nat) : List UInt8 := splice (menL1 gen n) 12 (be 2 n)
def menL3 (gen n : Nat) (z : List Int) : Nat → List UInt8
  | 0 => menL2 gen n
  | k + 1 => splice (menL3 gen n z k) (14 + 4 * k) (be 4 (zat z k).toNat)
def menL (gen n : Nat) (z : List Int) : List UInt8 := splice (menL3 gen n z n) 0 (be 4 (crc ((menL3 gen n z n).drop 4)))
theorem zeros2 (n : Nat) : List.replicate (14 + 4 * n) (0 : UInt8) = List.replicate 4 0 ++ (List.replicate 8 0 ++ (List.replicate 2 0 ++ List.replicate (4 * n) 0)) := by
  have h : ∀ a b : Nat, List.replicate (a + b) (0 : UInt8) = List.replicate a 0 ++ List.replicate b 0 := fun a b => by simp
  rw [show 14 + 4 * n = 4 + (8 + (2 + 4 * n)) by omega, h, h, h]
theorem menL3_eq (gen n : Nat) (z : List Int) : ∀ k, k ≤ n → menL3 gen n z k = (List.replicate 4 0 ++ (be 8 gen ++ (be 2 n ++ idsTo z k))) ++ List.replicate (4 * (n - k)) 0
  | 0, _ => by
    have e1 : menL1 gen n = List.replicate 4 0 ++ (be 8 gen ++ (List.replicate 2 0 ++ List.replicate (4 * n) 0)) := by
      rw [menL1, zeros2]; exact splice_mid _ _ _ _ _ (by simp) (by simp [be_length])
    rw [menL3, menL2, e1, ← List.append_assoc, splice_mid _ _ _ _ _ (by simp [be_length]) (by simp [be_length])]
    simp [idsTo]
  | k + 1, hk => by
    have h : ∀ a b : Nat, List.replicate (a + b) (0 : UInt8) = List.replicate a 0 ++ List.replicate b 0 := fun a b => by simp
    rw [menL3, menL3_eq gen n z k (by omega), show 4 * (n - k) = 4 + 4 * (n - (k + 1)) by omega, h 4, splice_mid _ _ _ _ _ (by simp [be_length, idsTo_length]; omega) (by simp [be_length]), idsTo]
    simp only [List.append_assoc]
theorem menL_eq (gen : Nat) (z : List Int) : menL gen z.length z = manBytes gen z := by
  have e := menL3_eq gen z.length z z.length (Nat.le_refl _)
  rw [Nat.sub_self, Nat.mul_zero, List.replicate_zero, List.append_nil] at e
  have e7 : (menL3 gen z.length z z.length).drop 4 = manBody gen z := by rw [e]; exact List.drop_left' (by simp)
  rw [menL, e7, e, manBytes]
  exact splice_mid [] (List.replicate 4 0) (manBody gen z) (be 4 (crc (manBody gen z))) 0 rfl (by simp [be_length])

/-- the state of EncodeManifest behind its make: the manifest's box at B, the bytes' block at B + 1 -/
structure MenSt (w wx : World) (gen : Nat) (a : Option Addr) (n c N : Nat) (l : List UInt8) : Prop where
  own : Own wx (w.heap.size + 1) (.slice (some ⟨w.heap.size + 1, 0, none⟩) N N) N l
  c0 : wx.cell? ⟨w.heap.size, 0, none⟩ = some (.int .u64 (gen : Int))
  c1 : wx.cell? ⟨w.heap.size, 1, none⟩ = some (.slice a n c)
  size : w.heap.size + 1 < wx.heap.size
  below : Below w.heap.size w wx
theorem MenSt.step {w wx wy : World} {gen : Nat} {a : Option Addr} {n c N : Nat} {l l' : List UInt8} (h : MenSt w wx gen a n c N l)
    (ho : Own wy (w.heap.size + 1) (.slice (some ⟨w.heap.size + 1, 0, none⟩) N N) N l') (hg : wx.grownBy wy (some (w.heap.size + 1))) : MenSt w wy gen a n c N l' := by
  have hs := h.size
  have hc : ∀ j, wy.cell? ⟨w.heap.size, j, none⟩ = wx.cell? ⟨w.heap.size, j, none⟩ := fun j => World.cell?_of_block (hg.block _ (by show w.heap.size < _; omega) (by simp))
  exact ⟨ho, (hc 0).trans h.c0, (hc 1).trans h.c1, Nat.lt_of_lt_of_le hs hg.size,
    h.below.trans ⟨hg.os, hg.tape, hg.output, hg.size, fun j hj => hg.block j (by omega) (by simp; omega)⟩⟩
theorem MenSt.drew {w wx : World} {gen : Nat} {a : Option Addr} {n c N : Nat} {l : List UInt8} (h : MenSt w wx gen a n c N l) : MenSt w wx.drew gen a n c N l :=
  h.step (h.own.drewN 1) ⟨rfl, rfl, rfl, Nat.le_refl _, fun _ _ _ => rfl⟩
theorem MenSt.start {w wx : World} {gen : Nat} {a : Option Addr} {n c N : Nat} {l : List UInt8}
    (ho : Own wx (w.heap.size + 1) (.slice (some ⟨w.heap.size + 1, 0, none⟩) N N) N l)
    (hb : Below (w.heap.size + 1) (w.alloc (.cells #[.int .u64 (gen : Int), .slice a n c] 131)) wx) : MenSt w wx gen a n c N l := by
  have hc : ∀ j, wx.cell? ⟨w.heap.size, j, none⟩ = (#[Value.int .u64 (gen : Int), .slice a n c] : Array Value)[j]? := by
    intro j
    rw [hb.cell (by show w.heap.size < _; omega), World.cell?_alloc_at _ _ _ _ rfl]
  have hsz := ho.lt _ rfl
  exact ⟨ho, hc 0, hc 1, hsz.2, ((Below.refl _ w).alloc (Nat.le_refl _) _).trans (hb.mono (by omega))⟩

set_option maxHeartbeats 400000 in
theorem encodeManifest_bad (gen : Nat) (a : Option Addr) (c n : Nat) (z : List Int) (w : World) (hn : z.length = n) (hm : n ≤ 2000000) (hcap : n ≤ c) (hcm : c ≤ 9223372036854775807) (h : Is w a z) (hv : validZ z = false) :
    Calls Tryz.prog 144 #[.agg #[.int .u64 (gen : Int), .slice a n c]] w fun e w' =>
      e = .returned (.tuple #[.slice none 0 0, .iface 51 (.int .i64 4)]) ∧ Below w.heap.size w w' := by
  have hB : Below w.heap.size w (w.alloc (.cells #[.int .u64 (gen : Int), .slice a n c] 131)) := (Below.refl _ w).alloc (Nat.le_refl _) _
  have cv := validIDs_any a c n z _ hn hm hcap hcm (h.kept hB (Nat.le_refl _))
  rw [hv] at cv
  clear hv
  go_enter Tryz.func144, Tryz.ntmps144
  go_wp2_with fail
  refine cv.mono ?_
  rintro e w' ⟨rfl, rfl⟩
  go_wp2
  go_ret2
  exact ⟨rfl, hB⟩

set_option maxRecDepth 100000 in
set_option maxHeartbeats 2000000 in
theorem encodeManifest_ok0 (gen : Nat) (a : Option Addr) (c n : Nat) (z : List Int) (w : World) (hg : gen < 18446744073709551616) (hn : z.length = n) (hcap : n ≤ c) (hcm : c ≤ 9223372036854775807) (h : Is w a z) (hv : validZ z = true) :
    Calls Tryz.prog 144 #[.agg #[.int .u64 (gen : Int), .slice a n c]] w fun e w' =>
      e = .returned (.tuple #[.slice (some ⟨w.heap.size + 1, 0, none⟩) (14 + 4 * n) (14 + 4 * n), .nilIface]) ∧ MenSt w w' gen a n c (14 + 4 * n) (menL gen n z) := by
  have hok := (validZ_iff z).1 hv
  have h60 : n ≤ 60 := by have := hok.1; omega
  have hids : ∀ k, k < n → 1 ≤ zat z k ∧ zat z k ≤ 999999 := fun k hk => ⟨(hok.2 k (by omega)).1, (hok.2 k (by omega)).2.1⟩
  have hB : Below w.heap.size w (w.alloc (.cells #[.int .u64 (gen : Int), .slice a n c] 131)) := (Below.refl _ w).alloc (Nat.le_refl _) _
  have cv := validIDs_any a c n z _ hn (by omega) hcap hcm (h.kept hB (Nat.le_refl _))
  rw [hv] at cv
  clear hv hok
  have n4 : ¬ 14 + 4 * n = 4 := by omega
  have n12 : ¬ 14 + 4 * n = 12 := by omega
  go_enter Tryz.func144, Tryz.ntmps144
  go_upto_region 4 with (first | (go_at_call 200; refine cv.mono ?_; rintro e w' ⟨rfl, rfl⟩) | (at_make; refine make_own _ rfl _ _ rfl (14 + 4 * n) _ _ rfl rfl ?c1 ?c2 ?c3 ?_))
  case c1 => omega
  case c2 => omega
  case c3 => omega
  intro wx hox hbx
  have st := MenSt.start hox hbx
  clear hox hbx cv
  have c0 := st.c0
  have hsz := st.size
  have cp := fun c => put_any (w.heap.size + 1) 4 (14 + 4 * n) 8 c gen (14 + 4 * n) (w.heap.size + 1) _ wx.drew (by omega) hg (by omega) st.drew.own
  go_upto_region 4 with fail
  go_cut [] from 19 to 23 (fun wc => MenSt w wc gen a n c (14 + 4 * n) (menL1 gen n))
  case first =>
    go_region_with (go_at_call 192; refine (cp _).mono ?_; rintro e w' ⟨rfl, hw⟩)
    all_goals (go_wp2_with fail; go_meet; exact st.drew.step hw.1 hw.2)
  case rest =>
  clear cp c0 hsz st wx
  have s2 := hcut
  clear hcut
  have c1 := s2.c1
  have hsz := s2.size
  have cp := fun z hz c => put_z z (w.heap.size + 1) 12 (14 + 4 * n) 2 c n (14 + 4 * n) (w.heap.size + 1) _ wc.drew hz (by omega) (by omega) (by omega) s2.drew.own
  go_upto_region 5 with fail
  go_cut [] from 24 to 30 (fun wc => MenSt w wc gen a n c (14 + 4 * n) (menL2 gen n))
  case first =>
    go_region_with (go_at_call 192; refine (cp _ ?_ _).mono ?_; (focus (first | rfl | exact wrap64_nat _ (by omega))); rintro e w' ⟨rfl, hw⟩)
    all_goals (go_wp2_with fail; go_meet; exact s2.drew.step hw.1 hw.2)
  case rest =>
  clear cp c1 hsz s2
  have s3 := hcut
  clear hcut
  have c1 := s3.c1
  go_wp2
  go_loopw [5, 6, 7, 34] (fun _ _ _ i wr => ∃ k : Nat, k ≤ n ∧ i = .int .i64 k ∧ MenSt w wr gen a n c (14 + 4 * n) (menL3 gen n z k)) (fun _ _ _ i _ => n - (intOf i).toNat)
  case atStart => exact ⟨0, Nat.zero_le _, rfl, s3⟩
  case round =>
    obtain ⟨k, hk, rfl, sk⟩ := hrel
    by_cases hlt : k < n
    · obtain ⟨b, o, rfl, hc⟩ := (h.kept sk.below (Nat.le_refl _)) k (by omega)
      have hid := hids k hlt
      have nk : ¬ 14 + 4 * n = 14 + 4 * k := by omega
      have cp := fun zz hz c => put_z zz (w.heap.size + 1) (14 + 4 * k) (14 + 4 * n) 4 c (zat z k).toNat (14 + 4 * n) (w.heap.size + 1) _ wr hz (by omega) (by omega) (by omega) sk.own
      go_wp2_with fail
      refine (cp _ ?_ _).mono ?_
      · omega
      rintro e w' ⟨rfl, hw⟩
      have sk' := sk.step hw.1 hw.2
      clear hw
      go_wp2
      go_roundw
      case rel => exact ⟨k + 1, by omega, by go_num, sk'⟩
      case measure => simp [intOf]; omega
    · obtain rfl : k = n := by omega
      have cs := seal_any (w.heap.size + 1) (14 + 4 * k) (14 + 4 * k) (w.heap.size + 1) _ wr (by omega) (by omega) (by omega) (by omega) sk.own
      go_wp2_with (go_at_call 193; refine cs.mono ?_; rintro e w' ⟨rfl, hw⟩)
      go_ret2
      exact ⟨rfl, sk.step hw.1 hw.2⟩

theorem encodeManifest_ok (gen : Nat) (a : Option Addr) (c n : Nat) (z : List Int) (w : World) (hg : gen < 18446744073709551616) (hn : z.length = n) (hcap : n ≤ c) (hcm : c ≤ 9223372036854775807) (h : Is w a z) (hv : validZ z = true) :
    Calls Tryz.prog 144 #[.agg #[.int .u64 (gen : Int), .slice a n c]] w fun e w' =>
      ∃ g, e = .returned (.tuple #[.slice (some ⟨g, 0, none⟩) (14 + 4 * n) (14 + 4 * n), .nilIface]) ∧
      Own w' w.heap.size (.slice (some ⟨g, 0, none⟩) (14 + 4 * n) (14 + 4 * n)) (14 + 4 * n) (manBytes gen z) ∧ Below w.heap.size w w' := by
  refine (encodeManifest_ok0 gen a c n z w hg hn hcap hcm h hv).mono ?_
  rintro e w' ⟨rfl, st⟩
  refine ⟨_, rfl, ?_, st.below⟩
  rw [← menL_eq, hn]
  exact st.own.mono (by omega)
end Go.Proofs.YtakjpgjcfecfiaaGreatDoor
