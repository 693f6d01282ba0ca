import Derived.Test.YtakjpgjcfecfiaaDoorCopy
import Derived.Deep.CutRange
import Derived.Deep.DeepCutAuto
/- EncodeRecord. -/
namespace Go.Proofs.YtakjpgjcfecfiaaDoor
open Go.RowKit

/-- the state of EncodeRecord behind its make: the record's box at B, the bytes' block at B + 2 -/
structure EncSt (w wx : World) (seq : Nat) (k v : ByteArray) (d : Bool) (N : Nat) (l : List UInt8) : Prop where
  own : Own wx (w.heap.size + 1 + 1) (.slice (some ⟨w.heap.size + 1 + 1, 0, none⟩) N N) N l
  c0 : wx.cell? ⟨w.heap.size, 0, none⟩ = some (.int .u64 (seq : Int))
  c1 : wx.cell? ⟨w.heap.size, 1, none⟩ = some (.string k)
  c2 : wx.cell? ⟨w.heap.size, 2, none⟩ = some (.string v)
  c3 : wx.cell? ⟨w.heap.size, 3, none⟩ = some (.bool d)
  size : w.heap.size + 1 + 1 < wx.heap.size
  below : Below w.heap.size w wx

theorem EncSt.step {w wx wy : World} {seq : Nat} {k v : ByteArray} {d : Bool} {N : Nat} {l l' : List UInt8} (h : EncSt w wx seq k v d N l)
    (ho : Own wy (w.heap.size + 1 + 1) (.slice (some ⟨w.heap.size + 1 + 1, 0, none⟩) N N) N l') (hg : wx.grownBy wy (some (w.heap.size + 1 + 1))) : EncSt w wy seq k v d N l' := by
  have hs := h.size
  have hc : ∀ j, wy.cell? ⟨w.heap.size, j, none⟩ = wx.cell? ⟨w.heap.size, j, none⟩ := fun j => World.cell?_of_block (hg.block _ (by show w.heap.size < _; omega) (by simp; omega))
  exact ⟨ho, (hc 0).trans h.c0, (hc 1).trans h.c1, (hc 2).trans h.c2, (hc 3).trans h.c3, Nat.lt_of_lt_of_le hs hg.size,
    h.below.trans ⟨hg.os, hg.tape, hg.output, hg.size, fun j hj => hg.block j (by omega) (by simp; omega)⟩⟩
theorem EncSt.drew {w wx : World} {seq : Nat} {k v : ByteArray} {d : Bool} {N : Nat} {l : List UInt8} (h : EncSt w wx seq k v d N l) : EncSt w wx.drew seq k v d N l :=
  h.step (h.own.drewN 1) ⟨rfl, rfl, rfl, Nat.le_refl _, fun _ _ _ => rfl⟩
theorem EncSt.start {w wx : World} {seq : Nat} {k v : ByteArray} {d : Bool} {N : Nat} {l : List UInt8}
    (ho : Own wx (w.heap.size + 1 + 1) (.slice (some ⟨w.heap.size + 1 + 1, 0, none⟩) N N) N l)
    (hb : Below (w.heap.size + 1 + 1) ((w.alloc (.cells #[.int .u64 (seq : Int), .string k, .string v, .bool d] 24)).alloc (.cells #[.int .u64 (seq : Int), .string k, .string v, .bool d] 24)) wx) : EncSt w wx seq k v d N l := by
  have hc : ∀ j, wx.cell? ⟨w.heap.size, j, none⟩ = (#[Value.int .u64 (seq : Int), .string k, .string v, .bool d] : Array Value)[j]? := by
    intro j
    rw [hb.cell (by show w.heap.size < _; omega), World.cell?_alloc_past _ _ _ (by simp), World.cell?_alloc_at _ _ _ _ rfl]
  have hsz := ho.lt _ rfl
  refine ⟨ho, hc 0, hc 1, hc 2, hc 3, hsz.2, ?_⟩
  exact (((Below.refl _ w).alloc (Nat.le_refl _) _).alloc (by simp) _).trans (hb.mono (by omega))

/-- the bytes at the steps of EncodeRecord -/
def encL1 (seq N : Nat) : List UInt8 := splice (List.replicate N 0) 4 (be 8 seq)
def encL2 (seq N : Nat) (d : Bool) : List UInt8 := if d = true then (encL1 seq N).set 12 1 else encL1 seq N
def encL3 (seq : Nat) (k : ByteArray) (N : Nat) (d : Bool) : List UInt8 := splice (encL2 seq N d) 13 (be 1 k.size)
def encL4 (seq : Nat) (k v : ByteArray) (N : Nat) (d : Bool) : List UInt8 := splice (encL3 seq k N d) 14 (be 2 v.size)
def encL5 (seq : Nat) (k v : ByteArray) (N : Nat) (d : Bool) : List UInt8 := splice (encL4 seq k v N d) 16 k.data.toList
def encL6 (seq : Nat) (k v : ByteArray) (N : Nat) (d : Bool) : List UInt8 := splice (encL5 seq k v N d) (16 + k.size) v.data.toList
def encL (seq : Nat) (k v : ByteArray) (N : Nat) (d : Bool) : List UInt8 := splice (encL6 seq k v N d) 0 (be 4 (crc ((encL6 seq k v N d).drop 4)))

set_option maxRecDepth 100000 in
set_option maxHeartbeats 2000000 in
theorem encodeRecord_ok0 (seq : Nat) (k v : ByteArray) (d : Bool) (w : World) (hs : seq < 18446744073709551616) (hkey : keyOk k = true) (hval : valOk v d = true) :
    Calls Tryd.prog 16 #[.agg #[.int .u64 (seq : Int), .string k, .string v, .bool d]] w fun e w' =>
      e = .returned (.tuple #[.slice (some ⟨w.heap.size + 1 + 1, 0, none⟩) (16 + k.size + v.size) (16 + k.size + v.size), .nilIface]) ∧
      EncSt w w' seq k v d (16 + k.size + v.size) (encL seq k v (16 + k.size + v.size) d) := by
  have hv' : v.size ≤ 64 ∧ (d = true → v.size = 0) := of_decide_eq_true hval
  have hv64 : v.size ≤ 64 := hv'.1
  have hk' : 1 ≤ k.size ∧ k.size ≤ 16 := of_decide_eq_true hkey
  clear hv'
  have n4 : ¬ 16 + k.size + v.size = 4 := by omega
  have n13 : ¬ 16 + k.size + v.size = 13 := by omega
  have n14 : ¬ 16 + k.size + v.size = 14 := by omega
  have n16 : ¬ 16 + k.size + v.size = 16 := by omega
  have i16 : (16 : Int) ≤ 16 + (k.size : Int) + (v.size : Int) := by omega
  have i16k : (16 : Int) + (k.size : Int) ≤ 16 + (k.size : Int) + (v.size : Int) := by omega
  go_enter Tryd.func16, Tryd.ntmps16
  go_upto_region 5 with (first | (go_at_call 28; refine (check_ok _ _ _ _ _ hkey hval).mono ?_; rintro e w' ⟨rfl, rfl⟩) | (at_make; refine make_own _ rfl _ _ rfl (16 + k.size + v.size) _ _ rfl rfl ?c1 ?c2 ?c3 ?_))
  case c1 => omega
  case c2 => omega
  case c3 => omega
  intro wx hox hbx
  have st := EncSt.start hox hbx
  clear hox hbx
  have c0 := st.c0
  have hsz := st.size
  have cp := fun c => put_any (w.heap.size + 1 + 1) 4 (16 + k.size + v.size) 8 c seq (16 + k.size + v.size) (w.heap.size + 1 + 1) _ wx.drew (by omega) hs (by omega) st.drew.own
  go_upto_region 5 with fail
  go_cut [] from 20 to 24 (fun wc => EncSt w wc seq k v d (16 + k.size + v.size) (encL1 seq (16 + k.size + v.size)))
  case first =>
    go_region_with (go_at_call 29; refine (cp _).mono ?_; rintro e w' ⟨rfl, hw⟩)
    all_goals (go_wp2_with fail; go_meet; exact st.drew.step hw.1 hw.2)
  case rest =>
  clear cp c0 hsz st wx
  have s2 := hcut
  clear hcut
  have c3 := s2.c3
  have hsz := s2.size
  go_upto_if 26 with fail
  go_cut [] from 25 to 28 (fun wd => EncSt w wd seq k v d (16 + k.size + v.size) (encL2 seq (16 + k.size + v.size) d))
  case first =>
    have hf := s2.own.frozen 12
    have hc := s2.own.cell 12 (by omega)
    have hst := s2.own.stored 12 1
    cases d with
    | false =>
      go_wp2_with fail
      go_meet
      exact s2
    | true =>
      go_wp2_with fail
      go_meet
      exact s2.step hst.1 hst.2
  case rest =>
  clear c3 hsz s2
  have s3 := hcut
  clear hcut
  have c1 := s3.c1
  have hsz := s3.size
  have cp := fun z hz c => put_z z (w.heap.size + 1 + 1) 13 (16 + k.size + v.size) 1 c k.size (16 + k.size + v.size) (w.heap.size + 1 + 1) _ wc.drew hz (by omega) (by omega) (by omega) s3.drew.own
  go_upto_region 8 with fail
  go_cut [] from 29 to 35 (fun wd => EncSt w wd seq k v d (16 + k.size + v.size) (encL3 seq k (16 + k.size + v.size) d))
  case first =>
    go_region_with (go_at_call 29; refine (cp _ ?_ _).mono ?_; (focus (first | rfl | exact wrap64_nat _ (by omega))); rintro e w' ⟨rfl, hw⟩)
    all_goals (go_wp2_with fail; go_meet; exact s3.drew.step hw.1 hw.2)
  case rest =>
  clear cp c1 hsz s3
  have s4 := hcut
  clear hcut
  have c2 := s4.c2
  have hsz := s4.size
  have cp := fun z hz c => put_z z (w.heap.size + 1 + 1) 14 (16 + k.size + v.size) 2 c v.size (16 + k.size + v.size) (w.heap.size + 1 + 1) _ wc.drew hz (by omega) (by omega) (by omega) s4.drew.own
  go_upto_region 9 with fail
  go_cut [] from 36 to 42 (fun wd => EncSt w wd seq k v d (16 + k.size + v.size) (encL4 seq k v (16 + k.size + v.size) d))
  case first =>
    go_region_with (go_at_call 29; refine (cp _ ?_ _).mono ?_; (focus (first | rfl | exact wrap64_nat _ (by omega))); rintro e w' ⟨rfl, hw⟩)
    all_goals (go_wp2_with fail; go_meet; exact s4.drew.step hw.1 hw.2)
  case rest =>
  clear cp c2 hsz s4
  have s5 := hcut
  clear hcut
  have c1 := s5.c1
  have hsz := s5.size
  have hlk : k.data.toList.length = k.size := by simp
  go_upto_region 10 with fail
  go_cut [] from 43 to 47 (fun wd => EncSt w wd seq k v d (16 + k.size + v.size) (encL5 seq k v (16 + k.size + v.size) d))
  case first =>
    go_region_law (refine step_copy_str rfl (.tmp 44) (.tmp 46) rfl _ _ _ k rfl rfl (w.heap.size + 1 + 1) 16 (16 + k.size + v.size) (16 + k.size + v.size) (w.heap.size + 1 + 1) _ s5.drew.own (fun _ => rfl) (by omega) (by omega) ?_; intro w' ho hg)
    all_goals (go_wp2_with fail; go_meet; exact s5.drew.step ho hg)
  case rest =>
  clear c1 hsz s5 hlk
  have s6 := hcut
  clear hcut
  have c1 := s6.c1
  have c2 := s6.c2
  have hsz := s6.size
  go_upto_region 11 with fail
  go_cut [] from 48 to 56 (fun wd => EncSt w wd seq k v d (16 + k.size + v.size) (encL6 seq k v (16 + k.size + v.size) d))
  case first =>
    have hwr : IntKind.i64.wrap (16 + (k.size : Int)) = 16 + (k.size : Int) := by rw [IntKind.wrap_i64]; omega
    have htn : ((16 : Int) + (k.size : Int)).toNat = 16 + k.size := by omega
    have hge : (0 : Int) ≤ 16 + (k.size : Int) := by omega
    by_cases hv0 : v.size = 0
    · obtain rfl : v = ByteArray.empty := ByteArray.size_eq_zero_iff.1 hv0
      clear hv0
      go_region_law (refine step_copy_str rfl (.tmp 53) (.tmp 55) rfl _ _ _ ByteArray.empty rfl rfl (w.heap.size + 1 + 1) (16 + k.size) (16 + k.size) (16 + k.size) (w.heap.size + 1 + 1) _ s6.drew.own ?_ ?_ ?_ ?_; (focus (intro h; exact absurd rfl h)); (focus simp); (focus simp); intro w' ho hg)
      all_goals (go_wp2_with fail; go_meet; exact s6.drew.step ho hg)
    · have nk : ¬ 16 + k.size + v.size = 16 + k.size := by omega
      go_region_law (refine step_copy_str rfl (.tmp 53) (.tmp 55) rfl _ _ _ v rfl rfl (w.heap.size + 1 + 1) (16 + k.size) (16 + k.size + v.size) (16 + k.size + v.size) (w.heap.size + 1 + 1) _ s6.drew.own ?_ ?_ ?_ ?_; (focus (intro _; first | rfl | exact if_neg nk)); (focus omega); (focus omega); intro w' ho hg)
      all_goals (go_wp2_with fail; go_meet; exact s6.drew.step ho hg)
  case rest =>
  clear c1 c2 hsz s6
  have s7 := hcut
  clear hcut
  have cs := seal_any (w.heap.size + 1 + 1) (16 + k.size + v.size) (16 + k.size + v.size) (w.heap.size + 1 + 1) _ wc (by omega) (by omega) (by omega) (by omega) s7.own
  go_wp2_with (go_at_call 30; refine cs.mono ?_; rintro e w' ⟨rfl, hw⟩)
  go_ret2
  exact ⟨rfl, s7.step hw.1 hw.2⟩
end Go.Proofs.YtakjpgjcfecfiaaDoor
