import Derived.Test.YtakjpgjcfecfiaaGreatDoorMEnc
/- The document's own WriteManifest. -/
namespace Go.Proofs.YtakjpgjcfecfiaaGreatDoor
open Go.RowKit

set_option maxHeartbeats 400000 in
theorem refWrite_bad (gen : Nat) (a : Option Addr) (c n : Nat) (z : List Int) (w : World) (hn : z.length = n) (hm : n ≤ 2000000) (h : Is w a z) (hv : validZ z = false) :
    Calls Tryz.prog 52 #[.int .u64 (gen : Int), .slice a n c] w fun e w' =>
      e = .returned (.tuple #[.slice none 0 0, .int .i64 4]) ∧ Below w.heap.size w w' := by
  have cv := checkIDs_any a c n z w hn hm h
  rw [hv] at cv
  clear hv
  go_enter Tryz.func52, Tryz.ntmps52
  go_wp2_with fail
  refine cv.mono ?_
  rintro e w' ⟨rfl, q, rfl⟩
  go_wp2
  go_ret2
  exact ⟨rfl, below_drewN (Below.refl _ w) q⟩

set_option maxRecDepth 100000 in
set_option maxHeartbeats 1000000 in
theorem refWrite_ok (gen : Nat) (a : Option Addr) (c n : Nat) (z : List Int) (w : World) (hgen : gen < 18446744073709551616) (hn : z.length = n) (h : Is w a z) (hv : validZ z = true) :
    Calls Tryz.prog 52 #[.int .u64 (gen : Int), .slice a n c] w fun e w' =>
      ∃ v', e = .returned (.tuple #[v', .int .i64 0]) ∧ Own w' w.heap.size v' (14 + 4 * n) (manBytes gen z) ∧ Below w.heap.size w w' := by
  have hok := (validZ_iff z).1 hv
  have h60 : n ≤ 60 := by have := hok.1; omega
  have hids : ∀ k, k < n → 1 ≤ zat z k ∧ zat z k ≤ 999999 := fun k hk => ⟨(hok.2 k (by omega)).1, (hok.2 k (by omega)).2.1⟩
  have cv := checkIDs_any a c n z w hn (by omega) h
  rw [hv] at cv
  clear hv hok
  go_enter Tryz.func52, Tryz.ntmps52
  go_wp2_with fail
  refine cv.mono ?_
  rintro e w0 ⟨rfl, q, hw0⟩
  have hB0 : Below w.heap.size w w0 := by rw [hw0]; exact below_drewN (Below.refl _ w) q
  clear hw0 cv
  go_wp2_with fail
  refine (fixed_z _ _ w.heap.size 0 8 gen _ [] w0 rfl rfl (by omega) (by omega) hgen hB0.size (Own.nil _ _)).mono ?_
  rintro e w1 ⟨v1, rfl, ho1, hb1⟩
  have hB1 := hB0.trans hb1
  clear hb1
  go_wp2_with fail
  refine (fixed_z _ _ w.heap.size 8 2 n _ _ w1 rfl rfl (by omega) (by omega) (by omega) hB1.size ho1).mono ?_
  rintro e w2 ⟨v2, rfl, ho2, hb2⟩
  have hB2 := hB1.trans hb2
  have ho2' : Own w2 w.heap.size v2 (10 + 4 * 0) (be 8 gen ++ (be 2 n ++ idsTo z 0)) := by simpa [idsTo] using ho2
  clear hb2 ho1 ho2 hB0 hB1
  go_wp2
  go_loopw [7, 8] (fun v i wr => ∃ k : Nat, k ≤ n ∧ i = .int .i64 k ∧ Own wr w.heap.size v (10 + 4 * k) (be 8 gen ++ (be 2 n ++ idsTo z k)) ∧ Below w.heap.size w wr) (fun _ i _ => n - (intOf i).toNat)
  case atStart => exact ⟨0, Nat.zero_le _, rfl, ho2', hB2⟩
  case round =>
    obtain ⟨k, hk, rfl, ho, hB⟩ := hrel
    by_cases hlt : k < n
    · obtain ⟨b, o, rfl, hc⟩ := (h.kept hB (Nat.le_refl _)) k (by omega)
      have hid := hids k hlt
      go_wp2_with fail
      refine (fixed_z _ _ w.heap.size (10 + 4 * k) 4 (zat z k).toNat _ _ wr ?_ rfl (by omega) (by omega) (by omega) hB.size ho).mono ?_
      · omega
      rintro e w3 ⟨v3, rfl, ho3, hb3⟩
      have hB3 := hB.trans hb3
      have ho3' : Own w3 w.heap.size v3 (10 + 4 * (k + 1)) (be 8 gen ++ (be 2 n ++ idsTo z (k + 1))) := by
        rw [idsTo]; simpa [Nat.mul_add, Nat.add_assoc] using ho3
      clear hb3 ho3 ho
      go_wp2
      go_roundw
      case rel => exact ⟨k + 1, by omega, by go_num, ho3', hB3⟩
      case measure => simp [intOf]; omega
    · obtain rfl : k = n := by omega
      have hin : Own wr w.heap.size u7 (10 + 4 * k) (manBody gen z) := by unfold manBody; rw [hn]; exact ho
      clear ho
      obtain ⟨g, cap, hv6, hg1, hg2, hcap⟩ := hin.shape (by omega)
      rw [hv6] at hin ⊢
      clear hv6
      have hlb : (manBody gen z).length = 10 + 4 * k := by rw [manBody_length, hn]
      have hbs : Bs wr (some ⟨g, 0, none⟩) (manBody gen z) := by
        have := hin.bs 0 (10 + 4 * k) (by omega)
        rwa [List.drop_zero, List.take_of_length_le (by omega)] at this
      have hcr := crc_lt (manBody gen z)
      generalize hL : manBody gen z = L at *
      have HLh : Hid (manBody gen z = L) := hL
      clear hL
      have cs := refSum_at g cap (10 + 4 * k) L wr (by omega) hlb hbs
      go_wp2_with fail
      refine cs.mono ?_
      rintro e w7 ⟨rfl, hw7⟩
      rw [hw7]
      clear hw7 w7 cs
      go_wp2_with fail
      refine (fixed_z _ _ wr.heap.size 0 4 (crc L) _ [] wr rfl rfl (by omega) (by omega) (by omega) (Nat.le_refl _) (Own.nil _ _)).mono ?_
      rintro e w8 ⟨v8, rfl, ho8, hbl8⟩
      have hB8 : Below w.heap.size w w8 := hB.trans (hbl8.mono hB.size)
      have hcl : ∀ j, j < 10 + 4 * k → w8.cell? ((⟨g, 0, none⟩ : Addr).add j) = some (.int .u8 (at8 L j)) := by
        intro j hj
        have h1 := hin.cell j hj
        have h2 : w8.cell? ⟨g, j, none⟩ = wr.cell? ⟨g, j, none⟩ := hbl8.cell (by show g < _; omega)
        rw [Addr.add_lit, Nat.zero_add]
        exact h2.trans h1
      have z8 := hbl8.size
      clear hbl8 hin hbs
      go_wp2_with (at_builtin; refine app_own _ rfl _ _ rfl wr.heap.size 4 _ _ rfl ho8 ⟨g, 0, none⟩ (10 + 4 * k) cap L rfl hlb hcl ?e1 z8 ?_)
      case e1 => omega
      intro v9 w9 ho9 _ hbl9
      go_wp2
      go_ret2
      refine ⟨v9, rfl, ?_, hB8.trans (hbl9.mono hB.size)⟩
      have h9 := ho9.mono hB.size
      rw [manBytes, HLh.out]
      rw [show 14 + 4 * k = 4 + (10 + 4 * k) by omega]
      simpa using h9
end Go.Proofs.YtakjpgjcfecfiaaGreatDoor
