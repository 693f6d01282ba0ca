import Derived.Test.YtakjpgjcfecfiaaGreatDoorLTidy
import Derived.Test.YtakjpgjcfecfiaaGreatDoorMDec
import Derived.Lib.SmallJoins
import Derived.Lib.AppendIntMem
/- package directory: SegmentName, readManifest. -/
namespace Go.Proofs.YtakjpgjcfecfiaaGreatDoor
open Go.RowKit Go.Maps Go.Joins

theorem digs_snoc : ∀ k n, digs (k + 1) n = digs k (n / 10) ++ [UInt8.ofNat (48 + n % 10)]
  | 0, n => by simp [digs]
  | k + 1, n => by
    rw [digs, digs_snoc k n, digs]
    have : n / 10 ^ (k + 1) = n / 10 / 10 ^ k := by rw [Nat.pow_succ, Nat.mul_comm, Nat.div_div_eq_div_mul]
    rw [this]; rfl
theorem decDigits_digs : ∀ (k q r : Nat), 1 ≤ q → r < 10 ^ k → Lib.decDigits (q * 10 ^ k + r) = Lib.decDigits q ++ digs k r
  | 0, q, r, _, hr => by
    have : r = 0 := by omega
    subst this; simp [digs]
  | k + 1, q, r, hq, hr => by
    have hp : 1 ≤ 10 ^ k := Nat.one_le_pow _ _ (by omega)
    have e0 : q * 10 ^ (k + 1) = q * 10 ^ k * 10 := by rw [Nat.pow_succ, Nat.mul_assoc]
    have h10 : 1 ≤ q * 10 ^ k := Nat.mul_pos hq hp
    rw [e0, Lib.decDigits, dif_neg (by omega), digs_snoc]
    have e1 : (q * 10 ^ k * 10 + r) / 10 = q * 10 ^ k + r / 10 := by omega
    have e2 : (q * 10 ^ k * 10 + r) % 10 = r % 10 := by omega
    rw [e1, e2, decDigits_digs k q (r / 10) hq (by rw [Nat.pow_succ] at hr; omega), List.append_assoc]
theorem itoa_seg (n : Nat) (h : n ≤ 999999) : Lib.itoa (1000000 + (n : Int)) = 49 :: digs 6 n := by
  rw [show (1000000 + (n : Int)) = ((1 * 10 ^ 6 + n : Nat) : Int) by omega, Lib.itoa_nonneg, decDigits_digs 6 1 n (by omega) (by omega), Lib.decDigits_one (by omega)]
  rfl

abbrev Tab (w : World) : Prop := Lib.TabIs Tryz.prog w "internal/strconv.uint64pow10" .u64 Lib.pow10Tab
theorem Tryz.gpow : Tryz.prog.globalNamed "internal/strconv.uint64pow10" = some 1 := by kernel_rfl
theorem Tab.of_block {w w' : World} (h : Tab w) (hb : w'.heap[(1 : Nat)]? = w.heap[(1 : Nat)]?) : Tab w' := by
  unfold Tab Lib.TabIs World.var? at *
  rw [Tryz.gpow] at *
  simp only [Option.bind_some] at *
  rw [hb]; exact h
theorem Tab.lt {w : World} (h : Tab w) : 1 < w.heap.size := by
  unfold Tab Lib.TabIs World.var? at h
  rw [Tryz.gpow] at h
  simp only [Option.bind_some] at h
  rcases Nat.lt_or_ge 1 w.heap.size with h' | h'
  · exact h'
  · rw [Array.getElem?_eq_none h'] at h; cases h
theorem Tab.below {w w' : World} (h : Tab w) (hb : Below w.heap.size w w') : Tab w' := h.of_block (hb.block _ h.lt)
theorem Tab.keep {w w' : World} {K : Nat → Prop} (h : Tab w) (hk : Kept K w w') (hK : K 1) : Tab w' := h.of_block (hk.block _ hK h.lt)

set_option maxHeartbeats 400000 in
theorem segmentName_any (n : Nat) (w : World) (ht : Tab w) (h : n ≤ 999999) :
    Calls Tryz.prog 101 #[.int .i64 (n : Int)] w fun e w' => e = .returned (.string ⟨(segName sData n).toArray⟩) ∧ Below w.heap.size w w' := by
  have ci := Tryz.strconv_Itoa (1000000 + (n : Int)) (by omega) (by omega) w ht
  rw [itoa_seg n h] at ci
  have hdl := digs_length 6 n
  go_enter Tryz.func101, Tryz.ntmps101
  go_wp2_with fail
  refine ci.mono ?_
  rintro e w' ⟨rfl, k, os, hw⟩
  have hB : Below w.heap.size w w' := by rw [hw]; exact Lib.below_grow _ w (Nat.le_refl _) k os
  clear hw ci
  go_wp2
  go_ret
  refine ⟨congrArg (fun b => Ending.returned (Value.string b)) (ByteArray.ext ?_), hB⟩
  rw [ByteArray.data_append, ByteArray.data_extract]
  apply Array.toList_inj.1
  simp [segName, sData, hdl, List.take_of_length_le]

theorem contains_str {w : World} {B : Nat} {v : Value} {l : List Name} (h : StrRow w B v l) (hl : l.length ≤ 1000000) (x : Name) :
    Calls Tryz.prog 119 #[v, .string ⟨x.toArray⟩] w fun e w' => e = .returned (.bool (decide (x ∈ l))) ∧ w' = w := by
  obtain ⟨a, cap, rfl, ha⟩ := row_shape h
  by_cases h0 : l.length = 0
  · obtain rfl : l = [] := List.eq_nil_of_length_eq_zero h0
    simpa using Tryz.slices_Contains_string_empty a cap ⟨x.toArray⟩ w
  · obtain ⟨g, rfl⟩ := ha (by omega)
    have hc := Tryz.slices_Contains_string g 0 l.length cap (l.map fun s => ⟨s.toArray⟩) ⟨x.toArray⟩ w (by simp) (by omega) (fun j hj => by
      have hj' : j < l.length := by simpa using hj
      have := World.ownsRow.cellAt h j (by omega)
      rw [Nat.zero_add, this]
      simp [hj', encStr])
    refine hc.mono ?_
    rintro e w' ⟨rfl, hw⟩
    refine ⟨?_, hw⟩
    congr 2
    rw [Bool.eq_iff_iff, Lib.containsS_iff, List.take_of_length_le (by simp), decide_eq_true_iff, List.mem_map]
    constructor
    · rintro ⟨s, hs, e⟩
      have : s = x := by simpa using congrArg (fun b : ByteArray => b.data.toList) e
      exact this ▸ hs
    · intro hx
      exact ⟨x, hx, rfl⟩

theorem IsNames.dec {now : Names} {l : List Name} (h : IsNames now l) (s : Name) : decide (s ∈ l) = (now s).isSome := by
  rw [Bool.eq_iff_iff, decide_eq_true_iff]; exact h.mem s
theorem DiskAt.some_of {w : World} {d c mn ms : Nat} {K : Nat → Prop} {now safe : Names} {mv : Value} {L : List Steps} {room : Int} {F : Files} (h : DiskAt w d K c mn ms now safe mv L room F) {s : Name} {l : List UInt8} (hF : F s = some l) : ∃ b, now s = some b ∧ NodeAt w b l := by
  cases hs : now s with
  | none => rw [h.no s hs] at hF; cases hF
  | some b =>
    obtain ⟨l', h1, h2⟩ := h.node s b hs
    rw [hF] at h1; cases h1
    exact ⟨b, rfl, h2⟩
theorem DiskAt.none_of {w : World} {d c mn ms : Nat} {K : Nat → Prop} {now safe : Names} {mv : Value} {L : List Steps} {room : Int} {F : Files} (h : DiskAt w d K c mn ms now safe mv L room F) {s : Name} (hF : F s = none) : now s = none := by
  cases hs : now s with
  | none => rfl
  | some b =>
    obtain ⟨l', h1, h2⟩ := h.node s b hs
    rw [hF] at h1; cases h1

set_option maxHeartbeats 400000 in
theorem readManifest_none {w : World} {d c mn ms : Nat} {K : Nat → Prop} {now safe : Names} {mv : Value} {L : List Steps} {room : Int} {F : Files} (h : DiskAt w d K c mn ms now safe mv L room F) (hc : c ≤ 1000000) (hF : F sManifest = none) :
    Calls Tryz.prog 91 #[.pointer (some ⟨d, 0, none⟩)] w fun e w' => e = .returned (.tuple #[zman, .iface 51 (.int .i64 5)]) ∧ Below w.heap.size w w' := by
  have hn := h.none_of hF
  have hB : Below w.heap.size w (w.alloc Z45) := (Below.refl _ w).alloc (Nat.le_refl _) _
  have z0 := ZM.start w
  have h0 := h.below' hB
  have cl := list_any h0.top h0.mnow hc
  go_enter Tryz.func91, Tryz.ntmps91
  go_wp2_with fail
  refine cl.mono ?_
  rintro e w1 ⟨v1, ns, rfl, hrow, hN, hnc, hnl, hB1⟩
  have cc := contains_str hrow (by omega) sManifest
  rw [hN.dec, hn] at cc
  obtain ⟨q0, q1, f0, f1⟩ := z0.step hB1 (by simp)
  have hB2 : Below w.heap.size w w1 := hB.trans (hB1.mono (by simp))
  obtain ⟨a1, cap1, rfl, _⟩ := row_shape hrow
  clear cl hrow hN z0 hB1 h0
  go_wp2_with fail
  refine cc.mono ?_
  rintro e w' ⟨rfl, hw⟩
  rw [hw]
  clear hw cc
  go_wp2
  refine bodyPost_ret (v := .tuple #[zman, .iface 51 (.int .i64 5)]) ?_ rfl ⟨rfl, ?_⟩
  · simp [results, Tryz.results91, go_sem, q0, q1]
  · exact (hB2.setCell (Nat.le_refl _) _).setCell (Nat.le_refl _) _

set_option maxHeartbeats 400000 in
theorem readAll_any (w : World) (d mn ms c b : Nat) (mv : Value) (room : Int) (now : Names) (s : Name) (l : List UInt8) (ht : Top w d mn ms mv room) (hm : NM w mn c now) (hs : s.length ≤ maxLen) (hb : now s = some b) (hn : NodeAt w b l) :
    Calls Tryz.prog 120 #[.pointer (some ⟨d, 0, none⟩), .string ⟨s.toArray⟩] w fun e w' => ∃ v, e = .returned (.tuple #[v, .nilIface]) ∧ Own w' w.heap.size v l.length l ∧ Below w.heap.size w w' := by
  have hll := hn.1
  have cr := readAt_all w d mn ms c b mv room 9223372036854775807 now s l ht hm hs hb hn (by omega)
  go_enter Tryz.func120, Tryz.ntmps120
  go_wp2_with fail
  refine cr.mono ?_
  rintro e w1 ⟨v, rfl, ho, hB⟩
  go_wp2
  go_ret2
  exact ⟨_, rfl, ho, hB⟩
end Go.Proofs.YtakjpgjcfecfiaaGreatDoor
