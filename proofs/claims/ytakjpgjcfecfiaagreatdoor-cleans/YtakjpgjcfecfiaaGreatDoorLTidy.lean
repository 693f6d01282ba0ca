import Derived.Test.YtakjpgjcfecfiaaGreatDoorLIs
/- keydirlaw.tidy: no files but the manifest, listed segments, hints. -/
namespace Go.Proofs.YtakjpgjcfecfiaaGreatDoor
open Go.RowKit Go.Maps Go.Joins

def sManifest : Name := [109, 97, 110, 105, 102, 101, 115, 116]
def sData : Name := [100, 97, 116, 97, 45]
def sHint : Name := [104, 105, 110, 116, 45]
/-- may a file of that name stay? -/
def listedB (ids : List Nat) (s : Name) : Bool := decide (s ∈ ids.map (segName sData))
theorem listedB_snoc (ids : List Nat) (x : Nat) (s : Name) : listedB (ids ++ [x]) s = (listedB ids s || (segName sData x == s)) := by
  unfold listedB
  rw [Bool.eq_iff_iff]
  simp only [List.map_append, List.map_cons, List.map_nil, List.mem_append, List.mem_singleton, decide_eq_true_eq, Bool.or_eq_true, beq_iff_eq]
  exact ⟨fun h => h.imp id Eq.symm, fun h => h.imp id Eq.symm⟩
def okName (ids : List Nat) (s : Name) : Bool := decide (s = sManifest) || isNameB sHint s || listedB ids s

/-- segments in memory: their numbers -/
def SegAt (w : World) (a : Option Addr) (ids : List Nat) : Prop := ∀ i, i < ids.length → ∃ g, a = some ⟨g, 0, none⟩ ∧ w.cell? ⟨g, i * 3, none⟩ = some (.int .i64 ((ids.getD i 0 : Nat) : Int))
theorem SegAt.stay {w w' : World} {a : Option Addr} {ids : List Nat} (h : SegAt w a ids) (hb : Below w.heap.size w w') : SegAt w' a ids := by
  intro i hi
  obtain ⟨g, e, hc⟩ := h i hi
  exact ⟨g, e, (hb.cell (p := ⟨g, i * 3, none⟩) (World.block_lt_of_cell? _ _ hc)).trans hc⟩

theorem Below.stay2 {a b c : World} (h : Below a.heap.size a b) (k : Below b.heap.size b c) : Below a.heap.size a c := h.trans (k.mono h.size)

set_option maxRecDepth 100000 in
set_option maxHeartbeats 1000000 in
theorem tidy_yes (a sa : Option Addr) (n cap m cm st : Nat) (l : FL) (ids : List Nat) (w : World) (hn : l.length = n) (hn2 : n ≤ 1000000) (h : FAt w a l) (hnl : ∀ p ∈ l, p.1.length ≤ maxLen)
    (hm : ids.length = m) (hm2 : m ≤ 1000) (hid : ∀ x ∈ ids, x ≤ 999999) (hst : w.cell? ⟨st, 1, none⟩ = some (.slice sa m cm)) (hseg : SegAt w sa ids) (hok : ∀ p ∈ l, okName ids p.1 = true) :
    Calls Tryz.prog 74 #[.slice a n cap, .pointer (some ⟨st, 0, none⟩)] w fun e w' => e = .returned (.bool true) ∧ Below w.heap.size w w' := by
  go_enter Tryz.func74, Tryz.ntmps74
  go_wp2
  go_loopw [5] (fun i wr => ∃ k : Nat, k ≤ n ∧ i = .int .i64 k ∧ Below w.heap.size w wr) (fun i _ => n - (intOf i).toNat)
  case atStart => exact ⟨0, Nat.zero_le _, rfl, Below.refl _ _⟩
  case round =>
    obtain ⟨k, hk, rfl, hB⟩ := hrel
    by_cases hlt : k < n
    · obtain ⟨g, ab, cb, rfl, c0, c1, hsl⟩ := (h.stay hB) k (by omega)
      have hmem : fget l k ∈ l := by unfold fget; rw [List.getD_eq_getElem?_getD]; simp [show k < l.length by omega]
      have hln := hnl _ hmem
      have hkk := hok _ hmem
      generalize (fget l k).1 = s at c0 hln hkk
      clear c1 hsl hmem
      have cn := isName_any sHint s wr (by decide) hln
      by_cases hman : s = sManifest
      · have hb1 : (s == [109, 97, 110, 105, 102, 101, 115, 116]) = true := by simpa [sManifest] using hman
        have HM : Hid (s = sManifest) := hman
        clear hman hkk
        go_wp2_with (first | (go_at_call 113; refine cn.mono ?_; rintro e w' ⟨rfl, hw'⟩; rw [hw']; clear hw'))
        go_roundw
        case rel => exact ⟨k + 1, by omega, by go_num, hB⟩
        case measure => simp [intOf]; omega
      · have hb1 : (s == [109, 97, 110, 105, 102, 101, 115, 116]) = false := by simpa [sManifest] using hman
        cases hhint : isNameB sHint s with
        | true =>
          rw [hhint] at cn
          clear hman hkk hhint
          go_wp2_with (first | (go_at_call 113; refine cn.mono ?_; rintro e w' ⟨rfl, hw'⟩; rw [hw']; clear hw'))
          go_roundw
          case rel => exact ⟨k + 1, by omega, by go_num, hB⟩
          case measure => simp [intOf]; omega
        | false =>
          rw [hhint] at cn
          have HL : Hid (s ∈ ids.map (segName sData)) := by
            have : s ∈ ids.map (segName sData) := by simpa [okName, hman, hhint, listedB] using hkk
            exact this
          clear hman hkk hhint
          go_wp2_with (first | (go_at_call 113; refine cn.mono ?_; rintro e w' ⟨rfl, hw'⟩; rw [hw']; clear hw'))
          go_loopw [8, 9] (fun lb i wr2 => ∃ j : Nat, j ≤ m ∧ i = .int .i64 j ∧ lb = .bool (listedB (ids.take j) s) ∧ Below w.heap.size w wr2) (fun _ i _ => m - (intOf i).toNat)
          case atStart => exact ⟨0, Nat.zero_le _, rfl, by simp [listedB], hB⟩
          case round =>
            obtain ⟨j, hj, rfl, rfl, hB2⟩ := hrel
            have hst2 : wr.cell? ⟨st, 1, none⟩ = some (.slice sa m cm) := (hB2.cell (p := ⟨st, 1, none⟩) (World.block_lt_of_cell? _ _ hst)).trans hst
            by_cases hlt2 : j < m
            · obtain ⟨gs, rfl, cs⟩ := (hseg.stay hB2) j (by omega)
              have htk := take_snoc ids j 0 (by omega)
              have hidj : ids.getD j 0 ≤ 999999 := hid _ (by rw [List.getD_eq_getElem?_getD]; simp [show j < ids.length by omega])
              generalize ids.getD j 0 = x at cs htk hidj
              have cnm := name_of sData x wr (by decide) hidj
              have hnext : listedB (ids.take (j + 1)) s = (listedB (ids.take j) s || (segName sData x == s)) := by rw [htk]; exact listedB_snoc _ _ _
              generalize segName sData x = nm at cnm hnext
              generalize listedB (ids.take j) s = b0 at hnext
              clear htk
              go_wp2_with fail
              refine cnm.mono ?_
              rintro e w3 ⟨rfl, hB3⟩
              have hB4 : Below w.heap.size w w3 := Below.stay2 hB2 hB3
              clear cnm hB3
              cases b0 with
              | true =>
                rw [Bool.true_or] at hnext
                go_wp2
                go_roundw
                case rel => exact ⟨j + 1, by omega, by go_num, by rw [hnext], hB4⟩
                case measure => simp [intOf]; omega
              | false =>
                rw [Bool.false_or] at hnext
                go_wp2
                go_roundw
                case rel => exact ⟨j + 1, by omega, by go_num, by rw [hnext], hB4⟩
                case measure => simp [intOf]; omega
            · have hall : listedB (ids.take j) s = true := by
                rw [List.take_of_length_le (by omega)]
                simpa [listedB] using HL.out
              rw [hall]
              go_wp2
              go_roundw
              case rel => exact ⟨k + 1, by omega, by go_num, hB2⟩
              case measure => simp [intOf]; omega
    · go_wp2
      go_ret
      exact ⟨rfl, hB⟩
end Go.Proofs.YtakjpgjcfecfiaaGreatDoor
