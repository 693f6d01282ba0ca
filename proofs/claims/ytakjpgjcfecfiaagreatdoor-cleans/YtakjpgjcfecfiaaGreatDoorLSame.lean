import Derived.Test.YtakjpgjcfecfiaaGreatDoorLTidy
import Derived.Deep.QuietTactic
import Derived.BigQuiet
/- keydirlaw.sameFiles. -/
namespace Go.Proofs.YtakjpgjcfecfiaaGreatDoor
open Go.RowKit Go.Maps Go.Joins

theorem Bs.drews {w : World} {a : Option Addr} {l : List UInt8} (h : Bs w a l) (k : Nat) : Bs (w.drewN k) a l := h
theorem SlB.drews {w : World} {a : Option Addr} {n cap : Nat} {b : List UInt8} (h : SlB w a n cap b) (k : Nat) : SlB (w.drewN k) a n cap b := ⟨h.len, h.bs, h.nil, h.le, h.cap, h.small⟩
/-- same of two slices that hold the same -/
theorem same_sl (a c : Option Addr) (n cap n' cap' : Nat) (l m : List UInt8) (w : World) (h : SlB w a n cap l) (h' : SlB w c n' cap' m) :
    Calls Tryz.prog 16 #[.slice a n cap, .slice c n' cap'] w fun e w' => e = .returned (.bool (decide (l = m))) ∧ ∃ n, w' = w.drewN n := by
  have hl := h.len
  have hm := h'.len
  subst hl hm
  exact same_any a c cap cap' l m w (by have := h.small; omega) (by have := h'.small; omega) h.bs h'.bs

set_option maxRecDepth 100000 in
set_option maxHeartbeats 1000000 in
theorem sameFiles_yes (a c : Option Addr) (n cap cap' : Nat) (l : FL) (w : World) (hn : l.length = n) (hn2 : n ≤ 1000000) (h : FAt w a l) (h' : FAt w c l) :
    Calls Tryz.prog 33 #[.slice a n cap, .slice c n cap'] w fun e w' => e = .returned (.bool true) ∧ ∃ k, w' = w.drewN k := by
  go_enter Tryz.func33, Tryz.ntmps33
  go_wp2
  go_loopw [5] (fun i wr => ∃ k q : Nat, k ≤ n ∧ i = .int .i64 k ∧ wr = w.drewN q) (fun i _ => n - (intOf i).toNat)
  case atStart => exact ⟨0, 0, Nat.zero_le _, rfl, rfl⟩
  case round =>
    obtain ⟨k, q, hk, rfl, hW⟩ := hrel
    have h1 : FAt wr a l := by rw [hW]; exact h.stay ⟨rfl, rfl, rfl, Nat.le_refl _, fun _ _ => rfl⟩
    have h1' : FAt wr c l := by rw [hW]; exact h'.stay ⟨rfl, rfl, rfl, Nat.le_refl _, fun _ _ => rfl⟩
    have HW : Hid (wr = w.drewN q) := hW
    clear hW
    by_cases hlt : k < n
    · obtain ⟨g, ab, cb, rfl, c0, c1, hsl⟩ := h1 k (by omega)
      obtain ⟨g', ab', cb', rfl, c0', c1', hsl'⟩ := h1' k (by omega)
      have cs : ∀ W, Bs W ab (fget l k).2 → Bs W ab' (fget l k).2 → Calls Tryz.prog 16 #[.slice ab (fget l k).2.length cb, .slice ab' (fget l k).2.length cb'] W fun e w' => e = .returned (.bool true) ∧ ∃ n, w' = W.drewN n := fun W h1 h2 => by
        have := same_any ab ab' cb cb' _ _ W (by have := hsl.small; omega) (by have := hsl.small; omega) h1 h2
        simpa using this
      have cs2 := fun nn => cs (wr.drewN nn) hsl.bs hsl'.bs
      generalize (fget l k).1 = s at c0 c0'
      generalize (fget l k).2.length = nb at c1 c1' cs2
      have hki : (k : Int) < (n : Int) := by omega
      clear hsl hsl' cs
      go_wp2
      go_quiet (first | (go_at_call 16; refine Calls.quiet_of (cs2 _)))
      go_wp2
      go_quiet (fail)
      go_wp2
      go_roundw
      case rel => exact ⟨k + 1, _, by omega, by go_num, by rw [HW.out, World.drewN_drewN]⟩
      case measure => simp [intOf]; omega
    · go_wp2
      go_ret
      exact ⟨rfl, q, HW.out⟩
end Go.Proofs.YtakjpgjcfecfiaaGreatDoor
