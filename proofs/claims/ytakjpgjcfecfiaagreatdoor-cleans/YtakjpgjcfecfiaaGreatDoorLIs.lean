import Derived.Test.YtakjpgjcfecfiaaGreatDoorLFind
/- keydirref.IsName. -/
namespace Go.Proofs.YtakjpgjcfecfiaaGreatDoor
open Go.RowKit Go.Maps Go.Joins

theorem ext_take (name : Name) (k : Nat) : (⟨name.toArray⟩ : ByteArray).extract 0 k = ⟨(name.take k).toArray⟩ := by
  apply ByteArray.ext
  simp
def isDigit (c : UInt8) : Bool := decide (48 ≤ c.toNat ∧ c.toNat ≤ 57)
/-- a name of a kind and six digits -/
def isNameB (kind name : Name) : Bool := decide (name.length = kind.length + 6) && decide (name.take kind.length = kind) && (name.drop kind.length).all isDigit
theorem all_drop {l : Name} {k n : Nat} (hk : k ≤ n) (_hn : n ≤ l.length) (h : ∀ i, k ≤ i → i < n → isDigit (l.getD i 0) = true) (hl : n = l.length) : (l.drop k).all isDigit = true := by
  rw [List.all_eq_true]
  intro x hx
  obtain ⟨i, hi, rfl⟩ := List.getElem_of_mem hx
  have := h (k + i) (by omega) (by simp at hi; omega)
  simpa [List.getD_eq_getElem?_getD, show k + i < l.length by simp at hi; omega] using this
theorem not_all_drop {l : Name} {k i : Nat} (hk : k ≤ i) (hi : i < l.length) (h : isDigit (l.getD i 0) = false) : (l.drop k).all isDigit = false := by
  rw [List.all_eq_false]
  refine ⟨l.getD i 0, ?_, by rw [h]; simp⟩
  rw [List.getD_eq_getElem?_getD]
  simp only [hi, List.getElem?_eq_getElem, Option.getD_some]
  rw [List.mem_iff_getElem]
  exact ⟨i - k, by simp; omega, by simp [show k + (i - k) = i by omega]⟩

set_option maxHeartbeats 400000 in
theorem isName_any (kind name : Name) (w : World) (hk : kind.length ≤ 100) (hn : name.length ≤ maxLen) :
    Calls Tryz.prog 113 #[.string ⟨kind.toArray⟩, .string ⟨name.toArray⟩] w fun e w' => e = .returned (.bool (isNameB kind name)) ∧ w' = w := by
  unfold maxLen at hn
  by_cases h : name.length = kind.length + 6
  · have hle : kind.length ≤ name.length := by omega
    have hle2 : (kind.length : Int) ≤ (name.length : Int) := by omega
    have hb : ((name.length : Int) != (kind.length : Int) + 6) = false := by simp; omega
    have hx := ext_take name kind.length
    have hsz : name.length ≤ 106 := by omega
    by_cases hp : name.take kind.length = kind
    · rw [hp] at hx
      have hres : isNameB kind name = (name.drop kind.length).all isDigit := by simp [isNameB, h, hp]
      have HP : Hid (name.take kind.length = kind) := hp
      have HL : Hid (name.length = kind.length + 6) := h
      clear hp h
      go_enter Tryz.func113, Tryz.ntmps113
      go_wp2
      go_loop [5] (fun i => ∃ k : Nat, kind.length ≤ k ∧ k ≤ name.length ∧ i = .int .i64 k ∧ ∀ i, kind.length ≤ i → i < k → isDigit (name.getD i 0) = true) (fun i => name.length - (intOf i).toNat)
      case atStart => exact ⟨_, Nat.le_refl _, hle, rfl, fun i h1 h2 => by omega⟩
      case round =>
        obtain ⟨k, hk1, hk2, rfl, hd⟩ := hrel
        have HD : Hid (∀ i, kind.length ≤ i → i < k → isDigit (name.getD i 0) = true) := hd
        clear hd
        by_cases hlt : k < name.length
        · obtain ⟨c, hcc⟩ : ∃ c, c = name.getD k 0 := ⟨_, rfl⟩
          have hget : ∀ h, ((⟨name.toArray⟩ : ByteArray)[k]'h) = c := fun h => by
            rw [hcc]
            show name.toArray[k] = _
            simp [List.getD_eq_getElem?_getD, hlt]
          have HC : Hid (c = name.getD k 0) := hcc
          clear hcc
          go_wp2
          · have h2 : ((c.toNat : Nat) : Int) < 48 ∨ 57 < ((c.toNat : Nat) : Int) := by assumption
            have hf : isDigit (name.getD k 0) = false := by rw [← HC.out]; simp only [isDigit, decide_eq_false_iff_not]; omega
            go_ret
            exact ⟨by rw [not_all_drop hk1 hlt hf]; rfl, rfl⟩
          · have h2 : 48 ≤ ((c.toNat : Nat) : Int) ∧ ((c.toNat : Nat) : Int) ≤ 57 := by assumption
            have hf : isDigit (name.getD k 0) = true := by rw [← HC.out]; simp only [isDigit, decide_eq_true_eq]; omega
            go_round
            case rel =>
              refine ⟨k + 1, by omega, by omega, by go_num, fun i hi1 hi2 => ?_⟩
              by_cases e : i = k
              · subst e; exact hf
              · exact HD.out i hi1 (by omega)
            case measure => simp [intOf]; omega
          · have h2 : ((c.toNat : Nat) : Int) < 48 := by assumption
            have hf : isDigit (name.getD k 0) = false := by rw [← HC.out]; simp only [isDigit, decide_eq_false_iff_not]; omega
            go_ret
            exact ⟨by rw [not_all_drop hk1 hlt hf]; rfl, rfl⟩
        · have ha := all_drop hk1 hk2 HD.out (by omega)
          rw [ha] at hres
          go_wp2
          go_ret
          exact ⟨by first | rfl | (rw [hres]; rfl), rfl⟩
    · have hres : isNameB kind name = false := by simp [isNameB, hp]
      have hpb : (name.take kind.length == kind) = false := by simpa using hp
      generalize name.take kind.length = pr at hx hpb
      clear hp
      go_enter Tryz.func113, Tryz.ntmps113
      go_wp2
      go_ret
      exact ⟨by first | rfl | (rw [hres]; rfl), rfl⟩
  · have hb : ((name.length : Int) != (kind.length : Int) + 6) = true := by simp; omega
    have hres : isNameB kind name = false := by simp [isNameB, h]
    go_enter Tryz.func113, Tryz.ntmps113
    go_wp2
    go_ret
    exact ⟨by first | rfl | (rw [hres]; rfl), rfl⟩
end Go.Proofs.YtakjpgjcfecfiaaGreatDoor
