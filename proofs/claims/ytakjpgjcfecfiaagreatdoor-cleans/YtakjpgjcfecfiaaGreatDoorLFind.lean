import Derived.Test.YtakjpgjcfecfiaaGreatDoorLName
/- keydirref.Find. -/
namespace Go.Proofs.YtakjpgjcfecfiaaGreatDoor
open Go.RowKit Go.Maps Go.Joins

abbrev FL := List (Name × List UInt8)
abbrev fget (l : FL) (i : Nat) : Name × List UInt8 := l.getD i ([], [])
/-- a slice of bytes, whoever owns it -/
structure SlB (w : World) (a : Option Addr) (n cap : Nat) (b : List UInt8) : Prop where
  len : b.length = n
  bs : Bs w a b
  nil : a = none → n = 0 ∧ cap = 0
  le : n ≤ cap
  cap : cap ≤ maxLen
  small : n ≤ 1000000
theorem SlB.stay {w w' : World} {a : Option Addr} {n cap : Nat} {b : List UInt8} (h : SlB w a n cap b) (hb : Below w.heap.size w w') : SlB w' a n cap b := ⟨h.len, h.bs.stay hb, h.nil, h.le, h.cap, h.small⟩
theorem Own.slb {w : World} {base n cap : Nat} {a : Option Addr} {b : List UInt8} (h : Own w base (.slice a n cap) n b) (hs : n ≤ 1000000) : SlB w a n cap b := by
  have h' := h
  obtain ⟨hl, hx, ⟨e, h0⟩ | ⟨g, cp, cur, e, hbase, hg, h3, h4, h5⟩⟩ := h'
  · cases e
    obtain rfl : b = [] := List.eq_nil_of_length_eq_zero hl
    exact ⟨hl, fun i hi => by simp at hi, fun _ => ⟨rfl, rfl⟩, Nat.le_refl _, by simp, hs⟩
  · cases e
    refine ⟨hl, ?_, fun e => (by cases e), h3, h4, hs⟩
    have := h.bs 0 n (by omega)
    rwa [List.drop_zero, List.take_of_length_le (by omega)] at this
/-- files in memory, one by one -/
def FAt (w : World) (a : Option Addr) (l : FL) : Prop :=
  ∀ i, i < l.length → ∃ g ab cb, a = some ⟨g, 0, none⟩ ∧ w.cell? ⟨g, i * 2, none⟩ = some (encStr (fget l i).1) ∧ w.cell? ⟨g, i * 2 + 1, none⟩ = some (.slice ab (fget l i).2.length cb) ∧ SlB w ab (fget l i).2.length cb (fget l i).2

theorem zflat_get : ∀ (l : FL) (vs : List Value) (k : Nat), vs.length = l.length → k < l.length →
    ((l.zip vs).flatMap fun p => [encStr p.1.1, p.2])[k * 2]? = some (encStr (fget l k).1) ∧ ((l.zip vs).flatMap fun p => [encStr p.1.1, p.2])[k * 2 + 1]? = some (vs.getD k undef)
  | [], _, k, _, h => by simp at h
  | p :: l, [], k, h, _ => by simp at h
  | p :: l, v :: vs, 0, _, _ => by simp
  | p :: l, v :: vs, k + 1, h1, h => by
    have := zflat_get l vs k (by simpa using h1) (by simp at h; omega)
    simp only [List.zip_cons_cons, List.flatMap_cons]
    rw [show (k + 1) * 2 = k * 2 + 2 by omega, show k * 2 + 2 + 1 = (k * 2 + 1) + 2 by omega]
    simpa using this
theorem FRow.at {w : World} {base cap : Nat} {a : Option Addr} {l : FL} (h : FRow w base (.slice a l.length cap) l) : FAt w a l := by
  intro i hi
  obtain ⟨vs, h1, h2, h3⟩ := h
  obtain ⟨a', cap', e, ha⟩ := row_shape h2
  cases e
  obtain ⟨g, rfl⟩ := ha (by omega)
  have hz := zflat_get l vs i h1 hi
  have hc := (World.ownsRow.cellAt h2 (i * 2) (by omega)).trans hz.1
  have hd := (World.ownsRow.cellAt h2 (i * 2 + 1) (by omega)).trans hz.2
  obtain ⟨ho, hs⟩ := h3 i hi
  obtain ⟨ab, cb, e⟩ := ho.sl
  rw [e] at hd ho
  exact ⟨g, ab, cb, rfl, hc, hd, ho.slb hs⟩
theorem FAt.stay {w w' : World} {a : Option Addr} {l : FL} (h : FAt w a l) (hb : Below w.heap.size w w') : FAt w' a l := by
  intro i hi
  obtain ⟨g, ab, cb, e, h1, h2, h3⟩ := h i hi
  exact ⟨g, ab, cb, e, (hb.cell (p := ⟨g, i * 2, none⟩) (World.block_lt_of_cell? _ _ h1)).trans h1, (hb.cell (p := ⟨g, i * 2 + 1, none⟩) (World.block_lt_of_cell? _ _ h2)).trans h2, h3.stay hb⟩

/-- the first file of that name -/
def assoc : FL → Name → Option (List UInt8)
  | [], _ => none
  | p :: l, s => if p.1 = s then some p.2 else assoc l s
theorem assoc_none : ∀ {l : FL} {s : Name}, (∀ i, i < l.length → (fget l i).1 ≠ s) → assoc l s = none
  | [], _, _ => rfl
  | p :: l, s, h => by
    have h0 : p.1 ≠ s := h 0 (by simp)
    rw [assoc, if_neg h0]
    exact assoc_none fun i hi => h (i + 1) (by simpa using hi)
theorem assoc_at : ∀ {l : FL} {s : Name} {k : Nat}, k < l.length → (fget l k).1 = s → (∀ i, i < k → (fget l i).1 ≠ s) → assoc l s = some (fget l k).2
  | [], _, k, h, _, _ => by simp at h
  | p :: l, s, 0, _, h, _ => by
    have : p.1 = s := h
    rw [assoc, if_pos this]; rfl
  | p :: l, s, k + 1, hk, h, hn => by
    have h0 : p.1 ≠ s := hn 0 (by omega)
    rw [assoc, if_neg h0]
    exact assoc_at (by simpa using hk) h fun i hi => hn (i + 1) (by omega)

/-- what Find answers -/
def FoundIs (w : World) (l : FL) (s : Name) (e : Ending) : Prop :=
  (assoc l s = none ∧ e = .returned (.tuple #[.slice none 0 0, .bool false])) ∨ ∃ b ab cb, assoc l s = some b ∧ e = .returned (.tuple #[.slice ab b.length cb, .bool true]) ∧ SlB w ab b.length cb b

set_option maxHeartbeats 400000 in
theorem find_any (a : Option Addr) (n cap : Nat) (l : FL) (s : Name) (w : World) (hn : l.length = n) (hm : n ≤ 1000000) (h : FAt w a l) :
    Calls Tryz.prog 39 #[.slice a n cap, .string ⟨s.toArray⟩] w fun e w' => w' = w ∧ FoundIs w l s e := by
  go_enter Tryz.func39, Tryz.ntmps39
  go_wp2
  go_loop [6] (fun i => ∃ k : Nat, k ≤ n ∧ i = .int .i64 k ∧ ∀ i, i < k → (fget l i).1 ≠ s) (fun i => n - (intOf i).toNat)
  case atStart => exact ⟨0, Nat.zero_le _, rfl, fun i hi => by omega⟩
  case round =>
    obtain ⟨k, hk, rfl, hno⟩ := hrel
    have HN : Hid (∀ i, i < k → (fget l i).1 ≠ s) := hno
    clear hno
    by_cases hlt : k < n
    · obtain ⟨g, ab, cb, rfl, c0, c1, hsl⟩ := h k (by omega)
      by_cases he : (fget l k).1 = s
      · have HA : Hid (assoc l s = some (fget l k).2) := assoc_at (by omega) he HN.out
        rw [he] at c0
        generalize (fget l k).2 = b at c1 hsl HA
        clear he
        go_wp2
        go_ret2
        exact ⟨rfl, .inr ⟨b, ab, cb, HA.out, rfl, hsl⟩⟩
      · have HE : Hid (∀ i, i < k + 1 → (fget l i).1 ≠ s) := (fun i hi => by
          by_cases e : i = k
          · subst e; exact he
          · exact HN.out i (by omega) : ∀ i, i < k + 1 → (fget l i).1 ≠ s)
        have hb : ((fget l k).1 == s) = false := by simpa using he
        generalize (fget l k).1 = x at c0 he hb
        clear he
        go_wp2
        go_round
        case rel => exact ⟨k + 1, by omega, by go_num, HE.out⟩
        case measure => simp [intOf]; omega
    · obtain rfl : k = n := by omega
      have HA : Hid (assoc l s = none) := assoc_none (fun i hi => HN.out i (by omega))
      go_wp2
      go_ret2
      exact ⟨rfl, .inl ⟨HA.out, rfl⟩⟩
end Go.Proofs.YtakjpgjcfecfiaaGreatDoor
