import Derived.Test.YtakjpgjcfecfiaaGreatDoorFixed
import Derived.Deep.RegionHeld
/- Plain facts that both sides' walks lean on: the bytes of a record; slices that hold bytes. -/
namespace Go.Proofs.YtakjpgjcfecfiaaGreatDoor
open Go.RowKit

theorem Own.mono {w : World} {base base' n : Nat} {v : Value} {l : List UInt8} (h : Own w base v n l) (hb : base' ≤ base) : Own w base' v n l := by
  obtain ⟨h1, h2, h3⟩ := h
  refine ⟨h1, h2, ?_⟩
  rcases h3 with h | ⟨g, cap, cur, a, b, c⟩
  · exact .inl h
  · exact .inr ⟨g, cap, cur, a, Nat.le_trans hb b, c⟩
/-- is the key one? the value? -/
def keyOk (k : ByteArray) : Bool := decide (1 ≤ k.size ∧ k.size ≤ 16)
def valOk (v : ByteArray) (d : Bool) : Bool := decide (v.size ≤ 64 ∧ (d = true → v.size = 0))

theorem str_ne_empty {v : ByteArray} (h : ¬ v.size = 0) : v.toList.isEmpty = false := by
  rw [ByteArray.toList_eq]
  cases e : v.data.toList with
  | nil => exact absurd (by rw [← ByteArray.size_data, ← Array.length_toList, e]; rfl) h
  | cons _ _ => rfl
theorem str_empty {v : ByteArray} (h : v.size = 0) : v.toList.isEmpty = true := by
  rw [ByteArray.toList_eq]
  cases e : v.data.toList with
  | nil => rfl
  | cons _ _ => rw [← ByteArray.size_data, ← Array.length_toList, e] at h; simp at h

def recBody (seq : Nat) (k v : ByteArray) (d : Bool) : List UInt8 :=
  be 8 seq ++ ([if d = true then 1 else 0] ++ (be 1 k.size ++ (be 2 v.size ++ (k.data.toList ++ v.data.toList))))
def recBytes (seq : Nat) (k v : ByteArray) (d : Bool) : List UInt8 := be 4 (crc (recBody seq k v d)) ++ recBody seq k v d
theorem ba_length (k : ByteArray) : k.data.toList.length = k.size := by simp
theorem recBody_length (seq : Nat) (k v : ByteArray) (d : Bool) : (recBody seq k v d).length = 12 + k.size + v.size := by
  simp [recBody, be_length]; omega
theorem recBytes_length (seq : Nat) (k v : ByteArray) (d : Bool) : (recBytes seq k v d).length = 16 + k.size + v.size := by
  rw [recBytes, List.length_append, be_length, recBody_length]; omega

theorem splice_mid {α : Type} (A B C ys : List α) (o : Nat) (ho : A.length = o) (hB : B.length = ys.length) : splice (A ++ (B ++ C)) o ys = A ++ (ys ++ C) := by
  unfold splice
  subst ho
  rw [List.take_left', List.append_assoc]
  · congr 2
    rw [← hB, ← List.drop_drop, List.drop_left', List.drop_left']
    · rfl
    · rfl
  · rfl
theorem set_mid {α : Type} (A C : List α) (b u : α) (o : Nat) (ho : A.length = o) : (A ++ (b :: C)).set o u = A ++ (u :: C) := by
  subst ho
  rw [List.set_append_right _ _ (Nat.le_refl _)]; simp
theorem Bs.lt {w : World} {a : Option Addr} {l : List UInt8} (h : Bs w a l) {b o : Nat} (ha : a = some ⟨b, o, none⟩) (hl : 0 < l.length) : b < w.heap.size := by
  obtain ⟨b', o', e, hc⟩ := h 0 hl
  rw [ha] at e
  cases e
  exact World.block_lt_of_cell? _ _ hc
theorem Bs.kept {w w' : World} {a : Option Addr} {l : List UInt8} {B : Nat} (h : Bs w a l) (hb : Below B w w') (hB : w.heap.size ≤ B) : Bs w' a l := by
  intro i hi
  obtain ⟨b, o, e, hc⟩ := h i hi
  exact ⟨b, o, e, (hb.cell (p := ⟨b, o + i, none⟩) (Nat.lt_of_lt_of_le (World.block_lt_of_cell? _ _ hc) hB)).trans hc⟩
theorem Bs.part {w : World} {b o : Nat} {l : List UInt8} (h : Bs w (some ⟨b, o, none⟩) l) (p n : Nat) (hn : p + n ≤ l.length) : Bs w (some ⟨b, o + p, none⟩) ((l.drop p).take n) := by
  intro i hi
  have hi2 : i < n := by simp at hi; omega
  obtain ⟨b', o', e, hc⟩ := h (p + i) (by omega)
  cases e
  refine ⟨b, o + p, rfl, ?_⟩
  rw [Nat.add_assoc, hc]
  congr 2
  simp [at8, hi2]
/-- string(b[..]) -/
theorem Bs.conv {w : World} {b o n : Nat} {l : List UInt8} (h : Bs w (some ⟨b, o, none⟩) l) (hn : l.length = n) (cap : Nat) :
    (Go.convert 25 9 (.slice (some ⟨b, o, none⟩) n cap)).run Tryz.prog w = .ok (.string ⟨l.toArray⟩) w := by
  have := run_convert_bytes_arg (P := Tryz.prog) w 25 5 Tryz.underlying25 Tryz.underlying5 b o n cap (l.map fun x => (x.toNat : Int)) (by simpa using hn) (by
    intro i hi
    obtain ⟨b', o', e, hc⟩ := h i (by omega)
    cases e
    rw [hc]
    simp [at8, show i < l.length by omega]) 9 Tryz.underlying9
  have e : strOfNums (l.map fun x => (x.toNat : Int)) = ⟨l.toArray⟩ := by
    unfold strOfNums
    rw [List.map_map]
    have : ((fun n : Int => UInt8.ofNat n.toNat) ∘ fun x : UInt8 => (x.toNat : Int)) = id := by funext x; simp
    rw [this, List.map_id]
  rw [this, e]

theorem Bs.at {w : World} {b o : Nat} {l : List UInt8} (h : Bs w (some ⟨b, o, none⟩) l) (i : Nat) (hi : i < l.length) : w.cell? ⟨b, o + i, none⟩ = some (.int .u8 (at8 l i)) := by
  obtain ⟨b', o', e, hc⟩ := h i hi
  cases e
  exact hc
theorem Bs.setCell {w : World} {b o : Nat} {l : List UInt8} (h : Bs w (some ⟨b, o, none⟩) l) (p : Addr) (u : Value) (hp : ¬ b = p.block) : Bs (w.setCell p u) (some ⟨b, o, none⟩) l := by
  intro i hi
  refine ⟨b, o, rfl, ?_⟩
  rw [World.cell?_setCell_far _ _ _ _ (fun e => hp e.symm)]
  exact h.at i hi
end Go.Proofs.YtakjpgjcfecfiaaGreatDoor
