import Derived.Test.YtakjpgjcfecfiaaDoorEncA
import Derived.Laws.CopyOwn
import Derived.Lib.AppendStr
import Derived.Deep.RegionLaw
/- copy of a string's, or a slice's, bytes into bytes of the call's own. -/
namespace Go.Proofs.YtakjpgjcfecfiaaDoor
open Go.RowKit

theorem take_over {α : Type} (cur cs : List α) (o n : Nat) (h : o + cs.length ≤ n) (hn : n ≤ cur.length) :
    (cur.take o ++ cs ++ cur.drop (o + cs.length)).take n = splice (cur.take n) o cs := by
  unfold splice
  rw [List.append_assoc, List.append_assoc, List.take_append, List.take_append]
  simp only [List.length_take]
  rw [List.take_take, List.take_take, List.drop_take, show min n o = o by omega, show min o n = o by omega, show min o cur.length = o by omega, List.take_of_length_le (l := cs) (by omega), Nat.sub_sub]

/-- bytes laid over a piece of an owned row -/
theorem Own.row {w : World} {base g n cap o : Nat} {l m : List UInt8} (h : Own w base (.slice (some ⟨g, 0, none⟩) n cap) n l) (hfit : o + m.length ≤ n) :
    ∃ cur, w.heap[g]? = some (.cells cur 5 (0, 0)) ∧ o + m.length ≤ cur.size ∧
      Own (w.setRow g (cur.toList.take o ++ cells m ++ cur.toList.drop (o + m.length)).toArray) base (.slice (some ⟨g, 0, none⟩) n cap) n (splice l o m) ∧
      w.grownBy (w.setRow g (cur.toList.take o ++ cells m ++ cur.toList.drop (o + m.length)).toArray) (some g) := by
  obtain ⟨h1, h2, h3⟩ := h
  rcases h3 with ⟨e, _⟩ | ⟨g', cap', cur, e, hb, hg, hnc, hcm, hsz, ht⟩
  · cases e
  · injection e with e1 e2 e3
    injection e1 with e1
    injection e1 with e1
    subst e1 e3
    refine ⟨cur, hg, by omega, ⟨?_, ?_, .inr ⟨g, cap, _, rfl, hb, setRow_heap w g _ _ _ _ hg, hnc, hcm, ?_, ?_⟩⟩, ?_⟩
    · rw [splice_length _ _ _ (by omega)]; exact h1
    · rw [cells_length, splice_length _ _ _ (by omega)]; omega
    · simp [cells_length]; omega
    · simp only [Nat.mul_one] at ht ⊢
      have := take_over cur.toList (cells m) o n (by rw [cells_length]; omega) (by simp; omega)
      rw [cells_length] at this
      rw [this, ht]
      simp [splice, cells]
    · exact ⟨rfl, rfl, rfl, by simp [World.setRow], fun k _ hr => setRow_other w g k _ (by simpa using hr)⟩

theorem run_copy_str (w : World) (ty : TypeId) (g o dLen dCap : Nat) (cur : Array Value) (s : ByteArray) (hg : w.heap[g]? = some (.cells cur 5 (0, 0))) (hl : s.size ≤ dLen) (hfit : o + s.size ≤ cur.size) :
    (Builtin.copy_ #[25, 9] ty #[.slice (some ⟨g, o, none⟩) dLen dCap, .string s]).run Tryd.prog w =
      .ok (goInt s.size) (w.setRow g (cur.toList.take o ++ cells s.data.toList ++ cur.toList.drop (o + s.data.toList.length)).toArray) := by
  obtain ⟨i0, hi, hz0, hz1, hz2⟩ := info_parts Tryd.info8
  have hf := Lib.run_firstCells_string (P := Tryd.prog) w 1 s
  have hst := run_storeCells_at Tryd.prog g o 5 (Lib.strCells s) 0 cur w hg (by simpa [Lib.strCells_length] using hfit) (Lib.strCells_oneCell s)
  have hlen : s.data.toList.length = s.size := by simp
  simp only [Nat.add_zero, Lib.strCells_length] at hst
  rw [hlen]
  simp [Builtin.copy_, run_underlying Tryd.underlying25, sizeOf, typeInfo, hi, hz1, Builtin.lenOf, Nat.min_eq_left hl, hf, hst]
  rfl
theorem run_copy_str0 (w : World) (ty : TypeId) (dp : Option Addr) (dLen dCap : Nat) (s : ByteArray) (h0 : s.size = 0) :
    (Builtin.copy_ #[25, 9] ty #[.slice dp dLen dCap, .string s]).run Tryd.prog w = .ok (goInt s.size) w := by
  obtain ⟨i0, hi, hz0, hz1, hz2⟩ := info_parts Tryd.info8
  have hf := Lib.run_firstCells_string (P := Tryd.prog) w 1 s
  have hn : Lib.strCells s = [] := List.eq_nil_of_length_eq_zero (by rw [Lib.strCells_length, h0])
  rw [hn, h0] at hf
  cases dp <;> simp [Builtin.copy_, run_underlying Tryd.underlying25, sizeOf, typeInfo, hi, hz1, Builtin.lenOf, hf, h0, storeCells]

/-- copy(b[off:], s), a step of a region -/
theorem step_copy_str {ops : Array Oper} {o : Oper} {a : Act} {w : World} {K : Act → World → Prop} {Q : Exit → Act → World → Prop} {E : Prop} (hgd : o.guard = none) (d s : Operand)
    (ho : o.op = .call { callee := .builtin .copy, args := #[d, s], argTypes := #[25, 9] })
    (dp : Option Addr) (dLen dCap : Nat) (str : ByteArray) (hd : a.eval d = .slice dp dLen dCap) (hs : a.eval s = .string str)
    (g off n cap base : Nat) (l : List UInt8) (hown : Own w base (.slice (some ⟨g, 0, none⟩) n cap) n l)
    (hpos : ¬ str.size = 0 → dp = some ⟨g, off, none⟩) (hl : str.size ≤ dLen) (hfit : off + str.size ≤ n)
    (h : ∀ w', Own w' base (.slice (some ⟨g, 0, none⟩) n cap) n (splice l off str.data.toList) → w.grownBy w' (some g) → K (a.put o.dst (goInt str.size)) w') :
    if Region.wanted o (yielded ops a.tmps) = true then Oper.wp Tryd.prog o a w K Q else E := by
  have hw : Region.wanted o (yielded ops a.tmps) = true := by simp [Region.wanted, hgd]
  have hlen : str.data.toList.length = str.size := by simp
  rw [if_pos hw]
  by_cases h0 : str.size = 0
  · have hrun := run_copy_str0 w o.type dp dLen dCap str h0
    unfold Oper.wp
    simp [execOp, ho, resolve, invoke, builtin, hd, hs, hrun, Result.andThen]
    have he : splice l off str.data.toList = l := by rw [List.eq_nil_of_length_eq_zero (hlen.trans h0)]; exact splice_nil _ _
    exact h w (by rw [he]; exact hown) (grown_refl _ _)
  · obtain rfl := hpos h0
    obtain ⟨cur, hg, hc, ho1, ho2⟩ := hown.row (o := off) (m := str.data.toList) (by omega)
    have hrun := run_copy_str w o.type g off dLen dCap cur str hg hl (by omega)
    unfold Oper.wp
    simp [execOp, ho, resolve, invoke, builtin, hd, hs, hrun, Result.andThen]
    exact h _ (by simpa using ho1) (by simpa using ho2)
end Go.Proofs.YtakjpgjcfecfiaaDoor
