import Derived.Test.YtakjpgjcfecfiaaGreatDoorLTop
import Derived.Shelf.Strings.SlTrimAscii
/- rows of names: append; files that go. -/
namespace Go.Proofs.YtakjpgjcfecfiaaGreatDoor
open Go.RowKit Go.Maps Go.Joins

/-- out = append(out, name) -/
theorem app_name (w : World) {ops : Array Oper} {rest : List Oper} {o : Oper} {a : Act} {Q : Exit → Act → World → Prop} (hgd : o.guard = none)
    (so x : Operand) (ho : o.op = Op.call { callee := Callee.builtin Builtin.append, args := #[so, x], argTypes := #[28, 28] })
    (base : Nat) (v : Value) (l : List Name) (hs : a.eval so = v) (hown : StrRow w base v l) (hbase : base ≤ w.heap.size) (s : Name) (hl : l.length ≤ 1000000)
    (hx : a.eval x = .slice (some ⟨w.heap.size, 0, none⟩) 1 1)
    (h : ∀ v' w', StrRow w' base v' (l ++ [s]) → Below base (w.alloc (.cells #[encStr s] 9)) w' → wpList Tryz.prog ops Q rest (a.put o.dst v') w') :
    wpList Tryz.prog ops Q (o :: rest) a (w.alloc (.cells #[encStr s] 9)) := by
  obtain ⟨i0, hi, hz0, hz1, hz2⟩ := info_parts Tryz.infoStr
  refine wpList_append_own_at _ hgd so x 28 ho base 9 i0 (.string ⟨#[]⟩) 1 16 Tryz.underlying28 hi hz0 hz1 hz2 rfl (by decide) v l.length (l.map encStr) hs (hown.alloc _) ⟨w.heap.size, 0, none⟩ 1 1 [encStr s] hx rfl (cell_one_new _ _ _) (by simp [Value.oneCell']) (by unfold maxLen; omega) (by omega) (by simp; omega) ?_
  intro v' w' hr hg _ _
  exact h v' w' (by show w'.ownsRow _ _ 1 _ (l ++ [s]).length ((l ++ [s]).map encStr); simpa using hr) ((Below.refl _ _).grown hg (by simp; omega) (fun k hk => (hown.lt k hk).1))
/-- []string{name} -/
theorem row_one (w : World) (s : Name) : StrRow (w.alloc (.cells #[encStr s] 9)) w.heap.size (.slice (some ⟨w.heap.size, 0, none⟩) 1 1) [s] :=
  ⟨rfl, .inr ⟨w.heap.size, 1, #[encStr s], rfl, Nat.le_refl _, (MapKept.heap_alloc w _).1, Nat.le_refl _, by decide, rfl, rfl⟩⟩

/-- some of the files are gone -/
def Less (F F' : Files) (gone : Name → Bool) : Prop := ∀ s, F' s = if gone s = true then none else F s
theorem Less.start (F : Files) (gone : Name → Bool) (h : ∀ s, gone s = false) : Less F F gone := fun s => by simp [h s]
theorem Kept.less {K K' : Nat → Prop} {w w' : World} (h : Kept K w w') (hk : ∀ k, K' k → K k) : Kept K' w w' := ⟨h.os, h.tape, h.output, h.size, fun k h1 h2 => h.block k (hk k h1) h2⟩
/-- the disk on which files are being removed -/
def Going (wr : World) (d : Nat) (K : Nat → Prop) (c : Nat) (F F' : Files) (gone : Name → Bool) : Prop := Dk wr d K c F' ∧ Less F F' gone

set_option maxHeartbeats 400000 in
theorem remove_going {w : World} {d c : Nat} {K : Nat → Prop} {F F' : Files} {gone : Name → Bool} (h : Going w d K c F F' gone) (s : Name) (hs : s.length ≤ maxLen) (hc : c < 1000000) (hF : (F s).isSome = true) (hg : gone s = false) :
    Calls Tryz.prog 148 #[.pointer (some ⟨d, 0, none⟩), .string ⟨s.toArray⟩] w fun e w' => e = .returned .nilIface ∧
      (∃ F'', Going w' d K (c + 1) F F'' (fun x => gone x || decide (x = s))) ∧ Kept K w w' := by
  obtain ⟨⟨mn, ms, now, safe, mv, L, room, hd⟩, hl⟩ := h
  obtain ⟨l, hFs⟩ := Option.isSome_iff_exists.1 hF
  have hF' : F' s = some l := by rw [hl s, hg]; simpa using hFs
  obtain ⟨b, hb, _⟩ := hd.some_of hF'
  refine (remove_some hd s hs hb hc).mono ?_
  rintro e w' ⟨rfl, ⟨mv', hd'⟩, hk⟩
  refine ⟨rfl, ⟨_, ⟨_, _, _, _, _, _, _, hd'⟩, fun x => ?_⟩, hk⟩
  by_cases hx : x = s
  · subst hx; simp [Files.set]
  · have := hl x
    simp only [Files.set, hx, if_false, decide_false, Bool.or_false]
    exact this
end Go.Proofs.YtakjpgjcfecfiaaGreatDoor

/- directory.IsHint. -/
namespace Go.Proofs.YtakjpgjcfecfiaaGreatDoor
open Go.RowKit Go.Maps Go.Joins

set_option maxHeartbeats 400000 in
theorem hasPrefix_any (s p : Name) (w : World) (_hs : s.length ≤ maxLen) (_hp : p.length ≤ 100) :
    Calls Tryz.prog 247 #[.string ⟨s.toArray⟩, .string ⟨p.toArray⟩] w fun e w' => e = .returned (.bool (decide (s.take p.length = p))) ∧ w' = w := by
  unfold maxLen at _hs
  by_cases hle : p.length ≤ s.length
  · have hx := ext_take s p.length
    have hle2 : (p.length : Int) ≤ (s.length : Int) := by omega
    cases hd : decide (s.take p.length = p) with
    | true =>
      have hp := of_decide_eq_true hd
      rw [hp] at hx
      clear hp hd
      go_enter Tryz.func247, Tryz.ntmps247
      go_wp2
      go_ret
      exact ⟨by simp, rfl⟩
    | false =>
      have hpb : (s.take p.length == p) = false := by simpa using of_decide_eq_false hd
      clear hd
      generalize s.take p.length = pr at hx hpb
      go_enter Tryz.func247, Tryz.ntmps247
      go_wp2
      go_ret
      exact ⟨by first | rfl | simp, rfl⟩
  · have hd : decide (s.take p.length = p) = false := by
      rw [decide_eq_false_iff_not]
      intro e
      have := congrArg List.length e
      simp at this
      omega
    rw [hd]
    go_enter Tryz.func247, Tryz.ntmps247
    go_wp2
    go_ret
    exact ⟨by first | rfl | simp, rfl⟩

theorem ext_drop (s : Name) (k n : Nat) (h : n = s.length) : (⟨s.toArray⟩ : ByteArray).extract k n = ⟨(s.drop k).toArray⟩ := by
  apply ByteArray.ext
  subst h
  apply Array.toList_inj.1
  simp [List.take_of_length_le]

set_option maxHeartbeats 400000 in
theorem cutPrefix_any (s p : Name) (w : World) (hs : s.length ≤ maxLen) (hp : p.length ≤ 100) :
    Calls Tryz.prog 230 #[.string ⟨s.toArray⟩, .string ⟨p.toArray⟩] w fun e w' => e = .returned (if s.take p.length = p then .tuple #[.string ⟨(s.drop p.length).toArray⟩, .bool true] else .tuple #[.string ⟨s.toArray⟩, .bool false]) ∧ w' = w := by
  have key : Calls Tryz.prog 237 #[.string ⟨s.toArray⟩, .string ⟨p.toArray⟩] w fun e w' => e = .returned (if s.take p.length = p then .tuple #[.string ⟨(s.drop p.length).toArray⟩, .bool true] else .tuple #[.string ⟨s.toArray⟩, .bool false]) ∧ w' = w := by
    have ch := hasPrefix_any s p w hs hp
    by_cases h : s.take p.length = p
    · have hle : p.length ≤ s.length := by
        have := congrArg List.length h
        simp at this; omega
      simp only [h, decide_true, if_true] at ch ⊢
      have hx := ext_drop s p.length s.length rfl
      unfold maxLen at hs
      clear h
      go_enter Tryz.func237, Tryz.ntmps237
      go_wp2_with fail
      refine ch.mono ?_
      rintro e w' ⟨rfl, hw⟩
      rw [hw]
      clear hw ch
      go_wp2
      go_ret2
      exact ⟨by first | rfl | simp [hx], rfl⟩
    · simp only [h, decide_false, if_false] at ch ⊢
      clear h
      go_enter Tryz.func237, Tryz.ntmps237
      go_wp2_with fail
      refine ch.mono ?_
      rintro e w' ⟨rfl, hw⟩
      rw [hw]
      clear hw ch
      go_wp2
      go_ret2
      exact ⟨by first | rfl | simp, rfl⟩
  by_cases h : s.take p.length = p
  all_goals
    simp only [h, if_true, if_false] at key ⊢
    clear h
    go_enter Tryz.func230, Tryz.ntmps230
    go_wp2_with fail
    refine key.mono ?_
    rintro e w' ⟨rfl, hw⟩
    rw [hw]
    clear hw key
    go_wp2
    go_ret2
    exact ⟨rfl, rfl⟩


def sDigits : Name := [48, 49, 50, 51, 52, 53, 54, 55, 56, 57]
theorem digit_in (c : UInt8) : sDigits.contains c = isDigit c := by
  rw [Bool.eq_iff_iff, List.contains_iff_mem]
  simp only [isDigit, decide_eq_true_eq, sDigits]
  constructor
  · intro h
    simp only [List.mem_cons, List.not_mem_nil, or_false] at h
    rcases h with h | h | h | h | h | h | h | h | h | h <;> subst h <;> decide
  · rintro ⟨h1, h2⟩
    have : ∀ n : Fin 10, UInt8.ofNat (48 + n.val) ∈ [48, 49, 50, 51, 52, 53, 54, 55, 56, (57 : UInt8)] := by decide
    have h3 := this ⟨c.toNat - 48, by omega⟩
    rw [show 48 + (c.toNat - 48) = c.toNat by omega, UInt8.ofNat_toNat] at h3
    exact h3
theorem dropWhile_nil {α : Type} (p : α → Bool) : ∀ (l : List α), l.dropWhile p = [] ↔ l.all p = true
  | [] => by simp
  | x :: l => by
    rw [List.dropWhile_cons, List.all_cons]
    cases h : p x with
    | true => simpa using dropWhile_nil p l
    | false => simp
theorem dropWhile_all {α : Type} (p : α → Bool) : ∀ (l : List α), (l.dropWhile p).all p = true → l.dropWhile p = []
  | [], _ => rfl
  | x :: l, h => by
    rw [List.dropWhile_cons] at h ⊢
    cases hx : p x with
    | true => rw [hx] at h; simpa using dropWhile_all p l (by simpa using h)
    | false => rw [hx] at h; simp [hx] at h
theorem trim_nil (t : Name) : Lib.trimS t sDigits = [] ↔ t.all isDigit = true := by
  unfold Lib.trimS Lib.trimLeftS Lib.trimRightS
  have e : (fun x => sDigits.contains x) = isDigit := funext digit_in
  rw [e, dropWhile_nil, List.all_reverse]
  constructor
  · intro h
    have := dropWhile_all _ _ h
    rw [dropWhile_nil, List.all_reverse] at this; exact this
  · intro h
    rw [(dropWhile_nil isDigit t.reverse).2 (by rw [List.all_reverse]; exact h)]; rfl

def HintSpec : Prop := ∀ (s : Name) (w : World), s.length ≤ maxLen → Calls Tryz.prog 222 #[.string ⟨s.toArray⟩] w fun e w' => e = .returned (.bool (isNameB sHint s)) ∧ Below w.heap.size w w'

theorem trim_any (t : Name) (w : World) (ht : t.length ≤ maxLen) :
    Calls Tryz.prog 231 #[.string ⟨t.toArray⟩, .string ⟨#[48, 49, 50, 51, 52, 53, 54, 55, 56, 57]⟩] w fun e w' => e = .returned (.string ⟨(Lib.trimS t sDigits).toArray⟩) ∧ Below w.heap.size w w' :=
  Any.strings_Trim_laid Tryz.lays160 (by kernel_rfl) ⟨t.toArray⟩ ⟨#[48, 49, 50, 51, 52, 53, 54, 55, 56, 57]⟩ w (by show t.toArray.size ≤ _; unfold maxLen at ht; simp; omega) (by decide) (ascii_of_all (by decide))

set_option maxHeartbeats 1000000 in
theorem hint_any : HintSpec := by
  intro s w hs
  have cc := cutPrefix_any s sHint w hs (by decide)
  have hsl : sHint.length = 5 := rfl
  rw [hsl] at cc
  by_cases hp : s.take 5 = sHint
  · have hres : isNameB sHint s = (decide ((s.drop 5).length = 6) && (s.drop 5).all isDigit) := by
      have hle : 5 ≤ s.length := by
        have := congrArg List.length hp
        simp [sHint] at this; omega
      unfold isNameB
      rw [hsl, hp, List.length_drop]
      simp only [decide_true, Bool.and_true]
      congr 1
      rw [Bool.eq_iff_iff]; simp; omega
    simp only [hp, if_true] at cc
    have hdl : (s.drop 5).length ≤ maxLen := by simp; omega
    rw [hres]
    clear hres hp hsl
    generalize s.drop 5 = t at *
    have ct := trim_any t w hdl
    unfold maxLen at hdl
    clear hs
    by_cases h6 : t.length = 6
    · rw [show decide (t.length = 6) = true by simp [h6], Bool.true_and]
      have H6 : Hid (t.length = 6) := h6
      have hb : ((t.length : Int) == 6) = true := by simp; omega
      have hiff := trim_nil t
      generalize Lib.trimS t sDigits = r at ct hiff
      have hall : t.all isDigit = decide (r = []) := by rw [Bool.eq_iff_iff, decide_eq_true_iff]; exact hiff.symm
      rw [hall]
      clear h6 hiff hall
      cases r with
      | nil =>
        go_enter Tryz.func222, Tryz.ntmps222
        go_wp2_with fail
        refine cc.mono ?_
        rintro e w' ⟨rfl, hw⟩
        rw [hw]
        clear hw cc
        go_wp2_with fail
        refine ct.mono ?_
        rintro e w' ⟨rfl, hB⟩
        clear ct
        go_wp2
        go_ret
        exact ⟨rfl, hB⟩
      | cons x r =>
        go_enter Tryz.func222, Tryz.ntmps222
        go_wp2_with fail
        refine cc.mono ?_
        rintro e w' ⟨rfl, hw⟩
        rw [hw]
        clear hw cc
        go_wp2_with fail
        refine ct.mono ?_
        rintro e w' ⟨rfl, hB⟩
        clear ct
        go_wp2
        go_ret
        exact ⟨rfl, hB⟩
    · rw [show decide (t.length = 6) = false by simp [h6], Bool.false_and]
      have hb : ((t.length : Int) == 6) = false := by simp; omega
      go_enter Tryz.func222, Tryz.ntmps222
      go_wp2_with fail
      refine cc.mono ?_
      rintro e w' ⟨rfl, hw⟩
      rw [hw]
      clear hw cc h6 ct
      go_wp2
      go_ret
      exact ⟨rfl, Below.refl _ _⟩
  · have hres : isNameB sHint s = false := by unfold isNameB; rw [hsl]; simp [hp]
    simp only [hp, if_false] at cc
    rw [hres]
    clear hres hp
    go_enter Tryz.func222, Tryz.ntmps222
    go_wp2_with fail
    refine cc.mono ?_
    rintro e w' ⟨rfl, hw⟩
    rw [hw]
    clear hw cc
    go_wp2
    go_ret
    exact ⟨rfl, Below.refl _ _⟩
end Go.Proofs.YtakjpgjcfecfiaaGreatDoor
