import Derived.Maps.RangeWalk
import Derived.Sort.KeysCollected
import Derived.WalkKit
import Derived.WalkSpells
/- A map from names to files: what it holds as a function. No program's text. -/
namespace Go.Proofs.YtakjpgjcfecfiaaGreatDoor
open Go.RowKit Go.Maps

abbrev Name := List UInt8
abbrev Names := Name → Option Nat

/-- a pointer to a file's block, or nil -/
def ptr : Option Nat → Value
  | none => .pointer none
  | some b => .pointer (some ⟨b, 0, none⟩)
def dat : Option Nat → DataW Unit
  | none => .nil
  | some b => .lit (.int .u64 (b : Int))
theorem dat_inj {a b : Option Nat} (h : dat a = dat b) : a = b := by
  cases a <;> cases b <;> simp [dat] at h ⊢
  omega
theorem ptr_inj {a b : Option Nat} (h : ptr a = ptr b) : a = b := by
  cases a <;> cases b <;> simp [ptr] at h ⊢
  exact h
/-- how an element reads -/
def nodeElem : Value → Option (DataW Unit × List MemPlace)
  | .pointer none => some (.nil, [])
  | .pointer (some ⟨b, 0, none⟩) => some (.lit (.int .u64 (b : Int)), [])
  | _ => none
theorem nodeElem_ptr (o : Option Nat) : nodeElem (ptr o) = some (dat o, []) := by
  cases o <;> simp [ptr, nodeElem, dat]
theorem nodeElem_inv {v : Value} {z : DataW Unit × List MemPlace} (h : nodeElem v = some z) : ∃ o, v = ptr o ∧ z = (dat o, []) := by
  unfold nodeElem at h
  split at h
  · cases h; exact ⟨none, rfl, rfl⟩
  · cases h; exact ⟨some _, rfl, rfl⟩
  · cases h

/-- block mb is a map of at most n names that tells m -/
def NMap (P : Program) (k : TypeId) (w : World) (mb n : Nat) (m : Names) : Prop :=
  ∃ D : DataW Unit, w.ownsMap P k nodeElem mb n D ∧ (∀ s, D.atKey (.string s) .nil = dat (m s)) ∧ ∀ s, Maps.has D (.string s) = (m s).isSome

def Names.set (m : Names) (s : Name) (o : Option Nat) : Names := fun x => if x = s then o else m x

section
variable {P : Program} {k e t : TypeId} {w : World} {mb n : Nat} {m : Names}

theorem NMap.made (w : World) : NMap P k (w.alloc (.map #[] 0)) w.heap.size 0 (fun _ => none) :=
  ⟨.map [], World.ownsMap_made w P k nodeElem, fun _ => rfl, fun _ => rfl⟩
theorem NMap.lt (h : NMap P k w mb n m) : mb < w.heap.size := by
  obtain ⟨D, h, _⟩ := h; exact h.lt
theorem NMap.kept {w' : World} (h : NMap P k w mb n m) (hb : w'.heap[mb]? = w.heap[mb]?) : NMap P k w' mb n m := by
  obtain ⟨D, ⟨es, c, h0, hF, hs, hD⟩, h2⟩ := h
  exact ⟨D, ⟨es, c, hb.trans h0, hF, hs, hD⟩, h2⟩
theorem NMap.mono {n' : Nat} (h : NMap P k w mb n m) (hn : n ≤ n') : NMap P k w mb n' m := by
  obtain ⟨D, h, h2⟩ := h
  exact ⟨D, h.mono hn, h2⟩
theorem NMap.alloc (h : NMap P k w mb n m) (o : Obj) : NMap P k (w.alloc o) mb n m := by
  obtain ⟨D, h, h2⟩ := h
  exact ⟨D, h.alloc o, h2⟩
theorem NMap.setCell (h : NMap P k w mb n m) {a : Addr} (ha : mb ≠ a.block) (u : Value) : NMap P k (w.setCell a u) mb n m := by
  obtain ⟨D, h, h2⟩ := h
  exact ⟨D, h.setCell ha u, h2⟩
theorem NMap.drew (h : NMap P k w mb n m) : NMap P k w.drew mb n m := h
theorem lit_ne {s x : Name} (h : x ≠ s) : (Lit.string x) ≠ .string s := fun e => h (by cases e; rfl)
theorem keyLit (s : Name) : WideAt.IsKeyLit (.string s) := by trivial

theorem keyOf_name (hk : P.underlying k = some .string) {s : Name} (hs : s.length ≤ maxLen) : keyOf P k (.string ⟨s.toArray⟩) = some (.string s) := by
  have := WideMaps.keyOf_string_mk (P := P) hk (s := ⟨s.toArray⟩) (by simpa [ByteArray.size] using hs)
  simpa using this

theorem NMap.look (h : NMap P k w mb n m) (hk : P.underlying k = some .string) (ht : P.underlying t = some (.map k e)) (hz : (zeroValue e).run P w = .ok (.pointer none) w) (s : Name) (hs : s.length ≤ maxLen) :
    (Instr.lookup t (.map (some mb)) (.string ⟨s.toArray⟩) false).run P w = .ok (ptr (m s)) w := by
  obtain ⟨D, h, h1, _⟩ := h
  obtain ⟨v, ps, hrun, hv⟩ := h.lookup (string_keyed hk) ht hz (zd := .nil) (zp := []) rfl (keyOf_name hk hs)
  obtain ⟨o, rfl, hz2⟩ := nodeElem_inv hv
  rw [h1 s] at hz2
  simp only [Prod.mk.injEq] at hz2
  rw [dat_inj hz2.1]; exact hrun

theorem NMap.store (h : NMap P k w mb n m) (hk : P.underlying k = some .string) (ht : P.underlying t = some (.map k e)) (s : Name) (hs : s.length ≤ maxLen) (b : Nat) (hn : n < maxLen) :
    ∃ w', (Instr.mapUpdate t (.map (some mb)) (.string ⟨s.toArray⟩) (ptr (some b))).run P w = .ok () w' ∧ NMap P k w' mb (n + 1) (m.set s (some b)) ∧ w.grownBy w' (some mb) := by
  obtain ⟨D, h, h1, h2⟩ := h
  obtain ⟨w', hrun, ho, hg⟩ := h.update (string_keyed hk) ht hn (keyOf_name hk hs) (nodeElem_ptr (some b))
  refine ⟨w', hrun, ⟨_, ho, fun x => ?_, fun x => ?_⟩, hg⟩
  · by_cases hx : x = s
    · subst hx; rw [atKey_put_same h.isMap (keyLit x)]; simp [Names.set]
    · rw [atKey_put_other (lit_ne hx), h1]; simp [Names.set, hx]
  · by_cases hx : x = s
    · subst hx; rw [has_put_same h.isMap (keyLit x)]; simp [Names.set]
    · rw [has_put_other (lit_ne hx), h2]; simp [Names.set, hx]

theorem NMap.drop (h : NMap P k w mb n m) (hk : P.underlying k = some .string) (ht : P.underlying t = some (.map k e)) (s : Name) (hs : s.length ≤ maxLen) (ty : TypeId) :
    ∃ w', (Builtin.delete_ #[t, k] ty #[.map (some mb), .string ⟨s.toArray⟩]).run P w = .ok (.tuple #[]) w' ∧ NMap P k w' mb n (m.set s none) ∧ w.grownBy w' (some mb) := by
  obtain ⟨D, h, h1, h2⟩ := h
  obtain ⟨w', hrun, ho, hg⟩ := h.drop (string_keyed hk) ht (keyOf_name hk hs) ty
  refine ⟨w', hrun, ⟨_, ho, fun x => ?_, fun x => ?_⟩, hg.grown⟩
  · by_cases hx : x = s
    · subst hx; rw [atKey_del_same]; simp [Names.set, dat]
    · rw [atKey_del_other (lit_ne hx), h1]; simp [Names.set, hx]
  · by_cases hx : x = s
    · subst hx; rw [has_del_same]; simp [Names.set]
    · rw [has_del_other (lit_ne hx), h2]; simp [Names.set, hx]
end

/-! at the operations, for the walk -/
section
variable {P : Program} (w : World) {ops : Array Oper} {rest : List Oper} {o : Oper} {a : Act} {Q : Exit → Act → World → Prop}

theorem wp_look (hg : o.guard = none) (mo xo : Operand) (t : TypeId) (hop : o.op = Op.lookup t mo xo false) (k e : TypeId) (hk : P.underlying k = some .string) (ht : P.underlying t = some (.map k e)) (hz : ∀ w, (zeroValue e).run P w = .ok (.pointer none) w)
    (mb n : Nat) (m : Names) (hm : a.eval mo = .map (some mb)) (hown : NMap P k w mb n m) (s : Name) (hx : a.eval xo = .string ⟨s.toArray⟩) (hs : s.length ≤ maxLen)
    (hK : wpList P ops Q rest (a.put o.dst (ptr (m s))) w) : wpList P ops Q (o :: rest) a w := by
  refine wpList_plain hg fun K' hK' => ?_
  have hrun := hown.look hk ht (hz w) s hs
  unfold Oper.wp
  simp [execOp, hop, hm, hx, hrun, Result.andThen]
  exact hK' _ _ hK

theorem wp_store (hg : o.guard = none) (mo xo vo : Operand) (t : TypeId) (hop : o.op = Op.mapUpdate t mo xo vo) (k e : TypeId) (hk : P.underlying k = some .string) (ht : P.underlying t = some (.map k e))
    (mb n : Nat) (m : Names) (hm : a.eval mo = .map (some mb)) (hown : NMap P k w mb n m) (hn : n < maxLen) (s : Name) (b : Nat) (hx : a.eval xo = .string ⟨s.toArray⟩) (hs : s.length ≤ maxLen) (hv : a.eval vo = ptr (some b))
    (hK : ∀ w', NMap P k w' mb (n + 1) (m.set s (some b)) → w.grownBy w' (some mb) → wpList P ops Q rest (a.put o.dst undef) w') : wpList P ops Q (o :: rest) a w := by
  refine wpList_plain hg fun K' hK' => ?_
  obtain ⟨w', hrun, h1, h2⟩ := hown.store hk ht s hs b hn
  unfold Oper.wp
  simp [execOp, hop, hm, hx, hv, hrun, Result.andThen]
  exact hK' _ _ (hK w' h1 h2)

theorem wp_drop (hg : o.guard = none) (mo xo : Operand) (t k : TypeId) (hop : o.op = Op.call { callee := Callee.builtin Builtin.delete, args := #[mo, xo], argTypes := #[t, k] }) (e : TypeId) (hk : P.underlying k = some .string) (ht : P.underlying t = some (.map k e))
    (mb n : Nat) (m : Names) (hm : a.eval mo = .map (some mb)) (hown : NMap P k w mb n m) (s : Name) (hx : a.eval xo = .string ⟨s.toArray⟩) (hs : s.length ≤ maxLen)
    (hK : ∀ w', NMap P k w' mb n (m.set s none) → w.grownBy w' (some mb) → wpList P ops Q rest (a.put o.dst (.tuple #[])) w') : wpList P ops Q (o :: rest) a w := by
  refine wpList_plain hg fun K' hK' => ?_
  obtain ⟨w', hrun, h1, h2⟩ := hown.drop hk ht s hs o.type
  unfold Oper.wp
  simp [execOp, hop, resolve, invoke, builtin, hm, hx, hrun, Result.andThen]
  exact hK' _ _ (hK w' h1 h2)
end

/-- a range over such a map under way: left: the names still to come -/
def NRange (P : Program) (k : TypeId) (w : World) (mb r n : Nat) (m : Names) (left : Name → Bool) (cnt : Nat) : Prop :=
  ∃ (D : DataW Unit) (lf : Lit → Bool), w.ranges P k nodeElem mb r n D lf cnt ∧ (∀ s, D.atKey (.string s) .nil = dat (m s)) ∧ (∀ s, Maps.has D (.string s) = (m s).isSome) ∧ (∀ s, lf (.string s) = left s) ∧ (∀ s, left s = true → (m s).isSome = true)

section
variable {P : Program} {k e t : TypeId} {w : World} {mb r n cnt : Nat} {m : Names} {left : Name → Bool}
theorem NRange.map (h : NRange P k w mb r n m left cnt) : NMap P k w mb n m := by
  obtain ⟨D, lf, h, h1, h2, _⟩ := h
  exact ⟨D, h.owns, h1, h2⟩
theorem NRange.left_eq (h : NRange P k w mb r n m left cnt) : w.rangeLeft mb r = cnt := by
  obtain ⟨D, lf, h, _⟩ := h
  exact h.left_eq
theorem NRange.kept {w' : World} (h : NRange P k w mb r n m left cnt) (h1 : w'.heap[mb]? = w.heap[mb]?) (h2 : w'.heap[r]? = w.heap[r]?) : NRange P k w' mb r n m left cnt := by
  obtain ⟨D, lf, ⟨es, clock, since, seen, c0, q1, q2, q3, q4, q5, q6⟩, g⟩ := h
  exact ⟨D, lf, ⟨es, clock, since, seen, c0, h1.trans q1, q2, q3, q4, h2.trans q5, q6⟩, g⟩
theorem NRange.alloc (h : NRange P k w mb r n m left cnt) (o : Obj) : NRange P k (w.alloc o) mb r n m left cnt := by
  have h1 := h.map.lt
  have h2 : r < w.heap.size := by
    obtain ⟨D, lf, ⟨es, clock, since, seen, c0, q1, q2, q3, q4, q5, q6⟩, g⟩ := h
    exact (Array.getElem?_eq_some_iff.1 q5).1
  exact h.kept ((World.grownBy_alloc w o none).block mb h1 (by simp)) ((World.grownBy_alloc w o none).block r h2 (by simp))
theorem NRange.drew (h : NRange P k w mb r n m left cnt) : NRange P k w.drew mb r n m left cnt := h
end

section
variable {P : Program} (w : World) {ops : Array Oper} {rest : List Oper} {o : Oper} {a : Act} {Q : Exit → Act → World → Prop}
theorem wp_range (hg : o.guard = none) (mo : Operand) (t : TypeId) (hop : o.op = Op.range t mo) (k e : TypeId) (hk : P.underlying k = some .string) (ht : P.underlying t = some (.map k e))
    (mb n : Nat) (m : Names) (hm : a.eval mo = .map (some mb)) (hown : NMap P k w mb n m)
    (hK : ∀ w' cnt, cnt ≤ n → NRange P k w' mb w.heap.size n m (fun s => (m s).isSome) cnt → w.grownBy w' none → w'.heap.size = w.heap.size + 1 → wpList P ops Q rest (a.put o.dst (.pointer (some ⟨w.heap.size, 0, none⟩))) w') :
    wpList P ops Q (o :: rest) a w := by
  obtain ⟨D, h, h1, h2⟩ := hown
  refine wpList_range_own w hg mo t hop k e (string_keyed hk) ht nodeElem mb n D hm h fun w' q1 q2 q3 => ?_
  exact hK w' _ h.size_le ⟨D, _, q1, h1, h2, h2, fun s hs => hs⟩ q2 q3

theorem wp_next (hg : o.guard = none) (it : Operand) (hop : o.op = Op.next it false) (k : TypeId) (hk : P.underlying k = some .string)
    (mb r n : Nat) (m : Names) (left : Name → Bool) (cnt : Nat) (hit : a.eval it = .pointer (some ⟨r, 0, none⟩)) (h : NRange P k w mb r n m left cnt)
    (hDone : cnt = 0 → (∀ s, left s = false) → wpList P ops Q rest (a.put o.dst (.tuple #[.bool false])) w)
    (hMore : ∀ (s : Name) (b : Nat) (w' : World) (cnt' : Nat), s.length ≤ maxLen → left s = true → m s = some b → NRange P k w' mb r n m (fun x => left x && !decide (x = s)) cnt' → cnt' < cnt →
      w.grownBy w' (some r) → w'.heap.size = w.heap.size → (Instr.entry (.pointer (some ⟨r, 0, none⟩))).run P w' = .ok (.tuple #[.string ⟨s.toArray⟩, .pointer (some ⟨b, 0, none⟩)]) w' → wpList P ops Q rest (a.put o.dst (.tuple #[.bool true, .string ⟨s.toArray⟩, .pointer (some ⟨b, 0, none⟩)])) w') :
    wpList P ops Q (o :: rest) a w := by
  obtain ⟨D, lf, h, h1, h2, h3, h4⟩ := h
  refine wpList_next_ranges w hg it hop k (string_keyed hk) nodeElem encStr ptr (fun key kl hkey => by obtain ⟨x, hx, _⟩ := Maps.keyOf_str hk hkey; exact ⟨x, hx⟩) (fun v y hv => by obtain ⟨o, ho, _⟩ := nodeElem_inv hv; exact ⟨o, ho⟩)
    mb r n D lf cnt hit h (fun c0 hl => hDone c0 fun s => by rw [← h3]; exact hl _) ?_
  intro x c kl y w' cnt' hkey hlk hv hat hrg hlt hgr hsz hen
  obtain ⟨x', ex, rfl, hx⟩ := Maps.keyOf_str hk hkey
  obtain rfl : x = x' := encStr_inj ex
  rw [nodeElem_ptr] at hv
  cases hv
  have hm : m x = c := dat_inj (by rw [← h1, hat])
  have hl : left x = true := by rw [← h3]; exact hlk
  have hs := h4 x hl
  cases c with
  | none => rw [hm] at hs; cases hs
  | some b =>
    refine hMore x b w' cnt' hx hl hm ⟨D, _, hrg, h1, h2, fun s => ?_, fun s hs => h4 s ?_⟩ hlt hgr hsz hen
    · show (lf (.string s) && !(Lit.string s).sameKey (.string x)) = _
      rw [h3]
      by_cases hsx : s = x
      · subst hsx; rw [WideAt.sameKey_self (keyLit s)]; simp
      · rw [sameKey_ne (lit_ne hsx)]; simp [hsx]
    · simp only [Bool.and_eq_true] at hs; exact hs.1
end
end Go.Proofs.YtakjpgjcfecfiaaGreatDoor
