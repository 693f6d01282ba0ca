import Derived.Test.YtakjpgjcfecfiaaGreatDoorLArg
import Derived.Test.YtakjpgjcfecfiaaGreatDoorRefEnc
import Derived.Test.YtakjpgjcfecfiaaGreatDoorMRR
/- What keydirlaw's disk leans on. -/
namespace Go.Proofs.YtakjpgjcfecfiaaGreatDoor
open Go.RowKit Go.Maps Go.Joins

set_option maxHeartbeats 400000 in
theorem record_any (sq : Nat) (key val : ByteArray) (del : Bool) (w : World) :
    Calls Tryz.prog 48 #[.agg #[.int .u64 (sq : Int), .string key, .string val, .bool del]] w fun e w' => e = .returned (.agg #[.int .u64 (sq : Int), .string key, .string val, .bool del, .int .i64 0]) ∧ Below w.heap.size w w' := by
  go_enter Tryz.func48, Tryz.ntmps48
  go_wp2
  refine bodyPost_ret (v := .agg #[.int .u64 (sq : Int), .string key, .string val, .bool del, .int .i64 0]) ?_ rfl ⟨rfl, ((Below.refl _ w).alloc (Nat.le_refl _) _).alloc (by simp) _⟩
  simp [results, Tryz.results48, go_sem]

/-- what Encode answers, as far as a disk is made of it -/
def EncIs (w w' : World) (e : Ending) : Prop := (∃ f : Int, e = .returned (.tuple #[.slice none 0 0, .int .i64 f]) ∧ (f == 0) = false) ∨ ∃ g n cap l, e = .returned (.tuple #[.slice (some ⟨g, 0, none⟩) n cap, .int .i64 0]) ∧ Own w' w.heap.size (.slice (some ⟨g, 0, none⟩) n cap) n l ∧ n ≤ 96
theorem enc_any (sq : Nat) (key val : ByteArray) (del : Bool) (w : World) (hsq : sq < 18446744073709551616) (hk : key.size ≤ reachN) (hv : val.size ≤ reachN) :
    Calls Tryz.prog 49 #[.agg #[.int .u64 (sq : Int), .string key, .string val, .bool del, .int .i64 0]] w fun e w' => EncIs w w' e ∧ Below w.heap.size w w' := by
  cases h1 : keyOk key with
  | false => exact (refEncode_key sq key val del 0 w hk h1).mono fun e w' ⟨h, hb⟩ => ⟨.inl ⟨1, h, rfl⟩, hb⟩
  | true =>
    cases h2 : valOk val del with
    | false => exact (refEncode_val sq key val del 0 w hk hv h1 h2).mono fun e w' ⟨h, hb⟩ => ⟨.inl ⟨2, h, rfl⟩, hb⟩
    | true =>
      refine (refEncode_ok sq key val del 0 w hsq h1 h2).mono fun e w' ⟨v', h, ho, hb⟩ => ?_
      have k1 : 1 ≤ key.size ∧ key.size ≤ 16 := of_decide_eq_true h1
      have k2 : val.size ≤ 64 ∧ (del = true → val.size = 0) := of_decide_eq_true h2
      obtain ⟨g, cap, rfl, _⟩ := ho.shape (by omega)
      exact ⟨.inr ⟨g, _, cap, _, h, ho, by omega⟩, hb⟩

theorem wm_any (gen : Nat) (a : Option Addr) (c n : Nat) (z : List Int) (w : World) (hgen : gen < 18446744073709551616) (hn : z.length = n) (hm : n ≤ 2000000) (h : Is w a z) :
    Calls Tryz.prog 52 #[.int .u64 (gen : Int), .slice a n c] w fun e w' => ∃ v f m l, e = .returned (.tuple #[v, .int .i64 f]) ∧ Own w' w.heap.size v m l ∧ m ≤ 254 ∧ Below w.heap.size w w' := by
  cases hv : validZ z with
  | false => exact (refWrite_bad gen a c n z w hn hm h hv).mono fun e w' ⟨h, hb⟩ => ⟨_, _, 0, [], h, Own.nil _ _, by omega, hb⟩
  | true =>
    have h60 : n ≤ 60 := by have := ((validZ_iff z).1 hv).1; omega
    exact (refWrite_ok gen a c n z w hgen hn h hv).mono fun e w' ⟨v', h, ho, hb⟩ => ⟨_, _, _, _, h, ho, by omega, hb⟩

/-- append(b, x...) of bytes, from wherever -/
theorem app_bytes (w : World) {ops : Array Oper} {rest : List Oper} {o : Oper} {a : Act} {Q : Exit → Act → World → Prop} (hgd : o.guard = none)
    (s x : Operand) (ho : o.op = Op.call { callee := Callee.builtin Builtin.append, args := #[s, x], argTypes := #[25, 25] })
    (base n : Nat) (v : Value) (l : List UInt8) (hs : a.eval s = v) (hown : Own w base v n l) (ai : Option Addr) (m ci : Nat) (t : List UInt8) (hx : a.eval x = .slice ai m ci) (hl : t.length = m) (hb : Bs w ai t) (hnil : ai = none → m = 0 ∧ ci = 0) (hsz : n + m ≤ 2000000) (hbase : base ≤ w.heap.size)
    (h : ∀ v' w', Own w' base v' (n + m) (l ++ t) → Below base w w' → wpList Tryz.prog ops Q rest (a.put o.dst v') w') :
    wpList Tryz.prog ops Q (o :: rest) a w := by
  cases ai with
  | some ad =>
    refine app_own w hgd s x ho base n v l hs hown ad m ci t hx hl ?_ hsz hbase (fun v' w' h1 _ h2 => h v' w' h1 h2)
    intro j hj
    obtain ⟨b, off, e, hc⟩ := hb j (by omega)
    cases e
    rw [Addr.add_lit]; exact hc
  | none =>
    obtain ⟨rfl, rfl⟩ := hnil rfl
    obtain rfl : t = [] := List.eq_nil_of_length_eq_zero hl
    obtain ⟨i0, hi0, _, _, _⟩ := info_parts Tryz.info8
    have hrun := run_append_owned_none (P := Tryz.prog) w base 25 o.type 5 i0 1 Tryz.underlying25 hi0 _ _ _ hown.2
    refine wpList_plain hgd fun K hK => ?_
    unfold Oper.wp
    simp [execOp, ho, resolve, invoke, builtin, hs, hx, hrun, Result.andThen]
    exact hK _ _ (h _ w (by simpa using hown) (Below.refl _ _))

/-- the row of a slice stays where its block does -/
theorem row_keep {w w' : World} {base e size n : Nat} {v : Value} {xs : List Value} (h : w.ownsRow base e size v n xs) (hk : ∀ g, v.ownBlock = some g → w'.heap[g]? = w.heap[g]?) : w'.ownsRow base e size v n xs := by
  obtain ⟨h1, h2 | ⟨g, cap, cur, rfl, hb, hg, r⟩⟩ := h
  · exact ⟨h1, .inl h2⟩
  · exact ⟨h1, .inr ⟨g, cap, cur, rfl, hb, (hk g rfl).trans hg, r⟩⟩

/-- a block that is none of the disk's kinds is written -/
theorem DiskAt.aside {w w' : World} {d c mn ms : Nat} {K : Nat → Prop} {now safe : Names} {mv : Value} {L : List Steps} {room : Int} {F : Files} (h : DiskAt w d K c mn ms now safe mv L room F) {r : Option Nat} (hg : w.grownBy w' r)
    (hr : ∀ g, r = some g → ∃ cs : Array Value, w.heap[g]? = some (.cells cs 3)) : DiskAt w' d (fun k => K k ∨ (w.heap.size ≤ k ∧ k < w'.heap.size)) c mn ms now safe mv L room F := by
  obtain ⟨ns, hns, hs⟩ := h.msafe
  obtain ⟨vs, hrow, hf⟩ := h.row
  have hsz := hg.size
  have hst : ∀ (g : Nat) (cs : Array Value) (t : TypeId) (fr : Nat × Nat), w.heap[g]? = some (.cells cs t fr) → t ≠ 3 → w'.heap[g]? = w.heap[g]? := by
    intro g cs t fr hgb h1
    refine hg.block g (Array.getElem?_eq_some_iff.1 hgb).1 (fun e => ?_)
    obtain ⟨cs', hb⟩ := hr g e.symm
    rw [hb] at hgb; cases hgb; exact h1 rfl
  have hmb : ∀ {mb k : Nat} {m : Names}, NM w mb k m → w'.heap[mb]? = w.heap[mb]? := by
    intro mb k m hm
    exact hg.block mb hm.lt (fun e => by obtain ⟨cs', hb⟩ := hr mb e.symm; exact hm.not_cells hb)
  refine ⟨h.top.kept (hst d _ _ _ h.top (by decide)), h.mnow.kept (hmb h.mnow), ⟨ns, hns, hs.kept (hmb hs)⟩, h.ne, ⟨vs, row_keep hrow (fun g e => by obtain ⟨cs, hb⟩ := row_block hrow e; exact hst g _ _ _ hb (by decide)), all2_imp (fun u l hu => hu.kept fun g hg => by obtain ⟨cs, e⟩ := hg; exact hst g _ _ _ e (by decide)) hf⟩, h.len, h.rep, fun s b e => ?_, h.no, h.inj, ?_, ?_, ?_, ?_, ?_, ?_⟩
  · obtain ⟨l, h1, h2⟩ := h.node s b e
    have h2' := h2
    obtain ⟨_, u, hbu, _⟩ := h2'
    exact ⟨l, h1, h2.kept (hst b _ _ _ hbu (by decide)) (fun g hg => by obtain ⟨cs, e⟩ := hg; exact hst g _ _ _ e (by decide))⟩
  · have := h.top.lt; have := h.kd; simp only [not_or, not_and]; exact ⟨this, fun _ => by omega⟩
  · have := h.mnow.lt; have := h.kn; simp only [not_or, not_and]; exact ⟨this, fun _ => by omega⟩
  · have := hs.lt; have := h.ks; simp only [not_or, not_and]; exact ⟨this, fun _ => by omega⟩
  · intro s b e
    obtain ⟨l, h1, h2⟩ := h.node s b e
    have := h2.lt; have := h.kb s b e; simp only [not_or, not_and]; exact ⟨this, fun _ => by omega⟩
  · intro g e
    have := row_lt hrow e; have := h.kv g e; simp only [not_or, not_and]; exact ⟨this, fun _ => by omega⟩
  · rintro k (hk | hk)
    · have := h.bd k hk; omega
    · exact hk.2
theorem Dk.aside {w w' : World} {d c : Nat} {K : Nat → Prop} {F : Files} (h : Dk w d K c F) {r : Option Nat} (hg : w.grownBy w' r) (hr : ∀ g, r = some g → ∃ cs : Array Value, w.heap[g]? = some (.cells cs 3)) : Dk w' d (fun k => K k ∨ (w.heap.size ≤ k ∧ k < w'.heap.size)) c F := by
  obtain ⟨_, _, _, _, _, _, _, h⟩ := h; exact ⟨_, _, _, _, _, _, _, h.aside hg hr⟩
end Go.Proofs.YtakjpgjcfecfiaaGreatDoor
