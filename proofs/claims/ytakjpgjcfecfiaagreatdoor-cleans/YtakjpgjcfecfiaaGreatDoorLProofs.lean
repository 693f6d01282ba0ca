import Derived.Test.YtakjpgjcfecfiaaGreatDoorLCard
import Derived.Test.YtakjpgjcfecfiaaGreatDoorLFact
import Derived.Test.YtakjpgjcfecfiaaGreatDoorLCle
/- The card of Cleans, from what Clean does. -/
namespace Go.Proofs.YtakjpgjcfecfiaaGreatDoor
open Go.ChangeShapes Go.WideShapes Go.ChangeAt Go.RowKit Go.Joins

/-- a table's cells -/
def tabCells : DataW Unit → Array Value
  | .agg l => (l.flatMap fun
    | .lit (.int k n) => [Value.int k n]
    | .agg m => m.map fun
      | .lit (.int k n) => Value.int k n
      | _ => undef
    | _ => [undef]).toArray
  | _ => #[]
def putTab (h : Array Obj) (g : Nat) (d : DataW Unit) : Array Obj := h.modify g fun
  | .cells _ t frozen => .cells (tabCells d) t frozen
  | o => o

set_option maxRecDepth 100000 in
theorem cleans_lifted (hC : CleanSpec) (os : Os) (started : os.Started) (H : Type) (enc : TypeId × Value → H) (F : Stop.Interp) :
    ReturnsInHanded {} Tryz.checked os 9 .any ((OpenSpec.ofChange Rows.cleansSpec).preRow enc Tryz.prog Tryz.f9 Rows.cleansRow.domain false Rows.cleansRow.laid) (((OpenSpec.ofChange Rows.cleansSpec).at F).post enc Tryz.prog Tryz.f9 false true false false) := by
  refine returnsInHanded_of_row (C := Tryz.checked) (s := OpenSpec.ofChange Rows.cleansSpec) Tryz.own started (by kernel_rfl) Tryz.func9
    (witness_row_at (enc := enc) (C := Tryz.checked) false
      { World.holding Tryz.prog os ⟨#[], #[], []⟩ with heap := putTab (putTab (putTab (putTab (putTab ((World.holding Tryz.prog os ⟨#[], #[], []⟩).heap.modify 0 fun
        | .cells _ t frozen => .cells #[.iface 267 (.agg #[.pointer (some ⟨7, 40, none⟩)])] t frozen
        | o => o) 2 Rows.laid_math_bits_deBruijn32tab) 3 Rows.laid_math_bits_deBruijn64tab) 1 Rows.laid_internal_strconv_uint64pow10) 5 Rows.laid_unicode_utf8_acceptRanges) 4 Rows.laid_unicode_utf8_first }
      #[.agg #[.slice none 0 0, .slice none 0 0, .int .u64 0, .slice none 0 0, .bool false, .bool false], .int .u64 0, .int .u64 0] rfl (by kernel_rfl) (by kernel_rfl) (by kernel_rfl)
      (OpenSpec.preRow_of_cond 8 (x := ([.agg [.nil, .nil, .lit (.int .u64 0), .nil, .lit (.bool false), .lit (.bool false)], .lit (.int .u64 0), .lit (.int .u64 0)], [], [])) (by kernel_rfl) (by kernel_rfl) (fun k hk => by cases hk) (by kernel_rfl)
        (laidMetH_of_parts (laidMet_of_run3 8 (by kernel_rfl) (by kernel_rfl) (by kernel_rfl)) (by kernel_rfl)))) ?_
  intro W base args ds gs before hval hW _ _ hsz hL _ _
  exact cleans_contract hC H enc W base args ds gs before hval hW hsz hL

theorem and_t {a b : Bool} (ha : a = true) (hb : b = true) : (a && b) = true := by rw [ha, hb]; rfl
set_option maxRecDepth 100000 in
theorem cleans_facts : joinedFacts Tryz.prog 9 Tryz.f9 Rows.cleansSpec Rows.cleansRow = true := by
  unfold joinedFacts
  refine and_t ?_ cf31
  refine and_t ?_ cf30
  refine and_t ?_ cf29
  refine and_t ?_ cf28
  refine and_t ?_ cf27
  refine and_t ?_ cf26
  refine and_t ?_ cf25
  refine and_t ?_ cf24
  refine and_t ?_ cf23
  refine and_t ?_ cf22
  refine and_t ?_ cf21
  refine and_t ?_ cf20
  refine and_t ?_ cf19
  refine and_t ?_ cf18
  refine and_t ?_ cf17
  refine and_t ?_ cf16
  refine and_t ?_ cf15
  refine and_t ?_ cf14
  refine and_t ?_ cf13
  refine and_t ?_ cf12
  refine and_t ?_ cf11
  refine and_t ?_ cf10
  refine and_t ?_ cf9
  refine and_t ?_ cf8
  refine and_t ?_ cf7
  refine and_t ?_ cf6
  refine and_t ?_ cf5
  refine and_t ?_ cf4
  refine and_t ?_ cf3
  refine and_t ?_ cf2
  exact and_t cf0 cf1

theorem cleans_facts_eq : (joinedFacts Tryz.pinned.checked.prog 9 Tryz.f9 (OpenSpec.ofChange Rows.cleansSpec).bare Rows.cleansRow = true) = (joinedFacts Tryz.prog 9 Tryz.f9 Rows.cleansSpec Rows.cleansRow = true) := by kernel_rfl
theorem cleans_name : Tryz.pinned.checked.prog.funcNamed Rows.cleansRow.func = some 9 := by kernel_rfl
set_option maxRecDepth 100000 in
theorem cleans_said_of (hC : CleanSpec) : Rows.CleansSaid :=
  OpenClaim.holds_of_cond 9 Tryz.f9 rfl rfl rfl rfl rfl rfl rfl ⟨rfl, rfl, rfl, rfl, rfl⟩ rfl rfl rfl rfl rfl cleans_name Tryz.func9 (Eq.mpr cleans_facts_eq cleans_facts)
    (of_decide_eq_true (by kernel_rfl)) (by unfold Func.isWrapper; rw [if_neg (of_decide_eq_false (by kernel_rfl))]; exact ⟨rfl, rfl⟩)
    (fun os started H enc _ F => by rw [OpenClaim.pre_eq_preRow]; exact cleans_lifted hC os started H enc F)

theorem cleans_plain (f : FuncId) (fn : Func) (hf : Tryz.pinned.checked.prog.funcNamed "keydir/keydirlaw.Cleans" = some f) (hfn : Tryz.pinned.checked.prog.funcs[f]? = some fn) :
    true = Tryz.pinned.checked.prog.looks [] ∧ ∀ (j : Nat) t, fn.params[j]? = some t → Tryz.pinned.checked.prog.wantsStandIn t = false := by
  obtain rfl : f = 9 := Option.some.inj ((show Tryz.prog.funcNamed "keydir/keydirlaw.Cleans" = some 9 by kernel_rfl).symm.trans hf) |>.symm
  obtain rfl : fn = Tryz.f9 := (Option.some.inj (Tryz.func9.symm.trans hfn)).symm
  refine ⟨by kernel_rfl, fun j t ht => ?_⟩
  rw [Tryz.params9] at ht
  have hm : t = 27 ∨ t = 63 := by simpa using Array.mem_of_getElem? ht
  rcases hm with rfl | rfl
  · exact (show Tryz.prog.wantsStandIn 27 = false by kernel_rfl)
  · exact (show Tryz.prog.wantsStandIn 63 = false by kernel_rfl)

/-- a tied card of a row whose text can start goroutines -/
theorem holds_tied_goes (Lk : Looks) {p : Pinned} {s : OpenSpec} {c : OpenClaim} (kinds : List LaidKind) (tests : Bool) (har : Bool × String) (lk : Bool)
    (hc : c.holds p s) (hw : c.wfByText s = true) (htie : c.laidByTextAt Lk p kinds tests)
    (hst : c.start = .entering) (hnb : c.noBlocks = false ∧ c.again = false) (hm : p.checked.prog.mainIs = some (har.1, har.2.toList)) (hn : (!har.1 && har.2.isEmpty && !lk) = false)
    (hl : ∀ f fn, p.checked.prog.funcNamed c.func = some f → p.checked.prog.funcs[f]? = some fn → lk = p.checked.prog.looks [] ∧ ∀ (j : Nat) t, fn.params[j]? = some t → p.checked.prog.wantsStandIn t = false)
    (hg : true = c.goesBy p.checked.prog) :
    Claim7.holds p (.plain s) { stood := { row := c, standIns := [], harness := har, looks := lk }, kinds := [], alts := [], goes := true, laidByText := true, laidKinds := kinds, laidTests := tests, laidLooks := Lk } := by
  have h6 : Claim7.isSixth { stood := { row := c, standIns := [], harness := har, looks := lk }, kinds := [] } = false := by simpa [Claim7.isSixth] using hn
  unfold Claim7.holds
  refine And.intro ?_ (And.intro (fun D hD => ?_) (And.intro htie (And.intro (fun h => ?_) hg)))
  · exact Claim7.tied_new_at Lk kinds tests (Claim7.new_of_sixth hc har lk hst hnb hm h6 hl) hw
  · cases hD
  · cases h
theorem cleans_goes : true = Rows.cleansRow.goesBy Tryz.prog := by kernel_rfl
theorem cleans_wf : Rows.cleansRow.wfByText (OpenSpec.ofChange Rows.cleansSpec) = true := by kernel_rfl
theorem cleans_main : Tryz.prog.mainIs = some (Rows.cleansCard.stood.harness.1, Rows.cleansCard.stood.harness.2.toList) := by kernel_rfl

theorem cleans_card_of (hC : CleanSpec) : Rows.CleansCardSaid :=
  holds_tied_goes .later _ _ Rows.cleansCard.stood.harness _ (cleans_said_of hC) cleans_wf cleans_row_tie rfl ⟨rfl, rfl⟩ cleans_main rfl cleans_plain cleans_goes
end Go.Proofs.YtakjpgjcfecfiaaGreatDoor

/- Cleans: the card. -/
namespace Go.Proofs.YtakjpgjcfecfiaaGreatDoor
theorem cleans_card : Rows.CleansCardSaid := cleans_card_of clean_spec
#print axioms cleans_card
end Go.Proofs.YtakjpgjcfecfiaaGreatDoor
