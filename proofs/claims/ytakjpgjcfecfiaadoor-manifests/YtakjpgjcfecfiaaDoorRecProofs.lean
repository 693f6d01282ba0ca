import Derived.Test.YtakjpgjcfecfiaaDoorRows
import Derived.Test.YtakjpgjcfecfiaaDoorCards
import Derived.Test.YtakjpgjcfecfiaaDoorTie
import Derived.Test.YtakjpgjcfecfiaaDoorRec
import Derived.ProofKit
import Derived.OpenShut
import Derived.Lib.SmallJoins
import Derived.SizedLaws
import Derived.LaidLaws
import Derived.LaidHandle
import Derived.Deep.DeepHandedRow
/- The row of Records, and its card. -/
namespace Go.Proofs.YtakjpgjcfecfiaaDoor
open Go.ChangeShapes Go.WideShapes Go.ChangeAt Go.RowKit Go.Joins

theorem Tryd.own : ownKnob Tryd.prog.godebug = none := by kernel_rfl
theorem Tryd.laidOut : laidOutB Tryd.prog = true := by kernel_rfl
theorem Tryd.et : Tryd.prog.globalNamed "errors.errorType" = some 0 := by kernel_rfl
theorem Tryd.rt : (Tryd.prog.cutTypes.find? (·.1 == "internal/reflectlite.rtype")).map (·.2) = some 87 := by kernel_rfl
theorem Tryd.oneRow : ((List.range 134).filter fun t => Tryd.prog.rowNamed t [101, 114, 114, 111, 114]) = [27] := by kernel_rfl
theorem Tryd.tsize : Tryd.prog.types.size = 134 := by kernel_rfl
theorem Tryd.cells24 : Tryd.prog.cellsOf 24 = 4 := by kernel_rfl
theorem Tryd.cells8 : Tryd.prog.cellsOf 5 = 1 := by kernel_rfl
theorem Tryd.bytes8 : Tryd.prog.bytesOf 5 = 1 := by kernel_rfl

/-- what the row's list gives: the variable's one cell -/
theorem laid_of {W : World} (h : laidMetH Tryd.prog Rows.recordsRow.laid W) : Laid W := by
  have h' : laidMet Tryd.prog [] W ∧ handlesMet Tryd.prog Rows.recordsRow.laid W := h
  obtain ⟨name, u, ty, e1, e2, e3, e4, e5⟩ := h'.2 _ (List.mem_singleton.2 rfl)
  have en : name = [101, 114, 114, 111, 114] := (Option.some.inj e1).symm
  subst en
  obtain rfl := Option.some.inj (Tryd.rt.symm.trans e2)
  have hm : ty ∈ (List.range 134).filter fun t => Tryd.prog.rowNamed t [101, 114, 114, 111, 114] := List.mem_filter.2 ⟨List.mem_range.2 (by rw [← Tryd.tsize]; exact e3), e4⟩
  rw [Tryd.oneRow] at hm
  obtain rfl := List.mem_singleton.1 hm
  have hh : typeHandle Tryd.prog 27 = .pointer (some ⟨1, 27, none⟩) := by kernel_rfl
  rw [hh] at e5
  have h5 := World.var?_cell Tryd.et e5 0
  unfold Laid
  simpa using h5

/-- the numbers of a row of bytes, as bytes -/
theorem bytes_of (zs : List Int) (h : ∀ n ∈ zs, (Lit.int .u8 n).wf = true) : ∃ l : List UInt8, l.length = zs.length ∧ ∀ i, i < zs.length → zs.getD i 0 = at8 l i := by
  refine ⟨zs.map fun n => UInt8.ofNat n.toNat, by simp, fun i hi => ?_⟩
  have hb := bounds_u8 (h zs[i] (List.getElem_mem hi))
  unfold at8
  simp [hi]
  omega

set_option maxRecDepth 100000 in
theorem records_contract (H : Type) (enc : TypeId × Value → H) (W : World) (base : Nat) (args : Array Value) (ds gs : List (DataW H)) (before : List MemPlace)
    (hval : ∀ (j : Nat) t v, Tryd.f3.params[j]? = some t → args[j]? = some v → Value.okWide Tryd.prog W .any base t v)
    (hW : DataW.Whole enc Tryd.prog Tryd.f3.params.toList Rows.recordsSpec.vars false W args.toList ds gs before)
    (hsz0 : (DataW.weightsEach Tryd.prog [24, 25] (ds ++ gs)).all (· ≤ reachBytes) = true)
    (hL : laidMetH Tryd.prog Rows.recordsRow.laid W) :
    Calls Tryd.prog 3 args W fun e W' => ∃ v, e = .returned v ∧ Rows.recordsSpec.post enc Tryd.prog Tryd.f3 false true false false W args v W' := by
  have hW' := hW
  obtain ⟨p, q, hA0, hV, rfl, hfz, hnd⟩ := hW
  have hA : DataW.TrodAll enc Tryd.prog W 0 (fun _ => true) true Tryd.f3.params.toList args.toList ds p := hA0
  have hlt := DataW.TrodAll.lt hA
  rw [Tryd.params3] at hA hval
  obtain ⟨v0, v1, d0, d1, p0, p1, rfl, rfl, rfl, h0, h1⟩ := trodAll_two hA
  obtain ⟨rfl, rfl⟩ := trodVars_none hV
  have h0k := h0
  have h1k := h1
  obtain ⟨c0, c1, c2, c3, y0, y1, y2, y3, m, rfl, rfl, rfl, hy0, hy1, hy2, hy3⟩ := open_agg4 Tryd.underlying24 (by kernel_rfl) Tryd.cells24 (hval 0 24 v0 rfl rfl) h0
  obtain ⟨sq, e0, rfl, wsq⟩ := DataW.trod_int Tryd.underlying22 hy0
  obtain ⟨ks, e1, rfl, wks⟩ := DataW.trod_string Tryd.underlying9 hy1
  obtain ⟨vs, e2, rfl, wvs⟩ := DataW.trod_string Tryd.underlying9 hy2
  obtain ⟨dl, e3, rfl⟩ := DataW.trod_bool Tryd.underlying4 hy3
  simp only [List.cons.injEq, and_true] at e0 e1 e2 e3
  subst e0 e1 e2 e3
  have bsq := bounds_u64 wsq
  have hks : ks.size ≤ 1000000000000000 := by
    have := List.all_eq_true.1 hsz0 ks.data.toList.length (DataW.weights_mem_each (j := 0) rfl rfl _ (by simp [DataW.weights, DataW.weightsEach, Tryd.underlying24]))
    have h9 := of_decide_eq_true this
    rw [ba_length] at h9; unfold reachBytes at h9; omega
  have hvs : vs.size ≤ 1000000000000000 := by
    have := List.all_eq_true.1 hsz0 vs.data.toList.length (DataW.weights_mem_each (j := 0) rfl rfl _ (by simp [DataW.weights, DataW.weightsEach, Tryd.underlying24]))
    have h9 := of_decide_eq_true this
    rw [ba_length] at h9; unfold reachBytes at h9; omega
  obtain ⟨a0, len, cap, rfl⟩ := okWide_slice Tryd.underlying25 (hval 1 25 v1 rfl rfl)
  obtain ⟨sqn, rfl⟩ := Int.eq_ofNat_of_zero_le bsq.1
  have key : Calls Tryd.prog 3 #[.agg #[.int .u64 (sqn : Int), .string ks, .string vs, .bool dl], .slice a0 len cap] W fun e w' => e = .returned (.bool true) ∧ Below W.heap.size W w' := by
    obtain ⟨fuel, hf⟩ := h1
    rcases open_ints Tryd.underlying25 Tryd.underlying5 Tryd.cells8 hf with ⟨hcs, hx⟩ | ⟨a, len', cap', zs, hcs, _, hl, hm, hz, hx, hcell, hwz⟩
    · simp [Value.cells] at hcs
      obtain ⟨rfl, rfl, rfl⟩ := hcs
      exact records_any sqn ks vs dl none 0 0 [] W (laid_of hL) (by omega) hks hvs (by omega) rfl (by omega) (by omega) (fun i hi => by simp at hi) (fun _ => ⟨rfl, rfl⟩)
    · simp [Value.cells] at hcs
      obtain ⟨rfl, rfl, rfl⟩ := hcs
      simp only [Prod.mk.injEq] at hx
      obtain ⟨rfl, rfl⟩ := hx
      have hlen := sized_slice hsz0 (j := 1) (t := 25) (e := 5) rfl rfl Tryd.underlying25
      rw [Tryd.bytes8] at hlen
      simp only [if_true] at hz
      simp only [lits, List.length_map, List.length_take, List.length_drop, reachBytes] at hlen
      obtain ⟨l, hll, hat⟩ := bytes_of zs hwz
      unfold maxLen at hm
      refine records_any sqn ks vs dl (some a) cap len (l.take len) W (laid_of hL) (by omega) hks hvs (by omega) (by simp; omega) hl (by omega) ?_ (fun e => by cases e)
      intro i hi
      have hi2 : i < len := by simp at hi; omega
      obtain ⟨b, off, rfl, hc0⟩ := ints_at hcell (show 0 < zs.length by omega)
      refine ⟨b, off, rfl, ?_⟩
      have hc := hcell i (by omega)
      rw [hat i (by omega), Addr.add_lit] at hc
      rw [hc]
      congr 2
      simp [at8, hi2]
  refine key.mono fun e W' ⟨he, hb⟩ => ?_
  subst he
  have e1 : Rows.recordsSpec.fn H ([.agg [.lit (.int .u64 (sqn : Int)), .lit (.string ks.data.toList), .lit (.string vs.data.toList), .lit (.bool dl)], d1] ++ []) = { results := [.lit (.bool true)], args := [.agg [.lit (.int .u64 (sqn : Int)), .lit (.string ks.data.toList), .lit (.string vs.data.toList), .lit (.bool dl)], d1] } := by simp [Rows.recordsSpec]
  refine ⟨_, rfl, _, _, _, [], p1, [], hW', ?_, ?_, ?_, hb.frame _, fun h => by cases h⟩
  · rw [e1]; exact trodAll_mk1 (shut_bool Tryd.underlying4 true)
  · rw [e1]
    exact trodAll_mk2 (Below.trod Tryd.laidOut (by kernel_rfl) (of_decide_eq_true (by kernel_rfl)) h0k hb (fun x hx => hlt x (List.mem_append_left _ hx))) (Below.trod Tryd.laidOut (by kernel_rfl) (of_decide_eq_true (by kernel_rfl)) h1k hb (fun x hx => hlt x (List.mem_append_right _ hx)))
  · rw [e1]; rfl

set_option maxRecDepth 100000 in
theorem records_lifted (os : Os) (started : os.Started) (H : Type) (enc : TypeId × Value → H) (F : Stop.Interp) :
    ReturnsInHanded {} Tryd.checked os 3 .any ((OpenSpec.ofChange Rows.recordsSpec).preRow enc Tryd.prog Tryd.f3 Rows.recordsRow.domain false Rows.recordsRow.laid) (((OpenSpec.ofChange Rows.recordsSpec).at F).post enc Tryd.prog Tryd.f3 false true false false) := by
  refine returnsInHanded_of_row (C := Tryd.checked) (s := OpenSpec.ofChange Rows.recordsSpec) Tryd.own started (by kernel_rfl) Tryd.func3
    (witness_row_at (enc := enc) (C := Tryd.checked) false
      { World.holding Tryd.prog os ⟨#[], #[], []⟩ with heap := (World.holding Tryd.prog os ⟨#[], #[], []⟩).heap.modify 0 fun
        | .cells _ t frozen => .cells #[.iface 87 (.agg #[.pointer (some ⟨1, 27, none⟩)])] t frozen
        | o => o }
      #[.agg #[.int .u64 0, .string ⟨#[]⟩, .string ⟨#[]⟩, .bool false], .slice none 0 0] rfl (by kernel_rfl) (by kernel_rfl) (by kernel_rfl)
      (OpenSpec.preRow_of_cond 8 (x := ([.agg [.lit (.int .u64 0), .lit (.string []), .lit (.string []), .lit (.bool false)], .nil], [], [])) (by kernel_rfl) (by kernel_rfl) (fun k hk => by cases hk) (by kernel_rfl) (laidMetH_of_parts (laidMet_nil _ _) (by kernel_rfl)))) ?_
  intro W base args ds gs before hval hW _ _ hsz hL _ _
  exact records_contract H enc W base args ds gs before hval hW hsz hL

theorem records_said : Rows.RecordsSaid :=
  OpenClaim.holds_of_cond 3 Tryd.f3 rfl rfl rfl rfl rfl rfl rfl ⟨rfl, rfl, rfl, rfl, rfl⟩ rfl rfl rfl rfl rfl (by kernel_rfl) Tryd.func3 (by kernel_rfl)
    (of_decide_eq_true (by kernel_rfl)) (by unfold Func.isWrapper; rw [if_neg (of_decide_eq_false (by kernel_rfl))]; exact ⟨rfl, rfl⟩)
    (fun os started H enc _ F => by rw [OpenClaim.pre_eq_preRow]; exact records_lifted os started H enc F)

theorem records_plain (f : FuncId) (fn : Func) (hf : Tryd.pinned.checked.prog.funcNamed "keydir/keydirlaw.Records" = some f) (hfn : Tryd.pinned.checked.prog.funcs[f]? = some fn) :
    true = Tryd.pinned.checked.prog.looks [] ∧ ∀ (j : Nat) t, fn.params[j]? = some t → Tryd.pinned.checked.prog.wantsStandIn t = false := by
  obtain rfl : f = 3 := Option.some.inj ((show Tryd.prog.funcNamed "keydir/keydirlaw.Records" = some 3 by kernel_rfl).symm.trans hf) |>.symm
  obtain rfl : fn = Tryd.f3 := (Option.some.inj (Tryd.func3.symm.trans hfn)).symm
  refine ⟨by kernel_rfl, fun j t ht => ?_⟩
  rw [Tryd.params3] at ht
  have hm : t = 24 ∨ t = 25 := by simpa using Array.mem_of_getElem? ht
  rcases hm with rfl | rfl
  · exact (show Tryd.prog.wantsStandIn 24 = false by kernel_rfl)
  · exact (show Tryd.prog.wantsStandIn 25 = false by kernel_rfl)

theorem records_card : Rows.RecordsCardSaid :=
  Claim7.holds_tied_plain_at .later [] _ _ _ _ records_said (fun _ h => by cases h) (by kernel_rfl) (fun _ h => by cases h) records_row_tie rfl ⟨rfl, rfl⟩ (by kernel_rfl) rfl records_plain (by kernel_rfl)
#print axioms records_card
end Go.Proofs.YtakjpgjcfecfiaaDoor
