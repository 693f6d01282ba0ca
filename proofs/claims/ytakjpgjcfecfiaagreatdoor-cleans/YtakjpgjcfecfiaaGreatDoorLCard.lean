import Derived.Test.YtakjpgjcfecfiaaGreatDoorRows
import Derived.Test.YtakjpgjcfecfiaaGreatDoorCards
import Derived.Test.YtakjpgjcfecfiaaGreatDoorTie
import Derived.Test.YtakjpgjcfecfiaaGreatDoorLTop
import Derived.Test.YtakjpgjcfecfiaaGreatDoorLOpen
import Derived.ProofKit
import Derived.OpenShut
import Derived.Lib.SmallJoins
import Derived.Lib.LaidTab
import Derived.SizedLaws
import Derived.LaidLaws
import Derived.LaidHandle
import Derived.Stop.LaidErr
import Derived.Deep.DeepHandedRow
import Derived.Deep.DeepLaidRun
/- The row of Cleans, and its card, from what Clean does. -/
namespace Go.Proofs.YtakjpgjcfecfiaaGreatDoor
open Go.ChangeShapes Go.WideShapes Go.ChangeAt Go.RowKit Go.Joins

theorem Tryz.own : ownKnob Tryz.prog.godebug = none := by kernel_rfl
theorem Tryz.laidOut : laidOutB Tryz.prog = true := by kernel_rfl
theorem Tryz.et : Tryz.prog.globalNamed "errors.errorType" = some 0 := by kernel_rfl
theorem Tryz.rt : (Tryz.prog.cutTypes.find? (·.1 == "internal/reflectlite.rtype")).map (·.2) = some 267 := by kernel_rfl
theorem Tryz.oneRow : ((List.range 426).filter fun t => Tryz.prog.rowNamed t [101, 114, 114, 111, 114]) = [40] := by kernel_rfl
theorem Tryz.tsize : Tryz.prog.types.size = 426 := by kernel_rfl
theorem Tryz.cDir : Tryz.prog.cellsOf 27 = 6 := by kernel_rfl

/-- the tables of the row's list -/
abbrev cleansTabs : List (String × DataW Unit) := [("math/bits.deBruijn32tab", Rows.laid_math_bits_deBruijn32tab), ("math/bits.deBruijn64tab", Rows.laid_math_bits_deBruijn64tab), ("internal/strconv.uint64pow10", Rows.laid_internal_strconv_uint64pow10), ("unicode/utf8.acceptRanges", Rows.laid_unicode_utf8_acceptRanges), ("unicode/utf8.first", Rows.laid_unicode_utf8_first)]
theorem cleans_parts {W : World} (h : laidMetH Tryz.prog Rows.cleansRow.laid W) : laidMet Tryz.prog cleansTabs W ∧ handlesMet Tryz.prog [("errors.errorType", Rows.laid_errors_errorType)] W := h
theorem cleans_laid {W : World} (h : laidMetH Tryz.prog Rows.cleansRow.laid W) : Laid W := by
  obtain ⟨name, u, ty, e1, e2, e3, e4, e5⟩ := (cleans_parts h).2 _ (List.mem_singleton.2 rfl)
  have en : name = [101, 114, 114, 111, 114] := (Option.some.inj e1).symm
  subst en
  obtain rfl := Option.some.inj (Tryz.rt.symm.trans e2)
  have hm : ty ∈ (List.range 426).filter fun t => Tryz.prog.rowNamed t [101, 114, 114, 111, 114] := List.mem_filter.2 ⟨List.mem_range.2 (by rw [← Tryz.tsize]; exact e3), e4⟩
  rw [Tryz.oneRow] at hm
  obtain rfl := List.mem_singleton.1 hm
  have hh : typeHandle Tryz.prog 40 = .pointer (some ⟨7, 40, none⟩) := by kernel_rfl
  rw [hh] at e5
  have h5 := World.var?_cell Tryz.et e5 0
  unfold Laid
  simpa using h5
theorem cleans_tab {W : World} (h : laidMetH Tryz.prog Rows.cleansRow.laid W) : Tab W := by
  have h1 : laidMet Tryz.prog [("internal/strconv.uint64pow10", Rows.laid_internal_strconv_uint64pow10), ("unicode/utf8.acceptRanges", Rows.laid_unicode_utf8_acceptRanges), ("unicode/utf8.first", Rows.laid_unicode_utf8_first)] W := (cleans_parts h).1.tail.tail
  have e : (Rows.laid_internal_strconv_uint64pow10 : DataW Unit) = Lib.tabData .u64 Lib.pow10Tab := by kernel_rfl
  rw [e] at h1
  exact Lib.tabIs_of_head (t := 372) (e := 24) (n := 20) Tryz.gpow (by kernel_rfl) Tryz.underlying372 Tryz.underlying24 (by kernel_rfl) (by kernel_rfl) h1

theorem array6 {cs : Array Value} (h : cs.size = 6) : ∃ a b c d e f, cs = #[a, b, c, d, e, f] := by
  obtain ⟨l⟩ := cs
  match l, h with
  | [a, b, c, d, e, f], _ => exact ⟨a, b, c, d, e, f, rfl⟩

set_option maxRecDepth 100000 in
theorem cleans_contract (hC : CleanSpec) (H : Type) (enc : TypeId × Value → H) (W : World) (base : Nat) (args : Array Value) (ds gs : List (DataW H)) (before : List MemPlace)
    (hval : ∀ (j : Nat) t v, Tryz.f9.params[j]? = some t → args[j]? = some v → Value.okWide Tryz.prog W .any base t v)
    (hW : DataW.Whole enc Tryz.prog Tryz.f9.params.toList Rows.cleansSpec.vars false W args.toList ds gs before)
    (hsz0 : (DataW.weightsEach Tryz.prog [27, 63, 63] (ds ++ gs)).all (· ≤ reachBytes) = true)
    (hL : laidMetH Tryz.prog Rows.cleansRow.laid W) :
    Calls Tryz.prog 9 args W fun e W' => ∃ v, e = .returned v ∧ Rows.cleansSpec.post enc Tryz.prog Tryz.f9 false true false false W args v W' := by
  have hW' := hW
  obtain ⟨p, q, hA0, hV, rfl, hfz, hnd⟩ := hW
  have hA : DataW.TrodAll enc Tryz.prog W 0 (fun _ => true) true Tryz.f9.params.toList args.toList ds p := hA0
  have hlt := DataW.TrodAll.lt hA
  rw [Tryz.params9] at hA hval
  obtain ⟨v0, v1, v2, d0, d1, d2, p0, p1, p2, rfl, rfl, rfl, h0, h1, h2⟩ := trodAll_three hA
  obtain ⟨rfl, rfl⟩ := trodVars_none hV
  obtain ⟨gn, rfl, rfl, rfl, wgn⟩ := open_int Tryz.underlying63 (hval 1 63 v1 rfl rfl) h1
  obtain ⟨tn, rfl, rfl, rfl, wtn⟩ := open_int Tryz.underlying63 (hval 2 63 v2 rfl rfl) h2
  have bgn := bounds_u64 wgn
  have btn := bounds_u64 wtn
  obtain ⟨dir, rfl⟩ := Int.eq_ofNat_of_zero_le bgn.1
  obtain ⟨tail, rfl⟩ := Int.eq_ofNat_of_zero_le btn.1
  obtain ⟨cs0, rfl, hsz⟩ := okWide_struct Tryz.underlying27 (hval 0 27 v0 rfl rfl)
  have key : Calls Tryz.prog 9 #[.agg cs0, .int .u64 (dir : Int), .int .u64 (tail : Int)] W fun e w' => e = .returned (.bool true) ∧ Below W.heap.size W w' := by
    rw [Tryz.cDir] at hsz
    obtain ⟨c0, c1, c2, c3, c4, c5, rfl⟩ := array6 hsz
    have hwt : Wt 27 d0 := fun n hn => of_decide_eq_true (List.all_eq_true.1 hsz0 n (DataW.weights_mem_each (j := 0) rfl rfl n hn))
    obtain ⟨fuel, hf⟩ := h0
    obtain ⟨dd, n', hd, hlen, hfl⟩ := elem_fields Tryz.underlying27 (by kernel_rfl) Tryz.cDir hf
    simp only at hd
    rw [hd] at hwt
    obtain ⟨y0, t0, g0⟩ := hfl 0 _ rfl
    obtain ⟨y1, t1, g1⟩ := hfl 1 _ rfl
    obtain ⟨y2, t2, g2⟩ := hfl 2 _ rfl
    obtain ⟨y3, t3, g3⟩ := hfl 3 _ rfl
    obtain ⟨y4, t4, g4⟩ := hfl 4 _ rfl
    obtain ⟨y5, t5, g5⟩ := hfl 5 _ rfl
    obtain ⟨sa, ns, cs, e0, hns, hsegs⟩ := open_segs t0 (wt_field hwt Tryz.underlying27 0 rfl g0)
    obtain ⟨oa, no, co, e1, hno, hoths⟩ := open_oths t1 (wt_field hwt Tryz.underlying27 1 rfl g1)
    obtain ⟨gz, e2, _, wgz⟩ := DataW.trod_int Tryz.underlying24 t2
    obtain ⟨pa, np, cp, e3, hby⟩ := open_bytesAt t3 (wt_field hwt Tryz.underlying27 3 rfl g3)
    obtain ⟨wh, e4, _⟩ := DataW.trod_bool Tryz.underlying4 t4
    obtain ⟨wo, e5, _⟩ := DataW.trod_bool Tryz.underlying4 t5
    have bgz := bounds_u64 wgz
    obtain ⟨gen, rfl⟩ := Int.eq_ofNat_of_zero_le bgz.1
    simp [Value.cells] at e0 e1 e2 e3 e4 e5
    subst e0 e1 e2 e3 e4 e5
    exact cleans_any hC W sa ns cs oa no co gen pa np cp wh wo dir tail (cleans_laid hL) (cleans_tab hL) (by omega) hns hno hsegs hoths hby
  refine key.mono fun e W' ⟨he, hb⟩ => ?_
  subst he
  have e1 : Rows.cleansSpec.fn H ([d0, .lit (.int .u64 (dir : Int)), .lit (.int .u64 (tail : Int))] ++ []) = { results := [.lit (.bool true)], args := [d0, .lit (.int .u64 (dir : Int)), .lit (.int .u64 (tail : Int))] } := by simp [Rows.cleansSpec]
  refine ⟨_, rfl, _, _, _, [], p0 ++ ([] ++ []), [], hW', ?_, ?_, ?_, hb.frame _, fun h => by cases h⟩
  · rw [e1]; exact trodAll_mk1 (shut_bool Tryz.underlying4 true)
  · rw [e1]
    exact trodAll_mk3 (Below.trod Tryz.laidOut (by kernel_rfl) (of_decide_eq_true (by kernel_rfl)) h0 hb (fun x hx => hlt x (by simp [hx]))) (shut_int Tryz.underlying63 wgn) (shut_int Tryz.underlying63 wtn)
  · rw [e1]; rfl
end Go.Proofs.YtakjpgjcfecfiaaGreatDoor
