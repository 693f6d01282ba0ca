import Derived.Test.YtakjpgjcfecfiaaDoorMan
import Derived.Test.YtakjpgjcfecfiaaDoorRecProofs
/- The row of Manifests, and its card. -/
namespace Go.Proofs.YtakjpgjcfecfiaaDoor
open Go.ChangeShapes Go.WideShapes Go.ChangeAt Go.RowKit Go.Joins

theorem Tryd.cells3 : Tryd.prog.cellsOf 3 = 1 := by kernel_rfl
theorem Tryd.bytes3 : Tryd.prog.bytesOf 3 = 8 := by kernel_rfl

/-- a slice of bytes that came in -/
theorem open_bytes {H : Type} {enc : TypeId × Value → H} {W : World} {a0 : Option Addr} {len cap : Nat} {d : DataW H} {ps : List MemPlace} (h : DataW.Trod enc Tryd.prog W 0 (fun _ => true) true 25 (.slice a0 len cap) d ps) :
    ∃ l : List UInt8, l.length = len ∧ len ≤ cap ∧ cap ≤ 9223372036854775807 ∧ Bs W a0 l ∧ (a0 = none → len = 0 ∧ cap = 0) ∧ (d = .nil ∨ ∃ e s, d = .slice e s ∧ e.length + s.length = cap) ∧ (d = .nil → len = 0) := by
  obtain ⟨fuel, hf⟩ := h
  rcases open_ints Tryd.underlying25 Tryd.underlying5 Tryd.cells8 hf with ⟨hcs, hx⟩ | ⟨a, len', cap', zs, hcs, _, hl, hm, hz, hx, hcell, hwz⟩
  · simp [Value.cells] at hcs
    obtain ⟨rfl, rfl, rfl⟩ := hcs
    simp only [Prod.mk.injEq] at hx
    exact ⟨[], rfl, by omega, by omega, fun i hi => by simp at hi, fun _ => ⟨rfl, rfl⟩, .inl hx.1, fun _ => rfl⟩
  · simp [Value.cells] at hcs
    obtain ⟨rfl, rfl, rfl⟩ := hcs
    simp only [Prod.mk.injEq] at hx
    obtain ⟨rfl, rfl⟩ := hx
    simp only [if_true] at hz
    obtain ⟨l, hll, hat⟩ := bytes_of zs hwz
    unfold maxLen at hm
    refine ⟨l.take len, by simp; omega, hl, by omega, ?_, fun e => (by cases e), .inr ⟨_, _, rfl, by simp [lits]; omega⟩, fun e => by cases e⟩
    intro i hi
    have hi2 : i < len := by simp at hi; omega
    obtain ⟨b, off, rfl, hc0⟩ := ints_at hcell (show 0 < zs.length by omega)
    refine ⟨b, off, rfl, ?_⟩
    have hc := hcell i (by omega)
    rw [hat i (by omega), Addr.add_lit] at hc
    rw [hc]
    congr 2
    simp [at8, hi2]
/-- a slice of numbers that came in -/
theorem open_numbers {H : Type} {enc : TypeId × Value → H} {W : World} {a0 : Option Addr} {len cap : Nat} {d : DataW H} {ps : List MemPlace} (h : DataW.Trod enc Tryd.prog W 0 (fun _ => true) true 42 (.slice a0 len cap) d ps) :
    ∃ z : List Int, z.length = len ∧ Is W a0 z ∧ (a0 = none → len = 0 ∧ cap = 0) ∧ (d = .nil ∨ ∃ e s, d = .slice e s ∧ e.length + s.length = cap) ∧ (d = .nil → len = 0) ∧ len ≤ cap := by
  obtain ⟨fuel, hf⟩ := h
  rcases open_ints Tryd.underlying42 Tryd.underlying3 Tryd.cells3 hf with ⟨hcs, hx⟩ | ⟨a, len', cap', zs, hcs, _, hl, hm, hz, hx, hcell, hwz⟩
  · simp [Value.cells] at hcs
    obtain ⟨rfl, rfl, rfl⟩ := hcs
    simp only [Prod.mk.injEq] at hx
    exact ⟨[], rfl, fun i hi => by simp at hi, fun _ => ⟨rfl, rfl⟩, .inl hx.1, fun _ => rfl, by omega⟩
  · simp [Value.cells] at hcs
    obtain ⟨rfl, rfl, rfl⟩ := hcs
    simp only [Prod.mk.injEq] at hx
    obtain ⟨rfl, rfl⟩ := hx
    simp only [if_true] at hz
    refine ⟨zs.take len, by simp; omega, ?_, fun e => (by cases e), .inr ⟨_, _, rfl, by simp [lits]; omega⟩, fun e => (by cases e), hl⟩
    intro i hi
    have hi2 : i < len := by simp at hi; omega
    obtain ⟨b, off, rfl, hc0⟩ := ints_at hcell (show 0 < zs.length by omega)
    refine ⟨b, off, rfl, ?_⟩
    rw [hc0 i (by omega)]
    congr 2
    simp [zat, hi2]

set_option maxRecDepth 100000 in
theorem manifests_contract (H : Type) (enc : TypeId × Value → H) (W : World) (base : Nat) (args : Array Value) (ds gs : List (DataW H)) (before : List MemPlace)
    (hval : ∀ (j : Nat) t v, Tryd.f4.params[j]? = some t → args[j]? = some v → Value.okWide Tryd.prog W .any base t v)
    (hW : DataW.Whole enc Tryd.prog Tryd.f4.params.toList Rows.manifestsSpec.vars false W args.toList ds gs before)
    (hsz0 : (DataW.weightsEach Tryd.prog [22, 42, 25] (ds ++ gs)).all (· ≤ reachBytes) = true)
    (hL : laidMetH Tryd.prog Rows.manifestsRow.laid W) :
    Calls Tryd.prog 4 args W fun e W' => ∃ v, e = .returned v ∧ Rows.manifestsSpec.post enc Tryd.prog Tryd.f4 false true false false W args v W' := by
  have hW' := hW
  obtain ⟨p, q, hA0, hV, rfl, hfz, hnd⟩ := hW
  have hA : DataW.TrodAll enc Tryd.prog W 0 (fun _ => true) true Tryd.f4.params.toList args.toList ds p := hA0
  have hlt := DataW.TrodAll.lt hA
  rw [Tryd.params4] at hA hval
  obtain ⟨v0, v1, v2, d0, d1, d2, p0, p1, p2, rfl, rfl, rfl, h0, h1, h2⟩ := trodAll_three hA
  obtain ⟨rfl, rfl⟩ := trodVars_none hV
  obtain ⟨gn, rfl, rfl, rfl, wgn⟩ := open_int Tryd.underlying22 (hval 0 22 v0 rfl rfl) h0
  have bgn := bounds_u64 wgn
  obtain ⟨gen, rfl⟩ := Int.eq_ofNat_of_zero_le bgn.1
  obtain ⟨ai, ni, ci, rfl⟩ := okWide_slice Tryd.underlying42 (hval 1 42 v1 rfl rfl)
  obtain ⟨a0, len, cap, rfl⟩ := okWide_slice Tryd.underlying25 (hval 2 25 v2 rfl rfl)
  have key : Calls Tryd.prog 4 #[.int .u64 (gen : Int), .slice ai ni ci, .slice a0 len cap] W fun e w' => e = .returned (.bool true) ∧ Below W.heap.size W w' := by
    obtain ⟨z, hzl, hzi, hznil, hzd, hzd0, hzc⟩ := open_numbers h1
    obtain ⟨l, hll, hlc, hlm, hlb, hlnil, hld, hld0⟩ := open_bytes h2
    have hni : ni ≤ 1000000000000000 := by
      rcases hzd with e | ⟨el, sp, rfl, hs⟩
      · have := hzd0 e; omega
      · have := sized_slice hsz0 (j := 1) (t := 42) (e := 3) rfl rfl Tryd.underlying42
        rw [Tryd.bytes3] at this
        unfold reachBytes at this; omega
    have hn : len ≤ 1000000000000000 := by
      rcases hld with e | ⟨el, sp, rfl, hs⟩
      · have := hld0 e; omega
      · have := sized_slice hsz0 (j := 2) (t := 25) (e := 5) rfl rfl Tryd.underlying25
        rw [Tryd.bytes8] at this
        unfold reachBytes at this; omega
    exact manifests_any gen (by omega) ai a0 ci ni cap len z l W (laid_of hL) hni hn hzl hzi hznil hll hlc hlm hlb hlnil
  refine key.mono fun e W' ⟨he, hb⟩ => ?_
  subst he
  have e1 : Rows.manifestsSpec.fn H ([.lit (.int .u64 (gen : Int)), d1, d2] ++ []) = { results := [.lit (.bool true)], args := [.lit (.int .u64 (gen : Int)), d1, d2] } := by simp [Rows.manifestsSpec]
  refine ⟨_, rfl, _, _, _, [], [] ++ (p1 ++ p2), [], hW', ?_, ?_, ?_, hb.frame _, fun h => by cases h⟩
  · rw [e1]; exact trodAll_mk1 (shut_bool Tryd.underlying4 true)
  · rw [e1]
    exact trodAll_mk3 (shut_int Tryd.underlying22 wgn) (Below.trod Tryd.laidOut (by kernel_rfl) (of_decide_eq_true (by kernel_rfl)) h1 hb (fun x hx => hlt x (by simp [hx]))) (Below.trod Tryd.laidOut (by kernel_rfl) (of_decide_eq_true (by kernel_rfl)) h2 hb (fun x hx => hlt x (by simp [hx])))
  · rw [e1]; rfl

set_option maxRecDepth 100000 in
theorem manifests_lifted (os : Os) (started : os.Started) (H : Type) (enc : TypeId × Value → H) (F : Stop.Interp) :
    ReturnsInHanded {} Tryd.checked os 4 .any ((OpenSpec.ofChange Rows.manifestsSpec).preRow enc Tryd.prog Tryd.f4 Rows.manifestsRow.domain false Rows.manifestsRow.laid) (((OpenSpec.ofChange Rows.manifestsSpec).at F).post enc Tryd.prog Tryd.f4 false true false false) := by
  refine returnsInHanded_of_row (C := Tryd.checked) (s := OpenSpec.ofChange Rows.manifestsSpec) Tryd.own started (by kernel_rfl) Tryd.func4
    (witness_row_at (enc := enc) (C := Tryd.checked) false
      { World.holding Tryd.prog os ⟨#[], #[], []⟩ with heap := (World.holding Tryd.prog os ⟨#[], #[], []⟩).heap.modify 0 fun
        | .cells _ t frozen => .cells #[.iface 87 (.agg #[.pointer (some ⟨1, 27, none⟩)])] t frozen
        | o => o }
      #[.int .u64 0, .slice none 0 0, .slice none 0 0] rfl (by kernel_rfl) (by kernel_rfl) (by kernel_rfl)
      (OpenSpec.preRow_of_cond 8 (x := ([.lit (.int .u64 0), .nil, .nil], [], [])) (by kernel_rfl) (by kernel_rfl) (fun k hk => by cases hk) (by kernel_rfl) (laidMetH_of_parts (laidMet_nil _ _) (by kernel_rfl)))) ?_
  intro W base args ds gs before hval hW _ _ hsz hL _ _
  exact manifests_contract H enc W base args ds gs before hval hW hsz hL

theorem manifests_said : Rows.ManifestsSaid :=
  OpenClaim.holds_of_cond 4 Tryd.f4 rfl rfl rfl rfl rfl rfl rfl ⟨rfl, rfl, rfl, rfl, rfl⟩ rfl rfl rfl rfl rfl (by kernel_rfl) Tryd.func4 (by kernel_rfl)
    (of_decide_eq_true (by kernel_rfl)) (by unfold Func.isWrapper; rw [if_neg (of_decide_eq_false (by kernel_rfl))]; exact ⟨rfl, rfl⟩)
    (fun os started H enc _ F => by rw [OpenClaim.pre_eq_preRow]; exact manifests_lifted os started H enc F)

theorem manifests_plain (f : FuncId) (fn : Func) (hf : Tryd.pinned.checked.prog.funcNamed "keydir/keydirlaw.Manifests" = some f) (hfn : Tryd.pinned.checked.prog.funcs[f]? = some fn) :
    true = Tryd.pinned.checked.prog.looks [] ∧ ∀ (j : Nat) t, fn.params[j]? = some t → Tryd.pinned.checked.prog.wantsStandIn t = false := by
  obtain rfl : f = 4 := Option.some.inj ((show Tryd.prog.funcNamed "keydir/keydirlaw.Manifests" = some 4 by kernel_rfl).symm.trans hf) |>.symm
  obtain rfl : fn = Tryd.f4 := (Option.some.inj (Tryd.func4.symm.trans hfn)).symm
  refine ⟨by kernel_rfl, fun j t ht => ?_⟩
  rw [Tryd.params4] at ht
  have hm : t = 22 ∨ t = 42 ∨ t = 25 := by simpa using Array.mem_of_getElem? ht
  rcases hm with rfl | rfl | rfl
  · exact (show Tryd.prog.wantsStandIn 22 = false by kernel_rfl)
  · exact (show Tryd.prog.wantsStandIn 42 = false by kernel_rfl)
  · exact (show Tryd.prog.wantsStandIn 25 = false by kernel_rfl)

theorem manifests_card : Rows.ManifestsCardSaid :=
  Claim7.holds_tied_plain_at .later [] _ _ _ _ manifests_said (fun _ h => by cases h) (by kernel_rfl) (fun _ h => by cases h) manifests_row_tie rfl ⟨rfl, rfl⟩ (by kernel_rfl) rfl manifests_plain (by kernel_rfl)
#print axioms manifests_card
end Go.Proofs.YtakjpgjcfecfiaaDoor
