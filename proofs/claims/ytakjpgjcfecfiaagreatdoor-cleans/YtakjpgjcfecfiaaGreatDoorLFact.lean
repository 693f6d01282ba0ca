import Derived.Test.YtakjpgjcfecfiaaGreatDoorRows
import Derived.JoinedOf
/- The closed facts of the row of Cleans, one by one. -/
namespace Go.Proofs.YtakjpgjcfecfiaaGreatDoor
theorem cf0 : (Rows.cleansRow.wf (OpenSpec.ofChange Rows.cleansSpec)) = true := by kernel_rfl
theorem cf1 : (laidOutB Tryz.prog) = true := by kernel_rfl
theorem cf2 : (mapsRowed Tryz.prog) = true := by kernel_rfl
theorem cf3 : (Tryz.f9.params.all (Tryz.prog.readableRec ·)) = true := by kernel_rfl
theorem cf4 : (namedTie Tryz.prog Rows.cleansRow.named Rows.cleansSpec.vars) = true := by kernel_rfl
theorem cf5 : ((Rows.cleansRow.stops == [])) = true := by kernel_rfl
theorem cf6 : ((Tryz.prog.stops == [])) = true := by kernel_rfl
theorem cf7 : ((Rows.cleansRow.knobs == [])) = true := by kernel_rfl
theorem cf8 : ((Tryz.prog.stopKnobs == [])) = true := by kernel_rfl
theorem cf9 : ((Rows.cleansRow.inPlace == Tryz.prog.inPlace 9)) = true := by kernel_rfl
theorem cf10 : ((Rows.cleansRow.unfollowed == Tryz.prog.unfollowed 9)) = true := by kernel_rfl
theorem cf11 : ((Rows.cleansRow.recurses == Tryz.prog.recurses 9)) = true := by kernel_rfl
theorem cf12 : ((Rows.cleansRow.named == Tryz.prog.varsNamed 9)) = true := by kernel_rfl
theorem cf13 : ((Rows.cleansRow.maps == (Tryz.f9.params.toList ++ Rows.cleansSpec.plain.varTypes Tryz.prog).any (Tryz.prog.mapsRec ·))) = true := by kernel_rfl
theorem cf14 : ((Rows.cleansRow.ifaces == (Tryz.f9.params.toList ++ Rows.cleansSpec.plain.varTypes Tryz.prog).any (Tryz.prog.ifacesRec ·))) = true := by kernel_rfl
theorem cf15 : ((Rows.cleansRow.mapsOut == Tryz.prog.mapsAmong Tryz.f9.resultTypes.toList)) = true := by kernel_rfl
theorem cf16 : ((Rows.cleansRow.loops == (Tryz.f9.params.toList ++ Rows.cleansSpec.plain.varTypes Tryz.prog).any (Tryz.prog.loopsFrom ·))) = true := by kernel_rfl
theorem cf17 : ((Rows.cleansRow.wideKeys == (Tryz.f9.params.toList ++ Rows.cleansSpec.plain.varTypes Tryz.prog ++ Tryz.f9.resultTypes.toList).any (Tryz.prog.wideKeysFrom ·))) = true := by kernel_rfl
theorem cf18 : (Rows.cleansSpec.vars.all (Tryz.prog.varReadable ·)) = true := by kernel_rfl
theorem cf19 : (Tryz.f9.resultTypes.all (fun t => Tryz.prog.readableRec t && decide (t < Tryz.prog.types.size))) = true := by kernel_rfl
theorem cf20 : ((Rows.cleansRow.ifacesOut == Tryz.f9.resultTypes.toList.any (Tryz.prog.ifacesRec ·))) = true := by kernel_rfl
theorem cf21 : ((Rows.cleansRow.loopsOut == Tryz.f9.resultTypes.toList.any (Tryz.prog.loopsFrom ·))) = true := by kernel_rfl
theorem cf22 : ((Rows.cleansRow.plainKeys == Tryz.prog.plainKeys)) = true := by kernel_rfl
theorem cf23 : (Rows.cleansRow.shortTexts.isNone) = true := by kernel_rfl
theorem cf24 : (Tryz.prog.stopsHeard) = true := by kernel_rfl
theorem cf25 : (Tryz.prog.mayEnter) = true := by kernel_rfl
theorem cf26 : ((Rows.cleansRow.lifted == Tryz.prog.liftsFinal)) = true := by kernel_rfl
theorem cf27 : ((Tryz.prog.make == some Rows.cleansRow.make)) = true := by kernel_rfl
theorem cf28 : ((Rows.cleansRow.kinds == (if Rows.cleansRow.domain.isEmpty then [] else Tryz.f9.params.toList.map fun t => match Tryz.prog.underlying t with | some (.int k) => some k | _ => none))) = true := by kernel_rfl
theorem cf29 : ((Rows.cleansRow.pinned == Rows.cleansRow.pinnedBy)) = true := by kernel_rfl
theorem cf30 : ((Rows.cleansRow.veiled == (Tryz.f9.params.toList ++ Rows.cleansSpec.plain.varTypes Tryz.prog ++ Tryz.f9.resultTypes.toList).any (Tryz.prog.veiledRec ·))) = true := by kernel_rfl
theorem cf31 : (Rows.cleansRow.veiledFits Tryz.prog Tryz.f9.params.toList (Tryz.f9.params.toList ++ Rows.cleansSpec.plain.varTypes Tryz.prog ++ Tryz.f9.resultTypes.toList)) = true := by kernel_rfl
end Go.Proofs.YtakjpgjcfecfiaaGreatDoor
