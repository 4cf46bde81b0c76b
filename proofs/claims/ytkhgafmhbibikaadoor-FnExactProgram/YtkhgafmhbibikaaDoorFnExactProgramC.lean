/-
  The closed facts of the row of FnExactProgram, one by one.
-/
import Derived.Test.YtkhgafmhbibikaaDoorRows
import Derived.JoinedOf
import Derived.KernelRfl
namespace Go.Proofs.YtkhgafmhbibikaaDoor.fnExactProgram
theorem and_tt {a b : Bool} (h : a = true) (k : b = true) : (a && b) = true := by rw [h, k]; rfl
theorem cl0 : (Rows.fnExactProgramRow.wf (OpenSpec.ofChange Rows.fnExactProgramSpec)) = true := by kernel_rfl
theorem cl1 : (laidOutB Tryd.pinned.checked.prog) = true := by kernel_rfl
theorem cl2 : (mapsRowed Tryd.pinned.checked.prog) = true := by kernel_rfl
theorem cl3 : (Tryd.f3.params.all (Tryd.pinned.checked.prog.readableRec ·)) = true := by kernel_rfl
theorem cl4 : (namedTie Tryd.pinned.checked.prog Rows.fnExactProgramRow.named Rows.fnExactProgramSpec.vars) = true := by kernel_rfl
theorem cl5 : ((Rows.fnExactProgramRow.stops == [])) = true := by kernel_rfl
theorem cl6 : ((Tryd.pinned.checked.prog.stops == [])) = true := by kernel_rfl
theorem cl7 : ((Rows.fnExactProgramRow.knobs == [])) = true := by kernel_rfl
theorem cl8 : ((Tryd.pinned.checked.prog.stopKnobs == [])) = true := by kernel_rfl
theorem cl9 : ((Rows.fnExactProgramRow.inPlace == Tryd.pinned.checked.prog.inPlace 3)) = true := by kernel_rfl
theorem cl10 : ((Rows.fnExactProgramRow.unfollowed == Tryd.pinned.checked.prog.unfollowed 3)) = true := by kernel_rfl
theorem cl11 : ((Rows.fnExactProgramRow.recurses == Tryd.pinned.checked.prog.recurses 3)) = true := by kernel_rfl
theorem cl12 : ((Rows.fnExactProgramRow.named == Tryd.pinned.checked.prog.varsNamed 3)) = true := by kernel_rfl
theorem cl13 : ((Rows.fnExactProgramRow.maps == (Tryd.f3.params.toList ++ Rows.fnExactProgramSpec.plain.varTypes Tryd.pinned.checked.prog).any (Tryd.pinned.checked.prog.mapsRec ·))) = true := by kernel_rfl
theorem cl14 : ((Rows.fnExactProgramRow.ifaces == (Tryd.f3.params.toList ++ Rows.fnExactProgramSpec.plain.varTypes Tryd.pinned.checked.prog).any (Tryd.pinned.checked.prog.ifacesRec ·))) = true := by kernel_rfl
theorem cl15 : ((Rows.fnExactProgramRow.mapsOut == Tryd.pinned.checked.prog.mapsAmong Tryd.f3.resultTypes.toList)) = true := by kernel_rfl
theorem cl16 : ((Rows.fnExactProgramRow.loops == (Tryd.f3.params.toList ++ Rows.fnExactProgramSpec.plain.varTypes Tryd.pinned.checked.prog).any (Tryd.pinned.checked.prog.loopsFrom ·))) = true := by kernel_rfl
theorem cl17 : ((Rows.fnExactProgramRow.wideKeys == (Tryd.f3.params.toList ++ Rows.fnExactProgramSpec.plain.varTypes Tryd.pinned.checked.prog ++ Tryd.f3.resultTypes.toList).any (Tryd.pinned.checked.prog.wideKeysFrom ·))) = true := by kernel_rfl
theorem cl18 : (Rows.fnExactProgramSpec.vars.all (Tryd.pinned.checked.prog.varReadable ·)) = true := by kernel_rfl
theorem cl19 : (Tryd.f3.resultTypes.all (fun t => Tryd.pinned.checked.prog.readableRec t && decide (t < Tryd.pinned.checked.prog.types.size))) = true := by kernel_rfl
theorem cl20 : ((Rows.fnExactProgramRow.ifacesOut == Tryd.f3.resultTypes.toList.any (Tryd.pinned.checked.prog.ifacesRec ·))) = true := by kernel_rfl
theorem cl21 : ((Rows.fnExactProgramRow.loopsOut == Tryd.f3.resultTypes.toList.any (Tryd.pinned.checked.prog.loopsFrom ·))) = true := by kernel_rfl
theorem cl22 : ((Rows.fnExactProgramRow.plainKeys == Tryd.pinned.checked.prog.plainKeys)) = true := by kernel_rfl
theorem cl23 : (Rows.fnExactProgramRow.shortTexts.isNone) = true := by kernel_rfl
theorem cl24 : (Tryd.pinned.checked.prog.stopsHeard) = true := by kernel_rfl
theorem cl25 : (Tryd.pinned.checked.prog.mayEnter) = true := by kernel_rfl
theorem cl26 : ((Rows.fnExactProgramRow.lifted == Tryd.pinned.checked.prog.liftsFinal)) = true := by kernel_rfl
theorem cl27 : ((Tryd.pinned.checked.prog.make == some Rows.fnExactProgramRow.make)) = true := by kernel_rfl
theorem cl28 : ((Rows.fnExactProgramRow.kinds == (if Rows.fnExactProgramRow.domain.isEmpty then [] else Tryd.f3.params.toList.map fun t => match Tryd.pinned.checked.prog.underlying t with | some (.int k) => some k | _ => none))) = true := by kernel_rfl
theorem cl29 : ((Rows.fnExactProgramRow.pinned == Rows.fnExactProgramRow.pinnedBy)) = true := by kernel_rfl
theorem cl30 : ((Rows.fnExactProgramRow.veiled == (Tryd.f3.params.toList ++ Rows.fnExactProgramSpec.plain.varTypes Tryd.pinned.checked.prog ++ Tryd.f3.resultTypes.toList).any (Tryd.pinned.checked.prog.veiledRec ·))) = true := by kernel_rfl
theorem cl31 : (Rows.fnExactProgramRow.veiledFits Tryd.pinned.checked.prog Tryd.f3.params.toList (Tryd.f3.params.toList ++ Rows.fnExactProgramSpec.plain.varTypes Tryd.pinned.checked.prog ++ Tryd.f3.resultTypes.toList)) = true := by kernel_rfl
set_option maxRecDepth 100000 in
theorem closed : joinedFacts Tryd.pinned.checked.prog 3 Tryd.f3 Rows.fnExactProgramSpec Rows.fnExactProgramRow = true := by
  unfold joinedFacts
  exact (and_tt (and_tt (and_tt (and_tt (and_tt (and_tt (and_tt (and_tt (and_tt (and_tt (and_tt (and_tt (and_tt (and_tt (and_tt (and_tt (and_tt (and_tt (and_tt (and_tt (and_tt (and_tt (and_tt (and_tt (and_tt (and_tt (and_tt (and_tt (and_tt (and_tt (and_tt cl0 cl1) cl2) cl3) cl4) cl5) cl6) cl7) cl8) cl9) cl10) cl11) cl12) cl13) cl14) cl15) cl16) cl17) cl18) cl19) cl20) cl21) cl22) cl23) cl24) cl25) cl26) cl27) cl28) cl29) cl30) cl31)
end Go.Proofs.YtkhgafmhbibikaaDoor.fnExactProgram
