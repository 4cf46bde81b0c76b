/-
  The closed facts of the row of FnExactErase, one by one.
-/
import Derived.Test.YtkhgafmhbibikaaDoorRows
import Derived.JoinedOf
import Derived.KernelRfl
namespace Go.Proofs.YtkhgafmhbibikaaDoor.fnExactErase
theorem and_tt {a b : Bool} (h : a = true) (k : b = true) : (a && b) = true := by rw [h, k]; rfl
theorem cl0 : (Rows.fnExactEraseRow.wf (OpenSpec.ofChange Rows.fnExactEraseSpec)) = true := by kernel_rfl
theorem cl1 : (laidOutB Tryd.pinned.checked.prog) = true := by kernel_rfl
theorem cl2 : (mapsRowed Tryd.pinned.checked.prog) = true := by kernel_rfl
theorem cl3 : (Tryd.f4.params.all (Tryd.pinned.checked.prog.readableRec ·)) = true := by kernel_rfl
theorem cl4 : (namedTie Tryd.pinned.checked.prog Rows.fnExactEraseRow.named Rows.fnExactEraseSpec.vars) = true := by kernel_rfl
theorem cl5 : ((Rows.fnExactEraseRow.stops == [])) = true := by kernel_rfl
theorem cl6 : ((Tryd.pinned.checked.prog.stops == [])) = true := by kernel_rfl
theorem cl7 : ((Rows.fnExactEraseRow.knobs == [])) = true := by kernel_rfl
theorem cl8 : ((Tryd.pinned.checked.prog.stopKnobs == [])) = true := by kernel_rfl
theorem cl9 : ((Rows.fnExactEraseRow.inPlace == Tryd.pinned.checked.prog.inPlace 4)) = true := by kernel_rfl
theorem cl10 : ((Rows.fnExactEraseRow.unfollowed == Tryd.pinned.checked.prog.unfollowed 4)) = true := by kernel_rfl
theorem cl11 : ((Rows.fnExactEraseRow.recurses == Tryd.pinned.checked.prog.recurses 4)) = true := by kernel_rfl
theorem cl12 : ((Rows.fnExactEraseRow.named == Tryd.pinned.checked.prog.varsNamed 4)) = true := by kernel_rfl
theorem cl13 : ((Rows.fnExactEraseRow.maps == (Tryd.f4.params.toList ++ Rows.fnExactEraseSpec.plain.varTypes Tryd.pinned.checked.prog).any (Tryd.pinned.checked.prog.mapsRec ·))) = true := by kernel_rfl
theorem cl14 : ((Rows.fnExactEraseRow.ifaces == (Tryd.f4.params.toList ++ Rows.fnExactEraseSpec.plain.varTypes Tryd.pinned.checked.prog).any (Tryd.pinned.checked.prog.ifacesRec ·))) = true := by kernel_rfl
theorem cl15 : ((Rows.fnExactEraseRow.mapsOut == Tryd.pinned.checked.prog.mapsAmong Tryd.f4.resultTypes.toList)) = true := by kernel_rfl
theorem cl16 : ((Rows.fnExactEraseRow.loops == (Tryd.f4.params.toList ++ Rows.fnExactEraseSpec.plain.varTypes Tryd.pinned.checked.prog).any (Tryd.pinned.checked.prog.loopsFrom ·))) = true := by kernel_rfl
theorem cl17 : ((Rows.fnExactEraseRow.wideKeys == (Tryd.f4.params.toList ++ Rows.fnExactEraseSpec.plain.varTypes Tryd.pinned.checked.prog ++ Tryd.f4.resultTypes.toList).any (Tryd.pinned.checked.prog.wideKeysFrom ·))) = true := by kernel_rfl
theorem cl18 : (Rows.fnExactEraseSpec.vars.all (Tryd.pinned.checked.prog.varReadable ·)) = true := by kernel_rfl
theorem cl19 : (Tryd.f4.resultTypes.all (fun t => Tryd.pinned.checked.prog.readableRec t && decide (t < Tryd.pinned.checked.prog.types.size))) = true := by kernel_rfl
theorem cl20 : ((Rows.fnExactEraseRow.ifacesOut == Tryd.f4.resultTypes.toList.any (Tryd.pinned.checked.prog.ifacesRec ·))) = true := by kernel_rfl
theorem cl21 : ((Rows.fnExactEraseRow.loopsOut == Tryd.f4.resultTypes.toList.any (Tryd.pinned.checked.prog.loopsFrom ·))) = true := by kernel_rfl
theorem cl22 : ((Rows.fnExactEraseRow.plainKeys == Tryd.pinned.checked.prog.plainKeys)) = true := by kernel_rfl
theorem cl23 : (Rows.fnExactEraseRow.shortTexts.isNone) = true := by kernel_rfl
theorem cl24 : (Tryd.pinned.checked.prog.stopsHeard) = true := by kernel_rfl
theorem cl25 : (Tryd.pinned.checked.prog.mayEnter) = true := by kernel_rfl
theorem cl26 : ((Rows.fnExactEraseRow.lifted == Tryd.pinned.checked.prog.liftsFinal)) = true := by kernel_rfl
theorem cl27 : ((Tryd.pinned.checked.prog.make == some Rows.fnExactEraseRow.make)) = true := by kernel_rfl
theorem cl28 : ((Rows.fnExactEraseRow.kinds == (if Rows.fnExactEraseRow.domain.isEmpty then [] else Tryd.f4.params.toList.map fun t => match Tryd.pinned.checked.prog.underlying t with | some (.int k) => some k | _ => none))) = true := by kernel_rfl
theorem cl29 : ((Rows.fnExactEraseRow.pinned == Rows.fnExactEraseRow.pinnedBy)) = true := by kernel_rfl
theorem cl30 : ((Rows.fnExactEraseRow.veiled == (Tryd.f4.params.toList ++ Rows.fnExactEraseSpec.plain.varTypes Tryd.pinned.checked.prog ++ Tryd.f4.resultTypes.toList).any (Tryd.pinned.checked.prog.veiledRec ·))) = true := by kernel_rfl
theorem cl31 : (Rows.fnExactEraseRow.veiledFits Tryd.pinned.checked.prog Tryd.f4.params.toList (Tryd.f4.params.toList ++ Rows.fnExactEraseSpec.plain.varTypes Tryd.pinned.checked.prog ++ Tryd.f4.resultTypes.toList)) = true := by kernel_rfl
set_option maxRecDepth 100000 in
theorem closed : joinedFacts Tryd.pinned.checked.prog 4 Tryd.f4 Rows.fnExactEraseSpec Rows.fnExactEraseRow = true := by
  unfold joinedFacts
  exact (and_tt (and_tt (and_tt (and_tt (and_tt (and_tt (and_tt (and_tt (and_tt (and_tt (and_tt (and_tt (and_tt (and_tt (and_tt (and_tt (and_tt (and_tt (and_tt (and_tt (and_tt (and_tt (and_tt (and_tt (and_tt (and_tt (and_tt (and_tt (and_tt (and_tt (and_tt cl0 cl1) cl2) cl3) cl4) cl5) cl6) cl7) cl8) cl9) cl10) cl11) cl12) cl13) cl14) cl15) cl16) cl17) cl18) cl19) cl20) cl21) cl22) cl23) cl24) cl25) cl26) cl27) cl28) cl29) cl30) cl31)
end Go.Proofs.YtkhgafmhbibikaaDoor.fnExactErase
