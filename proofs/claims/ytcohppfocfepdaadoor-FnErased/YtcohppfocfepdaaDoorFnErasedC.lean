/-
  The closed facts of the row of FnErased, one by one.
-/
import Derived.Test.YtcohppfocfepdaaDoorRows
import Derived.JoinedOf
import Derived.KernelRfl
namespace Go.Proofs.YtcohppfocfepdaaDoor.fnErased
theorem and_tt {a b : Bool} (h : a = true) (k : b = true) : (a && b) = true := by rw [h, k]; rfl
theorem cl0 : (Rows.fnErasedRow.wf (OpenSpec.ofChange Rows.fnErasedSpec)) = true := by kernel_rfl
theorem cl1 : (laidOutB Tryd.pinned.checked.prog) = true := by kernel_rfl
theorem cl2 : (mapsRowed Tryd.pinned.checked.prog) = true := by kernel_rfl
theorem cl3 : (Tryd.f3.params.all (Tryd.pinned.checked.prog.readableRec ·)) = true := by kernel_rfl
theorem cl4 : (namedTie Tryd.pinned.checked.prog Rows.fnErasedRow.named Rows.fnErasedSpec.vars) = true := by kernel_rfl
theorem cl5 : ((Rows.fnErasedRow.stops == [])) = true := by kernel_rfl
theorem cl6 : ((Tryd.pinned.checked.prog.stops == [])) = true := by kernel_rfl
theorem cl7 : ((Rows.fnErasedRow.knobs == [])) = true := by kernel_rfl
theorem cl8 : ((Tryd.pinned.checked.prog.stopKnobs == [])) = true := by kernel_rfl
theorem cl9 : ((Rows.fnErasedRow.inPlace == Tryd.pinned.checked.prog.inPlace 3)) = true := by kernel_rfl
theorem cl10 : ((Rows.fnErasedRow.unfollowed == Tryd.pinned.checked.prog.unfollowed 3)) = true := by kernel_rfl
theorem cl11 : ((Rows.fnErasedRow.recurses == Tryd.pinned.checked.prog.recurses 3)) = true := by kernel_rfl
theorem cl12 : ((Rows.fnErasedRow.named == Tryd.pinned.checked.prog.varsNamed 3)) = true := by kernel_rfl
theorem cl13 : ((Rows.fnErasedRow.maps == (Tryd.f3.params.toList ++ Rows.fnErasedSpec.plain.varTypes Tryd.pinned.checked.prog).any (Tryd.pinned.checked.prog.mapsRec ·))) = true := by kernel_rfl
theorem cl14 : ((Rows.fnErasedRow.ifaces == (Tryd.f3.params.toList ++ Rows.fnErasedSpec.plain.varTypes Tryd.pinned.checked.prog).any (Tryd.pinned.checked.prog.ifacesRec ·))) = true := by kernel_rfl
theorem cl15 : ((Rows.fnErasedRow.mapsOut == Tryd.pinned.checked.prog.mapsAmong Tryd.f3.resultTypes.toList)) = true := by kernel_rfl
theorem cl16 : ((Rows.fnErasedRow.loops == (Tryd.f3.params.toList ++ Rows.fnErasedSpec.plain.varTypes Tryd.pinned.checked.prog).any (Tryd.pinned.checked.prog.loopsFrom ·))) = true := by kernel_rfl
theorem cl17 : ((Rows.fnErasedRow.wideKeys == (Tryd.f3.params.toList ++ Rows.fnErasedSpec.plain.varTypes Tryd.pinned.checked.prog ++ Tryd.f3.resultTypes.toList).any (Tryd.pinned.checked.prog.wideKeysFrom ·))) = true := by kernel_rfl
theorem cl18 : (Rows.fnErasedSpec.vars.all (Tryd.pinned.checked.prog.varReadable ·)) = true := by kernel_rfl
theorem cl19 : (Tryd.f3.resultTypes.all (fun t => Tryd.pinned.checked.prog.readableRec t && decide (t < Tryd.pinned.checked.prog.types.size))) = true := by kernel_rfl
theorem cl20 : ((Rows.fnErasedRow.ifacesOut == Tryd.f3.resultTypes.toList.any (Tryd.pinned.checked.prog.ifacesRec ·))) = true := by kernel_rfl
theorem cl21 : ((Rows.fnErasedRow.loopsOut == Tryd.f3.resultTypes.toList.any (Tryd.pinned.checked.prog.loopsFrom ·))) = true := by kernel_rfl
theorem cl22 : ((Rows.fnErasedRow.plainKeys == Tryd.pinned.checked.prog.plainKeys)) = true := by kernel_rfl
theorem cl23 : (Rows.fnErasedRow.shortTexts.isNone) = true := by kernel_rfl
theorem cl24 : (Tryd.pinned.checked.prog.stopsHeard) = true := by kernel_rfl
theorem cl25 : (Tryd.pinned.checked.prog.mayEnter) = true := by kernel_rfl
theorem cl26 : ((Rows.fnErasedRow.lifted == Tryd.pinned.checked.prog.liftsFinal)) = true := by kernel_rfl
theorem cl27 : ((Tryd.pinned.checked.prog.make == some Rows.fnErasedRow.make)) = true := by kernel_rfl
theorem cl28 : ((Rows.fnErasedRow.kinds == (if Rows.fnErasedRow.domain.isEmpty then [] else Tryd.f3.params.toList.map fun t => match Tryd.pinned.checked.prog.underlying t with | some (.int k) => some k | _ => none))) = true := by kernel_rfl
theorem cl29 : ((Rows.fnErasedRow.pinned == Rows.fnErasedRow.pinnedBy)) = true := by kernel_rfl
theorem cl30 : ((Rows.fnErasedRow.veiled == (Tryd.f3.params.toList ++ Rows.fnErasedSpec.plain.varTypes Tryd.pinned.checked.prog ++ Tryd.f3.resultTypes.toList).any (Tryd.pinned.checked.prog.veiledRec ·))) = true := by kernel_rfl
theorem cl31 : (Rows.fnErasedRow.veiledFits Tryd.pinned.checked.prog Tryd.f3.params.toList (Tryd.f3.params.toList ++ Rows.fnErasedSpec.plain.varTypes Tryd.pinned.checked.prog ++ Tryd.f3.resultTypes.toList)) = true := by kernel_rfl
set_option maxRecDepth 100000 in
theorem closed : joinedFacts Tryd.pinned.checked.prog 3 Tryd.f3 Rows.fnErasedSpec Rows.fnErasedRow = true := by
  unfold joinedFacts
  exact (and_tt (and_tt (and_tt (and_tt (and_tt (and_tt (and_tt (and_tt (and_tt (and_tt (and_tt (and_tt (and_tt (and_tt (and_tt (and_tt (and_tt (and_tt (and_tt (and_tt (and_tt (and_tt (and_tt (and_tt (and_tt (and_tt (and_tt (and_tt (and_tt (and_tt (and_tt cl0 cl1) cl2) cl3) cl4) cl5) cl6) cl7) cl8) cl9) cl10) cl11) cl12) cl13) cl14) cl15) cl16) cl17) cl18) cl19) cl20) cl21) cl22) cl23) cl24) cl25) cl26) cl27) cl28) cl29) cl30) cl31)
end Go.Proofs.YtcohppfocfepdaaDoor.fnErased
