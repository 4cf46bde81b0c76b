/-
  The closed facts of the row of FnInTurn, one by one.
-/
import Derived.Test.YtkhgafmhbibikaaDoorRows
import Derived.JoinedOf
import Derived.KernelRfl
namespace Go.Proofs.YtkhgafmhbibikaaDoor.fnInTurn
theorem and_tt {a b : Bool} (h : a = true) (k : b = true) : (a && b) = true := by rw [h, k]; rfl
theorem cl0 : (Rows.fnInTurnRow.wf (OpenSpec.ofChange Rows.fnInTurnSpec)) = true := by kernel_rfl
theorem cl1 : (laidOutB Tryd.pinned.checked.prog) = true := by kernel_rfl
theorem cl2 : (mapsRowed Tryd.pinned.checked.prog) = true := by kernel_rfl
theorem cl3 : (Tryd.f7.params.all (Tryd.pinned.checked.prog.readableRec ·)) = true := by kernel_rfl
theorem cl4 : (namedTie Tryd.pinned.checked.prog Rows.fnInTurnRow.named Rows.fnInTurnSpec.vars) = true := by kernel_rfl
theorem cl5 : ((Rows.fnInTurnRow.stops == [])) = true := by kernel_rfl
theorem cl6 : ((Tryd.pinned.checked.prog.stops == [])) = true := by kernel_rfl
theorem cl7 : ((Rows.fnInTurnRow.knobs == [])) = true := by kernel_rfl
theorem cl8 : ((Tryd.pinned.checked.prog.stopKnobs == [])) = true := by kernel_rfl
theorem cl9 : ((Rows.fnInTurnRow.inPlace == Tryd.pinned.checked.prog.inPlace 7)) = true := by kernel_rfl
theorem cl10 : ((Rows.fnInTurnRow.unfollowed == Tryd.pinned.checked.prog.unfollowed 7)) = true := by kernel_rfl
theorem cl11 : ((Rows.fnInTurnRow.recurses == Tryd.pinned.checked.prog.recurses 7)) = true := by kernel_rfl
theorem cl12 : ((Rows.fnInTurnRow.named == Tryd.pinned.checked.prog.varsNamed 7)) = true := by kernel_rfl
theorem cl13 : ((Rows.fnInTurnRow.maps == (Tryd.f7.params.toList ++ Rows.fnInTurnSpec.plain.varTypes Tryd.pinned.checked.prog).any (Tryd.pinned.checked.prog.mapsRec ·))) = true := by kernel_rfl
theorem cl14 : ((Rows.fnInTurnRow.ifaces == (Tryd.f7.params.toList ++ Rows.fnInTurnSpec.plain.varTypes Tryd.pinned.checked.prog).any (Tryd.pinned.checked.prog.ifacesRec ·))) = true := by kernel_rfl
theorem cl15 : ((Rows.fnInTurnRow.mapsOut == Tryd.pinned.checked.prog.mapsAmong Tryd.f7.resultTypes.toList)) = true := by kernel_rfl
theorem cl16 : ((Rows.fnInTurnRow.loops == (Tryd.f7.params.toList ++ Rows.fnInTurnSpec.plain.varTypes Tryd.pinned.checked.prog).any (Tryd.pinned.checked.prog.loopsFrom ·))) = true := by kernel_rfl
theorem cl17 : ((Rows.fnInTurnRow.wideKeys == (Tryd.f7.params.toList ++ Rows.fnInTurnSpec.plain.varTypes Tryd.pinned.checked.prog ++ Tryd.f7.resultTypes.toList).any (Tryd.pinned.checked.prog.wideKeysFrom ·))) = true := by kernel_rfl
theorem cl18 : (Rows.fnInTurnSpec.vars.all (Tryd.pinned.checked.prog.varReadable ·)) = true := by kernel_rfl
theorem cl19 : (Tryd.f7.resultTypes.all (fun t => Tryd.pinned.checked.prog.readableRec t && decide (t < Tryd.pinned.checked.prog.types.size))) = true := by kernel_rfl
theorem cl20 : ((Rows.fnInTurnRow.ifacesOut == Tryd.f7.resultTypes.toList.any (Tryd.pinned.checked.prog.ifacesRec ·))) = true := by kernel_rfl
theorem cl21 : ((Rows.fnInTurnRow.loopsOut == Tryd.f7.resultTypes.toList.any (Tryd.pinned.checked.prog.loopsFrom ·))) = true := by kernel_rfl
theorem cl22 : ((Rows.fnInTurnRow.plainKeys == Tryd.pinned.checked.prog.plainKeys)) = true := by kernel_rfl
theorem cl23 : (Rows.fnInTurnRow.shortTexts.isNone) = true := by kernel_rfl
theorem cl24 : (Tryd.pinned.checked.prog.stopsHeard) = true := by kernel_rfl
theorem cl25 : (Tryd.pinned.checked.prog.mayEnter) = true := by kernel_rfl
theorem cl26 : ((Rows.fnInTurnRow.lifted == Tryd.pinned.checked.prog.liftsFinal)) = true := by kernel_rfl
theorem cl27 : ((Tryd.pinned.checked.prog.make == some Rows.fnInTurnRow.make)) = true := by kernel_rfl
theorem cl28 : ((Rows.fnInTurnRow.kinds == (if Rows.fnInTurnRow.domain.isEmpty then [] else Tryd.f7.params.toList.map fun t => match Tryd.pinned.checked.prog.underlying t with | some (.int k) => some k | _ => none))) = true := by kernel_rfl
theorem cl29 : ((Rows.fnInTurnRow.pinned == Rows.fnInTurnRow.pinnedBy)) = true := by kernel_rfl
theorem cl30 : ((Rows.fnInTurnRow.veiled == (Tryd.f7.params.toList ++ Rows.fnInTurnSpec.plain.varTypes Tryd.pinned.checked.prog ++ Tryd.f7.resultTypes.toList).any (Tryd.pinned.checked.prog.veiledRec ·))) = true := by kernel_rfl
theorem cl31 : (Rows.fnInTurnRow.veiledFits Tryd.pinned.checked.prog Tryd.f7.params.toList (Tryd.f7.params.toList ++ Rows.fnInTurnSpec.plain.varTypes Tryd.pinned.checked.prog ++ Tryd.f7.resultTypes.toList)) = true := by kernel_rfl
set_option maxRecDepth 100000 in
theorem closed : joinedFacts Tryd.pinned.checked.prog 7 Tryd.f7 Rows.fnInTurnSpec Rows.fnInTurnRow = true := by
  unfold joinedFacts
  exact (and_tt (and_tt (and_tt (and_tt (and_tt (and_tt (and_tt (and_tt (and_tt (and_tt (and_tt (and_tt (and_tt (and_tt (and_tt (and_tt (and_tt (and_tt (and_tt (and_tt (and_tt (and_tt (and_tt (and_tt (and_tt (and_tt (and_tt (and_tt (and_tt (and_tt (and_tt cl0 cl1) cl2) cl3) cl4) cl5) cl6) cl7) cl8) cl9) cl10) cl11) cl12) cl13) cl14) cl15) cl16) cl17) cl18) cl19) cl20) cl21) cl22) cl23) cl24) cl25) cl26) cl27) cl28) cl29) cl30) cl31)
end Go.Proofs.YtkhgafmhbibikaaDoor.fnInTurn
