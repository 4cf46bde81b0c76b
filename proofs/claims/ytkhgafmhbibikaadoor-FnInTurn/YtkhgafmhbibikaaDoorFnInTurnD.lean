/-
  The closed facts of the card of FnInTurn.
-/
import Derived.Test.YtkhgafmhbibikaaDoorRows
import Derived.Test.YtkhgafmhbibikaaDoorCards
import Derived.SevenTiedAt
import Derived.KernelRfl
namespace Go.Proofs.YtkhgafmhbibikaaDoor.fnInTurn
theorem cd1 : Rows.fnInTurnRow.wfByText (OpenSpec.ofChange Rows.fnInTurnSpec) = true := by kernel_rfl
theorem cd2 : Tryd.pinned.checked.prog.mainIs = some (true, "35aed6430e44cb72a59ed891b8be40e826091dce81ab4c27582320e1cecf6580".toList) := by kernel_rfl
theorem cd3 : true = Tryd.pinned.checked.prog.looks [] := by kernel_rfl
theorem cd4 : false = Rows.fnInTurnRow.goesBy Tryd.pinned.checked.prog := by kernel_rfl
theorem cd5 : Tryd.pinned.checked.prog.funcNamed Rows.fnInTurnRow.func = some 7 := by kernel_rfl
end Go.Proofs.YtkhgafmhbibikaaDoor.fnInTurn
