/-
  The closed facts of the card of FnExactErase.
-/
import Derived.Test.YtkhgafmhbibikaaDoorRows
import Derived.Test.YtkhgafmhbibikaaDoorCards
import Derived.SevenTiedAt
import Derived.KernelRfl
namespace Go.Proofs.YtkhgafmhbibikaaDoor.fnExactErase
theorem cd1 : Rows.fnExactEraseRow.wfByText (OpenSpec.ofChange Rows.fnExactEraseSpec) = true := by kernel_rfl
theorem cd2 : Tryd.pinned.checked.prog.mainIs = some (true, "35aed6430e44cb72a59ed891b8be40e826091dce81ab4c27582320e1cecf6580".toList) := by kernel_rfl
theorem cd3 : true = Tryd.pinned.checked.prog.looks [] := by kernel_rfl
theorem cd4 : false = Rows.fnExactEraseRow.goesBy Tryd.pinned.checked.prog := by kernel_rfl
theorem cd5 : Tryd.pinned.checked.prog.funcNamed Rows.fnExactEraseRow.func = some 4 := by kernel_rfl
end Go.Proofs.YtkhgafmhbibikaaDoor.fnExactErase
