/-
  The closed facts of the card of FnExactProgram.
-/
import Derived.Test.YtkhgafmhbibikaaDoorRows
import Derived.Test.YtkhgafmhbibikaaDoorCards
import Derived.SevenTiedAt
import Derived.KernelRfl
namespace Go.Proofs.YtkhgafmhbibikaaDoor.fnExactProgram
theorem cd1 : Rows.fnExactProgramRow.wfByText (OpenSpec.ofChange Rows.fnExactProgramSpec) = true := by kernel_rfl
theorem cd2 : Tryd.pinned.checked.prog.mainIs = some (true, "35aed6430e44cb72a59ed891b8be40e826091dce81ab4c27582320e1cecf6580".toList) := by kernel_rfl
theorem cd3 : true = Tryd.pinned.checked.prog.looks [] := by kernel_rfl
theorem cd4 : false = Rows.fnExactProgramRow.goesBy Tryd.pinned.checked.prog := by kernel_rfl
theorem cd5 : Tryd.pinned.checked.prog.funcNamed Rows.fnExactProgramRow.func = some 3 := by kernel_rfl
end Go.Proofs.YtkhgafmhbibikaaDoor.fnExactProgram
