/-
  The closed facts of the card of FnExactDevProgram.
-/
import Derived.Test.YtkhgafmhbibikaaGreatDoorRows
import Derived.Test.YtkhgafmhbibikaaGreatDoorCards
import Derived.SevenTiedAt
import Derived.KernelRfl
namespace Go.Proofs.YtkhgafmhbibikaaGreatDoor.fnExactDevProgram
theorem cd1 : Rows.fnExactDevProgramRow.wfByText (OpenSpec.ofChange Rows.fnExactDevProgramSpec) = true := by kernel_rfl
theorem cd2 : Tryz.pinned.checked.prog.mainIs = some (true, "338bafb50936bb9b271962caa15347a70f1ba88c1ee46a04303b1478118df865".toList) := by kernel_rfl
theorem cd3 : true = Tryz.pinned.checked.prog.looks [] := by kernel_rfl
theorem cd4 : false = Rows.fnExactDevProgramRow.goesBy Tryz.pinned.checked.prog := by kernel_rfl
theorem cd5 : Tryz.pinned.checked.prog.funcNamed Rows.fnExactDevProgramRow.func = some 3 := by kernel_rfl
end Go.Proofs.YtkhgafmhbibikaaGreatDoor.fnExactDevProgram
