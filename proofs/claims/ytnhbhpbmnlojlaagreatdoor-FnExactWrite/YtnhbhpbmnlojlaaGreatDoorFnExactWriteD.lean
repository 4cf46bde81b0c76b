/-
  The closed facts of the card of FnExactWrite.
-/
import Derived.Test.YtnhbhpbmnlojlaaGreatDoorRows
import Derived.Test.YtnhbhpbmnlojlaaGreatDoorCards
import Derived.SevenTiedAt
import Derived.KernelRfl
namespace Go.Proofs.YtnhbhpbmnlojlaaGreatDoor.fnExactWrite
theorem cd1 : Rows.fnExactWriteRow.wfByText (OpenSpec.ofChange Rows.fnExactWriteSpec) = true := by kernel_rfl
theorem cd2 : Tryz.pinned.checked.prog.mainIs = some (true, "b185f438cf77460eea732a51afa9988e7da4c8b50ffe7dbd5e8e43e3ed30e59c".toList) := by kernel_rfl
theorem cd3 : true = Tryz.pinned.checked.prog.looks [] := by kernel_rfl
theorem cd4 : false = Rows.fnExactWriteRow.goesBy Tryz.pinned.checked.prog := by kernel_rfl
theorem cd5 : Tryz.pinned.checked.prog.funcNamed Rows.fnExactWriteRow.func = some 3 := by kernel_rfl
end Go.Proofs.YtnhbhpbmnlojlaaGreatDoor.fnExactWrite
