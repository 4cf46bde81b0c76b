/-
  The closed facts of the card of FnKinds.
-/
import Derived.Test.YtbjfihabkpianaaGreatDoorRows
import Derived.Test.YtbjfihabkpianaaGreatDoorCards
import Derived.SevenTiedAt
import Derived.KernelRfl
namespace Go.Proofs.YtbjfihabkpianaaGreatDoor.fnKinds
theorem cd1 : Rows.fnKindsRow.wfByText (OpenSpec.ofChange Rows.fnKindsSpec) = true := by kernel_rfl
theorem cd2 : Tryz.pinned.checked.prog.mainIs = some (true, "6e00f113eece64e625e15d15e17c32e105cc94f0c62cac65c145a9aff9a2ee4a".toList) := by kernel_rfl
theorem cd3 : true = Tryz.pinned.checked.prog.looks [] := by kernel_rfl
theorem cd4 : false = Rows.fnKindsRow.goesBy Tryz.pinned.checked.prog := by kernel_rfl
theorem cd5 : Tryz.pinned.checked.prog.funcNamed Rows.fnKindsRow.func = some 9 := by kernel_rfl
end Go.Proofs.YtbjfihabkpianaaGreatDoor.fnKinds
