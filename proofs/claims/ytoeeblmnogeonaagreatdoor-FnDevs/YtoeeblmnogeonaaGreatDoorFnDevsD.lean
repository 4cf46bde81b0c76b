/-
  The closed facts of the card of FnDevs.
-/
import Derived.Test.YtoeeblmnogeonaaGreatDoorRows
import Derived.Test.YtoeeblmnogeonaaGreatDoorCards
import Derived.SevenTiedAt
import Derived.KernelRfl
namespace Go.Proofs.YtoeeblmnogeonaaGreatDoor.fnDevs
theorem cd1 : Rows.fnDevsRow.wfByText (OpenSpec.ofChange Rows.fnDevsSpec) = true := by kernel_rfl
theorem cd2 : Tryz.pinned.checked.prog.mainIs = some (true, "1d0bf4652035920842f2fc74a2b6759d3ea603a438d323b3e179db294d93b7ae".toList) := by kernel_rfl
theorem cd3 : true = Tryz.pinned.checked.prog.looks [] := by kernel_rfl
theorem cd4 : false = Rows.fnDevsRow.goesBy Tryz.pinned.checked.prog := by kernel_rfl
theorem cd5 : Tryz.pinned.checked.prog.funcNamed Rows.fnDevsRow.func = some 3 := by kernel_rfl
end Go.Proofs.YtoeeblmnogeonaaGreatDoor.fnDevs
