/-
  The closed facts of the card of FnDevErased.
-/
import Derived.Test.YtoeeblmnogeonaaGreatDoorRows
import Derived.Test.YtoeeblmnogeonaaGreatDoorCards
import Derived.SevenTiedAt
import Derived.KernelRfl
namespace Go.Proofs.YtoeeblmnogeonaaGreatDoor.fnDevErased
theorem cd1 : Rows.fnDevErasedRow.wfByText (OpenSpec.ofChange Rows.fnDevErasedSpec) = true := by kernel_rfl
theorem cd2 : Tryz.pinned.checked.prog.mainIs = some (true, "1d0bf4652035920842f2fc74a2b6759d3ea603a438d323b3e179db294d93b7ae".toList) := by kernel_rfl
theorem cd3 : true = Tryz.pinned.checked.prog.looks [] := by kernel_rfl
theorem cd4 : false = Rows.fnDevErasedRow.goesBy Tryz.pinned.checked.prog := by kernel_rfl
theorem cd5 : Tryz.pinned.checked.prog.funcNamed Rows.fnDevErasedRow.func = some 4 := by kernel_rfl
end Go.Proofs.YtoeeblmnogeonaaGreatDoor.fnDevErased
