/-
  The closed facts of the card of FnPowers.
-/
import Derived.Test.YtoeeblmnogeonaaGreatDoorRows
import Derived.Test.YtoeeblmnogeonaaGreatDoorCards
import Derived.SevenTiedAt
import Derived.KernelRfl
namespace Go.Proofs.YtoeeblmnogeonaaGreatDoor.fnPowers
theorem cd1 : Rows.fnPowersRow.wfByText (OpenSpec.ofChange Rows.fnPowersSpec) = true := by kernel_rfl
theorem cd2 : Tryz.pinned.checked.prog.mainIs = some (true, "1d0bf4652035920842f2fc74a2b6759d3ea603a438d323b3e179db294d93b7ae".toList) := by kernel_rfl
theorem cd3 : true = Tryz.pinned.checked.prog.looks [] := by kernel_rfl
theorem cd4 : false = Rows.fnPowersRow.goesBy Tryz.pinned.checked.prog := by kernel_rfl
theorem cd5 : Tryz.pinned.checked.prog.funcNamed Rows.fnPowersRow.func = some 5 := by kernel_rfl
end Go.Proofs.YtoeeblmnogeonaaGreatDoor.fnPowers
