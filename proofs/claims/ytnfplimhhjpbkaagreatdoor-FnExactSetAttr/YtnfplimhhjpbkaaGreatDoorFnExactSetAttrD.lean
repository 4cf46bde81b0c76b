/-
  The closed facts of the card of FnExactSetAttr.
-/
import Derived.Test.YtnfplimhhjpbkaaGreatDoorRows
import Derived.Test.YtnfplimhhjpbkaaGreatDoorCards
import Derived.SevenTiedAt
import Derived.KernelRfl
namespace Go.Proofs.YtnfplimhhjpbkaaGreatDoor.fnExactSetAttr
theorem cd1 : Rows.fnExactSetAttrRow.wfByText (OpenSpec.ofChange Rows.fnExactSetAttrSpec) = true := by kernel_rfl
theorem cd2 : Tryz.pinned.checked.prog.mainIs = some (true, "e161a24b231af597ff36777bec14476717d0121e227b05920cec0256664223d3".toList) := by kernel_rfl
theorem cd3 : true = Tryz.pinned.checked.prog.looks [] := by kernel_rfl
theorem cd4 : false = Rows.fnExactSetAttrRow.goesBy Tryz.pinned.checked.prog := by kernel_rfl
theorem cd5 : Tryz.pinned.checked.prog.funcNamed Rows.fnExactSetAttrRow.func = some 14 := by kernel_rfl
end Go.Proofs.YtnfplimhhjpbkaaGreatDoor.fnExactSetAttr
