/-
  The closed facts of the card of FnChips.
-/
import Derived.Test.YtcohppfocfepdaaDoorRows
import Derived.Test.YtcohppfocfepdaaDoorCards
import Derived.SevenTiedAt
import Derived.KernelRfl
namespace Go.Proofs.YtcohppfocfepdaaDoor.fnChips
theorem cd1 : Rows.fnChipsRow.wfByText (OpenSpec.ofChange Rows.fnChipsSpec) = true := by kernel_rfl
theorem cd2 : Tryd.pinned.checked.prog.mainIs = some (true, "99f478863bc5a0ac47f784f6f9c20c5b80e8d02d2fe765be38a074740e3ad44d".toList) := by kernel_rfl
theorem cd3 : true = Tryd.pinned.checked.prog.looks [] := by kernel_rfl
theorem cd4 : false = Rows.fnChipsRow.goesBy Tryd.pinned.checked.prog := by kernel_rfl
theorem cd5 : Tryd.pinned.checked.prog.funcNamed Rows.fnChipsRow.func = some 4 := by kernel_rfl
end Go.Proofs.YtcohppfocfepdaaDoor.fnChips
