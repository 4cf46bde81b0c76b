/-
  The closed facts of the card of FnErased.
-/
import Derived.Test.YtcohppfocfepdaaDoorRows
import Derived.Test.YtcohppfocfepdaaDoorCards
import Derived.SevenTiedAt
import Derived.KernelRfl
namespace Go.Proofs.YtcohppfocfepdaaDoor.fnErased
theorem cd1 : Rows.fnErasedRow.wfByText (OpenSpec.ofChange Rows.fnErasedSpec) = true := by kernel_rfl
theorem cd2 : Tryd.pinned.checked.prog.mainIs = some (true, "99f478863bc5a0ac47f784f6f9c20c5b80e8d02d2fe765be38a074740e3ad44d".toList) := by kernel_rfl
theorem cd3 : true = Tryd.pinned.checked.prog.looks [] := by kernel_rfl
theorem cd4 : false = Rows.fnErasedRow.goesBy Tryd.pinned.checked.prog := by kernel_rfl
theorem cd5 : Tryd.pinned.checked.prog.funcNamed Rows.fnErasedRow.func = some 3 := by kernel_rfl
end Go.Proofs.YtcohppfocfepdaaDoor.fnErased
