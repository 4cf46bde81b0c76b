/-
  The closed facts of the card of FnExactDevErase.
-/
import Derived.Test.YtkhgafmhbibikaaGreatDoorRows
import Derived.Test.YtkhgafmhbibikaaGreatDoorCards
import Derived.SevenTiedAt
import Derived.KernelRfl
namespace Go.Proofs.YtkhgafmhbibikaaGreatDoor.fnExactDevErase
theorem cd1 : Rows.fnExactDevEraseRow.wfByText (OpenSpec.ofChange Rows.fnExactDevEraseSpec) = true := by kernel_rfl
theorem cd2 : Tryz.pinned.checked.prog.mainIs = some (true, "338bafb50936bb9b271962caa15347a70f1ba88c1ee46a04303b1478118df865".toList) := by kernel_rfl
theorem cd3 : true = Tryz.pinned.checked.prog.looks [] := by kernel_rfl
theorem cd4 : false = Rows.fnExactDevEraseRow.goesBy Tryz.pinned.checked.prog := by kernel_rfl
theorem cd5 : Tryz.pinned.checked.prog.funcNamed Rows.fnExactDevEraseRow.func = some 4 := by kernel_rfl
end Go.Proofs.YtkhgafmhbibikaaGreatDoor.fnExactDevErase
