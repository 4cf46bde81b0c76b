/-
  The closed facts of the card of FnFullDir.
-/
import Derived.Test.YtmfimoccemgoiaaGreatDoorRows
import Derived.Test.YtmfimoccemgoiaaGreatDoorCards
import Derived.SevenTiedAt
import Derived.KernelRfl
namespace Go.Proofs.YtmfimoccemgoiaaGreatDoor.fnFullDir
theorem cd1 : Rows.fnFullDirRow.wfByText (OpenSpec.ofChange Rows.fnFullDirSpec) = true := by kernel_rfl
theorem cd2 : Tryz.pinned.checked.prog.mainIs = some (true, "f12721b427f7879bfdd82799d467ba599d4460e39015bcf1bb669cce24751f4d".toList) := by kernel_rfl
theorem cd3 : true = Tryz.pinned.checked.prog.looks [] := by kernel_rfl
theorem cd4 : false = Rows.fnFullDirRow.goesBy Tryz.pinned.checked.prog := by kernel_rfl
theorem cd5 : Tryz.pinned.checked.prog.funcNamed Rows.fnFullDirRow.func = some 8 := by kernel_rfl
end Go.Proofs.YtmfimoccemgoiaaGreatDoor.fnFullDir
