/-
  When an inode is right: what the specification's InodeOk answers.
-/
import Derived.Test.YtbjfihabkpianaaGreatDoorJ01E
import Derived.Test.YtbjfihabkpianaaGreatDoorEntsOkE
import Derived.Test.YtbjfihabkpianaaGreatDoorAttsOkE
namespace Go.Proofs.YtbjfihabkpianaaGreatDoor
open Go.RowKit
/-- The kind is right for the rest. -/
def kindR (D : InoD) : Bool := (decide (D.kind = 1) && decide (D.ents.length = 0)) || (decide (D.kind = 2) && (decide (D.data.length = 0) && decide (D.links ≤ 1)))
/-- The inode is right. -/
def inoOk (D : InoD) : Bool :=
  (decide (1 ≤ D.ino) && decide (D.ino ≤ 1000)) && (decide (0 ≤ D.links) && decide (D.links ≤ 1000)) && ((D.links == 0) == (D.ino == 1)) && decide (D.data.length ≤ 100) && entsOk D.ents && attsOk D.attrs && kindR D
end Go.Proofs.YtbjfihabkpianaaGreatDoor

