/-
  What the specification's TabOk answers.
-/
import Derived.Test.YtbjfihabkpianaaGreatDoorJ02E
import Derived.Test.YtbjfihabkpianaaGreatDoorInoOkE
import Derived.Maps.OwnSet
import Derived.Maps.OwnOps
import Derived.Deep.CutBlock
namespace Go.Proofs.YtbjfihabkpianaaGreatDoor
open Go.RowKit
/-- One inode in its place. -/
def stepT (nx : Int) (rs : List InoR) (i : Nat) : Bool := inoOk (rs.getD i inoZ).D && (decide ((rs.getD i inoZ).D.ino < nx) && (decide (i = 0) || decide ((rs.getD (i - 1) inoZ).D.ino < (rs.getD i inoZ).D.ino)))
/-- What the specification's TabOk answers. -/
def tabS (nx : Int) (rs : List InoR) : Bool :=
  (decide (1 ≤ rs.length) && decide (rs.length ≤ 30)) && ((decide (2 ≤ nx) && decide (nx ≤ 1000)) && ((List.range rs.length).all (stepT nx rs) && (decide ((rs.getD 0 inoZ).D.ino = 1) && decide ((rs.getD 0 inoZ).D.kind = 2))))
end Go.Proofs.YtbjfihabkpianaaGreatDoor

