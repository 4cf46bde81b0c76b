/-
  The program's ascendingBy over inodes, by their numbers.
-/
import Derived.Test.YtmkcadnpleijdaaRows
import Derived.WalkKit
import Derived.WalkSpells
import Derived.WalkLawsBesides
import Derived.Deep.QuietTactic
import Derived.BigQuiet
import Derived.OpenShut
import Derived.Laws.BitsAllLaws
import Derived.Maps.AppendAt
import Derived.Lib.SliceRun
import Derived.Lib.Strings
import Derived.Deep.RegionWith
import Derived.Laws.IdiomStrings
import Derived.Deep.Slices
import Derived.ProofKit
import Derived.ChangeOld
import Derived.Below
import Derived.Maps.OwnSet
import Derived.Maps.OwnOps
import Derived.Deep.RegionHeld3
import Derived.Deep.DeepCutAuto
namespace Go.Proofs.Ytmkcadnpleijdaa
open Go.RowKit
/-- All ascend from the second one on. -/
def ascN (xs : List Int) : Bool := (List.range xs.length).all fun i => decide (i = 0) || decide (xs.getD (i - 1) 0 < xs.getD i 0)
end Go.Proofs.Ytmkcadnpleijdaa

