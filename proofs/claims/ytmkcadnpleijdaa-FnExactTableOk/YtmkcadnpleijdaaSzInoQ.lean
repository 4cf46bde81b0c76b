/-
  How big an inode of the laws is: szInode: below 0, or all its lists and texts are small.
-/
import Derived.Test.YtmkcadnpleijdaaBaseQ
import Derived.Laws.BitsAllLaws
import Derived.Maps.AppendAt
import Derived.Lib.SliceRun
import Derived.Lib.Strings
import Derived.Deep.RegionWith
import Derived.Laws.IdiomStrings
import Derived.Deep.Slices
import Derived.ProofKit
import Derived.ChangeOld
import Derived.Below
namespace Go.Proofs.Ytmkcadnpleijdaa
open Go.RowKit
/-- What the measuring functions answer: below 0, or what is left, and P. -/
def SzP (P : Prop) (e : Ending) : Prop := e = .returned (.int .i64 (-1)) ∨ ∃ x : Nat, x ≤ 1048576 ∧ e = .returned (.int .i64 x) ∧ P
end Go.Proofs.Ytmkcadnpleijdaa

