/-
  Operations of the laws: opened, measured, copied, compared.
-/
import Derived.Test.YtmkcadnpleijdaaRows
import Derived.WalkKit
import Derived.WalkSpells
import Derived.WalkLawsBesides
import Derived.Deep.QuietTactic
import Derived.BigQuiet
import Derived.OpenShut
import Derived.Laws.BitsAllLaws
import Derived.Maps.AppendAt
import Derived.Lib.SliceRun
import Derived.Lib.Strings
import Derived.Deep.RegionWith
import Derived.Laws.IdiomStrings
import Derived.Deep.Slices
import Derived.ProofKit
import Derived.ChangeOld
import Derived.Below
import Derived.Deep.DeepCutAuto
import Derived.Lib.AppendStr
import Derived.Lib.ConvBytes
import Derived.Deep.RegionHeld3
import Derived.Deep.AppendLies
import Derived.Laws.StructEq
import Derived.Laws.BytesString
namespace Go.Proofs.Ytmkcadnpleijdaa
open Go.ChangeShapes Go.WideShapes Go.ChangeAt Go.RowKit
/-- What an operation tells. -/
structure OpD where
  kind : Int
  vol : Int
  path : ByteArray
  dest : ByteArray
  off : Int
  data : List Int
/-- An operation that is small. -/
def OpSmall (D : OpD) : Prop := D.path.size + D.dest.size + D.data.length ≤ 1048576
section
variable {H : Type} {enc : TypeId × Value → H} {w : World} {base : Nat} {held : Bool}
end
end Go.Proofs.Ytmkcadnpleijdaa

