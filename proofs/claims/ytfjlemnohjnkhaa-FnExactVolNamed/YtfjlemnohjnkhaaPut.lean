/-
  Contracts for slices.Clone, putNums of one number and both PutNum functions.
-/
import Derived.Test.YtfjlemnohjnkhaaRows
import Derived.WalkKit
import Derived.WalkSpells
import Derived.WalkLawsBesides
import Derived.Deep.QuietTactic
import Derived.BigQuiet
import Derived.OpenShut
import Derived.Laws.BitsAllLaws
import Derived.Maps.AppendAt
import Derived.Lib.SliceRun
namespace Go.Proofs.Ytfjlemnohjnkhaa
open Go.RowKit
/-- The groups of a number, fuel f. -/
def encGo : Nat → Nat → List Int
  | 0, m => [(m : Int)]
  | f + 1, m => if 128 ≤ m then ((m % 128 + 128 : Nat) : Int) :: encGo f (m / 128) else [(m : Int)]
def clamp (x : Int) : Nat := (min (max x 0) 1000000).toNat
def enc (x : Int) : List Int := encGo 3 (clamp x)
end Go.Proofs.Ytfjlemnohjnkhaa
