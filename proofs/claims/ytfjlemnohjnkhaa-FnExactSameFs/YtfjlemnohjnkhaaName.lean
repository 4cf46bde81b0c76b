/-
  Contracts for NameOk of the program and of the specification, at every text.
-/
import Derived.Test.YtfjlemnohjnkhaaRows
import Derived.WalkKit
import Derived.WalkSpells
import Derived.WalkLawsBesides
import Derived.Deep.QuietTactic
import Derived.BigQuiet
import Derived.OpenShut
import Derived.Lib.Strings
namespace Go.Proofs.Ytfjlemnohjnkhaa
open Go.RowKit
theorem ret_bool {a b : Bool} (h : a = b) : Ending.returned (.bool a) = .returned (.bool b) := by rw [h]
/-- The k-th byte of a text. -/
def byt (s : ByteArray) (k : Nat) : UInt8 := s.data.toList.getD k 0
end Go.Proofs.Ytfjlemnohjnkhaa
