/-
  What the specification's l3Attrs answers.
-/
import Derived.Test.YtbjfihabkpianaaGreatDoorJ00E
import Derived.Lib.Strings
import Derived.Deep.RegionWith
import Derived.Laws.IdiomStrings
import Derived.Deep.Slices
import Derived.ProofKit
import Derived.ChangeOld
import Derived.Below
namespace Go.Proofs.YtbjfihabkpianaaGreatDoor
open Go.RowKit
def attD : ByteArray × ByteArray := (⟨#[]⟩, ⟨#[]⟩)
/-- The i-th entry is right beside the one ahead of it. -/
def attAt (es : List (ByteArray × ByteArray)) (i : Nat) : Bool :=
  nameOk (es.getD i attD).1.data.toList && decide ((es.getD i attD).2.size ≤ 16) && (decide (i = 0) || Op.bytesLess (es.getD (i - 1) attD).1.toList (es.getD i attD).1.toList)
def attsOk (es : List (ByteArray × ByteArray)) : Bool := (List.range es.length).all (attAt es) && decide (es.length ≤ 4)
end Go.Proofs.YtbjfihabkpianaaGreatDoor

