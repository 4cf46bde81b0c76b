/-
  Joined: InoOpen, SzIno.
-/
import Derived.Test.YtjaicciilehlnaaJ00S
import Derived.Maps.AppendAt
import Derived.Lib.SliceRun
import Derived.Lib.Strings
import Derived.Deep.RegionWith
import Derived.Laws.IdiomStrings
import Derived.Deep.Slices
import Derived.ProofKit
import Derived.ChangeOld
import Derived.Below
namespace Go.Proofs.Ytjaicciilehlnaa
section
open Go.ChangeShapes Go.WideShapes Go.ChangeAt Go.RowKit
section
variable {H : Type} {enc : TypeId × Value → H} {w : World} {base : Nat} {held : Bool}
theorem list2 {α : Type} {l : List α} (h : l.length = 2) : ∃ a b, l = [a, b] := by
  match l, h with
  | [a, b], _ => exact ⟨a, b, rfl⟩
end
end

section
open Go.RowKit
/-- What the measuring functions answer: below 0, or what is left, and P. -/
def SzP (P : Prop) (e : Ending) : Prop := e = .returned (.int .i64 (-1)) ∨ ∃ x : Nat, x ≤ 1048576 ∧ e = .returned (.int .i64 x) ∧ P
end
end Go.Proofs.Ytjaicciilehlnaa
