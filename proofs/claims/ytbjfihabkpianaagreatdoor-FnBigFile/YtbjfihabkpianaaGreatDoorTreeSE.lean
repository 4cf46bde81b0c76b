/-
  What the specification's TreeOk answers.
-/
import Derived.Test.YtbjfihabkpianaaGreatDoorJ08E
import Derived.Deep.CutBlock
namespace Go.Proofs.YtbjfihabkpianaaGreatDoor
open Go.RowKit
def goodE (ds : List InoD) (e : ByteArray × Int) : Bool := (look ds e.2).isSome
theorem all_drop {α : Type} {l : List α} {k : Nat} {x : α} (p : α → Bool) (h : l[k]? = some x) : (l.drop k).all p = (p x && (l.drop (k + 1)).all p) := by
  have hk := (List.getElem?_eq_some_iff.1 h).1
  rw [List.drop_eq_getElem_cons hk, List.all_cons, (List.getElem?_eq_some_iff.1 h).2]
end Go.Proofs.YtbjfihabkpianaaGreatDoor

