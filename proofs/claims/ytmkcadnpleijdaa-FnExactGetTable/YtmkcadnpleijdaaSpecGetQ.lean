/-
  What the specification's GetInode answers.
-/
import Derived.Test.YtmkcadnpleijdaaKeptQ
import Derived.Laws.StructEq
import Derived.Laws.BytesString
import Derived.Deep.CutBlock
namespace Go.Proofs.Ytmkcadnpleijdaa
open Go.RowKit
theorem KpT.trans {W W1 W' : World} {ts : List TypeId} (h : KpT W W1 ts) (k : KpT W1 W' ts) : KpT W W' ts := fun B cur t fr hB ht => by
  have e := h B cur t fr hB ht
  rw [k B cur t fr (e.trans hB) ht, e]
end Go.Proofs.Ytmkcadnpleijdaa

