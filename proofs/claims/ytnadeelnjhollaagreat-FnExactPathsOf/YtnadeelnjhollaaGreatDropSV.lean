/-
  What the specification's DropInode answers.
-/
import Derived.Test.YtnadeelnjhollaaGreatTabMV
import Derived.Deep.RegionHeld3
import Derived.Deep.DeepCutAuto
import Derived.Lib.AppendStr
import Derived.Lib.ConvBytes
import Derived.Deep.AppendLies
import Derived.Deep.AppendSrc
import Derived.Maps.OwnSet
import Derived.Maps.OwnOps
import Derived.Deep.RegionLaw
namespace Go.Proofs.YtnadeelnjhollaaGreat
open Go.RowKit
theorem row_lower {B B' : Nat} {w : World} {e : TypeId} {s n : Nat} {v : Value} {xs : List Value} (h : w.ownsRow B e s v n xs) (hB : B' ≤ B) : w.ownsRow B' e s v n xs :=
  ⟨h.1, h.2.imp id (fun ⟨g, c, cur, h1, h2, rest⟩ => ⟨g, c, cur, h1, Nat.le_trans hB h2, rest⟩)⟩
end Go.Proofs.YtnadeelnjhollaaGreat
