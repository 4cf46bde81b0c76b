/-
  Joined: Mark, Path.
-/
import Derived.Test.YtcohppfocfepdaaDoorJ00P
import Derived.Maps.AppendAt
import Derived.Lib.SliceRun
namespace Go.Proofs.YtcohppfocfepdaaDoor
section
open Go.RowKit
theorem Own.kept {w w' : World} {g n c g2 : Nat} {zs : List Int} (h : Own w g n c zs) (hg : w.grownBy w' (some g2)) (hne : g ≠ g2) : Own w' g n c zs :=
  World.ownsRow.kept h hg (.inr (by simp [Value.ownBlock, hne]))
end

section
abbrev Str := List UInt8
end
end Go.Proofs.YtcohppfocfepdaaDoor
