/-
  Contracts for markByteS and heldByteS of the laws, over a row of the call's own.
-/
import Derived.Test.YthlfhbogpnbmhaaBaseN
import Derived.Laws.BitsAllLaws
import Derived.Maps.AppendAt
import Derived.Lib.SliceRun
namespace Go.Proofs.Ythlfhbogpnbmhaa
open Go.RowKit
theorem Own.kept {w w' : World} {g n c g2 : Nat} {zs : List Int} (h : Own w g n c zs) (hg : w.grownBy w' (some g2)) (hne : g ≠ g2) : Own w' g n c zs :=
  World.ownsRow.kept h hg (.inr (by simp [Value.ownBlock, hne]))
end Go.Proofs.Ythlfhbogpnbmhaa
