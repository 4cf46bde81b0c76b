/-
  Draws of an inode: l3Draw.
-/
import Derived.Test.YtbjfihabkpianaaGreatDoorJ32E
namespace Go.Proofs.YtbjfihabkpianaaGreatDoor
open Go.RowKit
/-- The lists of a drawn inode, each nil or of the call's own, at or behind B. -/
structure LB (W : World) (B : Nat) (D : InoD) (v1 v2 v3 : Value) : Prop where
  d : W.ownsRow B 5 1 v1 D.data.length (D.data.map (Value.int .u8))
  byt : Byt D.data
  e : W.ownsRow B 154 2 v2 D.ents.length (pv (eP D.ents))
  t : W.ownsRow B 106 2 v3 D.attrs.length (pv (aP D.attrs))
end Go.Proofs.YtbjfihabkpianaaGreatDoor

