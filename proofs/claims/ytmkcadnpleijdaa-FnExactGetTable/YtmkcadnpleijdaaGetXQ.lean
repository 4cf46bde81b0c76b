/-
  What the specification's GetInode answers.
-/
import Derived.Test.YtmkcadnpleijdaaGetSQ
namespace Go.Proofs.Ytmkcadnpleijdaa
open Go.RowKit
theorem RS.keep {W W' : World} {R : Nat} {a : Option Addr} {n cap : Nat} {st : Option Nat} (h : RS W R a n cap st) (hb : Below W.heap.size W W') : RS W' R a n cap st := h.kp (KpT.below hb [65]) (by decide)
theorem RS.app {W W' : World} {R B n' s : Nat} {a : Option Addr} {n cap : Nat} {st : Option Nat} {v : Value} {e : TypeId} {xs : List Value} (h : RS W R a n cap st) (o : Obj) (hg : (W.alloc o).grownBy W' v.ownBlock) (hr : W.ownsRow B e s v n' xs) (he : e ∉ [65]) : RS W' R a n cap st :=
  (h.keep ((Below.refl W.heap.size W).alloc (Nat.le_refl _) o)).kp (KpT.row hg (World.ownsRow.alloc hr o) he) (by decide)
end Go.Proofs.Ytmkcadnpleijdaa

