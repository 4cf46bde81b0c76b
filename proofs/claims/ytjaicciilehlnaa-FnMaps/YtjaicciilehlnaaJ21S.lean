/-
  Joined: GetX, SpecGet.
-/
import Derived.Test.YtjaicciilehlnaaJ20S
import Derived.Deep.CutBlock
namespace Go.Proofs.Ytjaicciilehlnaa
section
open Go.RowKit
theorem RS.keep {W W' : World} {R : Nat} {a : Option Addr} {n cap : Nat} {st : Option Nat} (h : RS W R a n cap st) (hb : Below W.heap.size W W') : RS W' R a n cap st := h.kp (KpT.below hb [60]) (by decide)
theorem RS.app {W W' : World} {R B n' s : Nat} {a : Option Addr} {n cap : Nat} {st : Option Nat} {v : Value} {e : TypeId} {xs : List Value} (h : RS W R a n cap st) (o : Obj) (hg : (W.alloc o).grownBy W' v.ownBlock) (hr : W.ownsRow B e s v n' xs) (he : e ∉ [60]) : RS W' R a n cap st :=
  (h.keep ((Below.refl W.heap.size W).alloc (Nat.le_refl _) o)).kp (KpT.row hg (World.ownsRow.alloc hr o) he) (by decide)
end

section
open Go.RowKit
theorem KpT.trans {W W1 W' : World} {ts : List TypeId} (h : KpT W W1 ts) (k : KpT W1 W' ts) : KpT W W' ts := fun B cur t fr hB ht => by
  have e := h B cur t fr hB ht
  rw [k B cur t fr (e.trans hB) ht, e]
end
end Go.Proofs.Ytjaicciilehlnaa
