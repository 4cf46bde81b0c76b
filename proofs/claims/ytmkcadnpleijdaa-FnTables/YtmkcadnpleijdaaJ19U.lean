/-
  Joined: GetS, GetX.
-/
import Derived.Test.YtmkcadnpleijdaaJ18U
namespace Go.Proofs.Ytmkcadnpleijdaa
section
open Go.RowKit
theorem RS.kp {W W' : World} {R : Nat} {a : Option Addr} {n cap : Nat} {st : Option Nat} {ts : List TypeId} (h : RS W R a n cap st) (k : KpT W W' ts) (ht : 65 ∈ ts) : RS W' R a n cap st := by
  obtain ⟨p, h1, h2⟩ := h
  exact ⟨p, h1.kp k ht, h2⟩
theorem RI.kp {W W' : World} {H : Nat} {a : Option Addr} {n cap : Nat} {st : Option Nat} {ts : List TypeId} (h : RI W H a n cap st) (k : KpT W W' ts) (h1 : 22 ∈ ts) (h2 : 3 ∈ ts) (h3 : 4 ∈ ts) : RI W' H a n cap st := by
  obtain ⟨p, b0, b1, b2, hp⟩ := h
  exact ⟨p, b0.kp k h1, b1.kp k h2, b2.kp k h3, hp⟩
end

section
open Go.RowKit
theorem RS.keep {W W' : World} {R : Nat} {a : Option Addr} {n cap : Nat} {st : Option Nat} (h : RS W R a n cap st) (hb : Below W.heap.size W W') : RS W' R a n cap st := h.kp (KpT.below hb [65]) (by decide)
theorem RS.app {W W' : World} {R B n' s : Nat} {a : Option Addr} {n cap : Nat} {st : Option Nat} {v : Value} {e : TypeId} {xs : List Value} (h : RS W R a n cap st) (o : Obj) (hg : (W.alloc o).grownBy W' v.ownBlock) (hr : W.ownsRow B e s v n' xs) (he : e ∉ [65]) : RS W' R a n cap st :=
  (h.keep ((Below.refl W.heap.size W).alloc (Nat.le_refl _) o)).kp (KpT.row hg (World.ownsRow.alloc hr o) he) (by decide)
end
end Go.Proofs.Ytmkcadnpleijdaa
