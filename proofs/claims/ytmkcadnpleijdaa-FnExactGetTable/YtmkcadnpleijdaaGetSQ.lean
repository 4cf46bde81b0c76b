/-
  What is kept while an inode is read: blocks by their type; a row of pairs grown by one.
-/
import Derived.Test.YtmkcadnpleijdaaClosIQ
namespace Go.Proofs.Ytmkcadnpleijdaa
open Go.RowKit
theorem RS.kp {W W' : World} {R : Nat} {a : Option Addr} {n cap : Nat} {st : Option Nat} {ts : List TypeId} (h : RS W R a n cap st) (k : KpT W W' ts) (ht : 65 ∈ ts) : RS W' R a n cap st := by
  obtain ⟨p, h1, h2⟩ := h
  exact ⟨p, h1.kp k ht, h2⟩
theorem RI.kp {W W' : World} {H : Nat} {a : Option Addr} {n cap : Nat} {st : Option Nat} {ts : List TypeId} (h : RI W H a n cap st) (k : KpT W W' ts) (h1 : 22 ∈ ts) (h2 : 3 ∈ ts) (h3 : 4 ∈ ts) : RI W' H a n cap st := by
  obtain ⟨p, b0, b1, b2, hp⟩ := h
  exact ⟨p, b0.kp k h1, b1.kp k h2, b2.kp k h3, hp⟩
end Go.Proofs.Ytmkcadnpleijdaa

