/-
  A table that is built by appending copies of inodes.
-/
import Derived.Test.YtnadeelnjhollaaGreatMKV
import Derived.Deep.AppendSrc
namespace Go.Proofs.YtnadeelnjhollaaGreat
open Go.RowKit
theorem row_keep6 {B : Nat} {e : TypeId} {s n : Nat} {W W' : World} {v : Value} {xs : List Value} (h : W.ownsRow B e s v n xs) (hb : Below W.heap.size W W') : W'.ownsRow B e s v n xs := row_kp h (KpT.below hb [e]) (by simp)
end Go.Proofs.YtnadeelnjhollaaGreat
