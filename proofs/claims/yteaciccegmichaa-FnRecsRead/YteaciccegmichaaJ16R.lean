/-
  Joined: GetX, SpecGet.
-/
import Derived.Test.YteaciccegmichaaJ15R
import Derived.Deep.CutBlock
namespace Go.Proofs.Yteaciccegmichaa
section
open Go.RowKit
theorem RS.keep {W W' : World} {R : Nat} {a : Option Addr} {n cap : Nat} {st : Option Nat} (h : RS W R a n cap st) (hb : Below W.heap.size W W') : RS W' R a n cap st := h.kp (KpT.below hb [60]) (by decide)
end

section
open Go.RowKit
theorem strZ_byt' (s : ByteArray) : Byt (strZ s) := by
  intro z hz
  simp only [strZ, List.mem_map] at hz
  obtain ⟨b, _, rfl⟩ := hz
  have := b.toNat_lt
  omega
theorem KpT.trans {W W1 W' : World} {ts : List TypeId} (h : KpT W W1 ts) (k : KpT W1 W' ts) : KpT W W' ts := fun B cur t fr hB ht => by
  have e := h B cur t fr hB ht
  rw [k B cur t fr (e.trans hB) ht, e]
end
end Go.Proofs.Yteaciccegmichaa
