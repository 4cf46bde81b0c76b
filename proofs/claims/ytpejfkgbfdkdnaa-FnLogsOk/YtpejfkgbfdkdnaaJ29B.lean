/-
  Joined: GetX, SpecGet, ImplGet.
-/
import Derived.Test.YtpejfkgbfdkdnaaJ28B
import Derived.Deep.CutBlock
import Derived.Deep.RegionLaw
namespace Go.Proofs.Ytpejfkgbfdkdnaa
section
open Go.RowKit
theorem RS.keep {W W' : World} {R : Nat} {a : Option Addr} {n cap : Nat} {st : Option Nat} (h : RS W R a n cap st) (hb : Below W.heap.size W W') : RS W' R a n cap st := h.kp (KpT.below hb [84]) (by decide)
theorem RS.app {W W' : World} {R B n' s : Nat} {a : Option Addr} {n cap : Nat} {st : Option Nat} {v : Value} {e : TypeId} {xs : List Value} (h : RS W R a n cap st) (o : Obj) (hg : (W.alloc o).grownBy W' v.ownBlock) (hr : W.ownsRow B e s v n' xs) (he : e ∉ [84]) : RS W' R a n cap st :=
  (h.keep ((Below.refl W.heap.size W).alloc (Nat.le_refl _) o)).kp (KpT.row hg (World.ownsRow.alloc hr o) he) (by decide)
end

section
open Go.RowKit
theorem strZ_byt' (s : ByteArray) : Byt (strZ s) := by
  intro z hz
  simp only [strZ, List.mem_map] at hz
  obtain ⟨b, _, rfl⟩ := hz
  have := b.toNat_lt
  omega
theorem KpT.trans {W W1 W' : World} {ts : List TypeId} (h : KpT W W1 ts) (k : KpT W1 W' ts) : KpT W W' ts := fun B cur t fr hB ht => by
  have e := h B cur t fr hB ht
  rw [k B cur t fr (e.trans hB) ht, e]
end

section
open Go.RowKit
theorem below_but {B : Nat} {w0 W W' : World} {r1 r2 : Nat} (h : Below B w0 W) (g : But W W' (some r1) (some r2) none) (hB : B ≤ w0.heap.size) (h1 : B ≤ r1) (h2 : B ≤ r2) : Below B w0 W' := by
  have hs := h.size
  refine ⟨by rw [g.os, h.os], by rw [g.tape, h.tape], by rw [g.output, h.output], Nat.le_trans h.size g.size, fun k hk => ?_⟩
  rw [g.block k (by omega) (by simp; omega) (by simp; omega) (by simp)]
  exact h.block k hk
theorem RI.keep {W W' : World} {H : Nat} {a : Option Addr} {n cap : Nat} {st : Option Nat} (h : RI W H a n cap st) (hb : Below W.heap.size W W') : RI W' H a n cap st := h.kp (KpT.below hb [22, 3, 4]) (by decide) (by decide) (by decide)
theorem RI.app {W W' : World} {H B n' s : Nat} {a : Option Addr} {n cap : Nat} {st : Option Nat} {v : Value} {e : TypeId} {xs : List Value} (h : RI W H a n cap st) (o : Obj) (hg : (W.alloc o).grownBy W' v.ownBlock) (hr : W.ownsRow B e s v n' xs) (he : e ∉ [22, 3, 4]) : RI W' H a n cap st :=
  (h.keep ((Below.refl W.heap.size W).alloc (Nat.le_refl _) o)).kp (KpT.row hg (World.ownsRow.alloc hr o) he) (by decide) (by decide) (by decide)
end
end Go.Proofs.Ytpejfkgbfdkdnaa
