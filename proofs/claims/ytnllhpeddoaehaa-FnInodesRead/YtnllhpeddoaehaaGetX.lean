/-
  What the specification's GetInode answers.
-/
import Derived.Test.YtnllhpeddoaehaaGetS
namespace Go.Proofs.Ytnllhpeddoaehaa
open Go.RowKit

/-- What both GetInode functions answer: the inode that the bytes tell, if it is there whole and right, in memory of its own; else the zero one. -/
def GetPost (B : Nat) (w' : World) (zs : List Int) (e : Ending) : Prop :=
  (gOk zs = true ∧ ∃ v1 v2 v3, e = .returned (.tuple #[.agg #[.int .i64 ((g1 zs).1 : Int), .int .i64 ((g2 zs).1 : Int), .int .i64 ((g3 zs).1 : Int), v1, v2, v3], .bool true]) ∧ DQ B w' v1 (strZ (g4 zs).1) ∧ w'.ownsRow B 35 2 v2 (gE zs).1.length (pv (eP (gE zs).1)) ∧ w'.ownsRow B 77 2 v3 (gA zs).1.length (pv (aP (gA zs).1))) ∨
  (gOk zs = false ∧ e = .returned (.tuple #[.agg #[.int .i64 0, .int .i64 0, .int .i64 0, .slice none 0 0, .slice none 0 0, .slice none 0 0], .bool false]))

theorem RS.kpt {W W' : World} {R : Nat} {a : Option Addr} {n cap : Nat} {st : Option Nat} (h : RS W R a n cap st) (g : W.grownBy W' (some R)) : KpT W W' [27, 5, 35, 77] := by
  obtain ⟨p, hb, _⟩ := h
  exact KpT.grown g hb (by decide)
theorem RS.setX {W : World} {X R : Nat} {xs : Array Value} {a : Option Addr} {n cap : Nat} {st : Option Nat} (h : RS W R a n cap st) (hx : Blk W X 27 xs) (j : Nat) (v : Value) : RS (W.setCell ⟨X, j, none⟩ v) R a n cap st :=
  h.kp (KpT.grown (ts := [92]) (gr_setC W X j v) hx (by decide)) (by decide)
theorem RS.keep {W W' : World} {R : Nat} {a : Option Addr} {n cap : Nat} {st : Option Nat} (h : RS W R a n cap st) (hb : Below W.heap.size W W') : RS W' R a n cap st := h.kp (KpT.below hb [92]) (by decide)

theorem RS.app {W W' : World} {R B n' s : Nat} {a : Option Addr} {n cap : Nat} {st : Option Nat} {v : Value} {e : TypeId} {xs : List Value} (h : RS W R a n cap st) (o : Obj) (hg : (W.alloc o).grownBy W' v.ownBlock) (hr : W.ownsRow B e s v n' xs) (he : e ∉ [92]) : RS W' R a n cap st :=
  (h.keep ((Below.refl W.heap.size W).alloc (Nat.le_refl _) o)).kp (KpT.row hg (World.ownsRow.alloc hr o) he) (by decide)
end Go.Proofs.Ytnllhpeddoaehaa
