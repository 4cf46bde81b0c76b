/-
  What the specification's SetInode answers.
-/
import Derived.Test.YtbjfihabkpianaaGreatDoorJ21E
namespace Go.Proofs.YtbjfihabkpianaaGreatDoor
open Go.RowKit
theorem below_tr {w X U : World} (h : Below w.heap.size w X) (k : Below X.heap.size X U) : Below w.heap.size w U := h.trans (k.mono h.size)
theorem InoJ.G.gr {w w' : World} {j : InoJ} {g : Nat} (h : j.G w) (hT : j.hi ≤ w.heap.size) (hg : w.grownBy w' (some g)) (hd : g < j.lo ∨ j.hi ≤ g) : j.G w' :=
  InoG.kept h (fun b h1 h2 => hg.block b (by omega) (by simp; omega))
theorem InoJ.G.al {w : World} {j : InoJ} (h : j.G w) (hT : j.hi ≤ w.heap.size) (o : Obj) : j.G (w.alloc o) := InoG.keep h hT ((Below.refl _ w).alloc (Nat.le_refl _) o)
theorem DQA.setY {B : Nat} {W : World} {v : Value} {rs : List InoR} {js : List InoJ} (h : DQA B W v rs js) {X : Nat} (hv : ∀ g, v.ownBlock = some g → g ≠ X) (hj : ∀ (i : Nat) (j : InoJ), js[i]? = some j → X < j.lo ∨ j.hi ≤ X) (i : Nat) (u : Value) : DQA B (W.setCell ⟨X, i, none⟩ u) v rs js :=
  h.kept (by simp [World.setCell]) (row_kept h.row (gr_setC W X i u) (fun m hm e => by have := hv m hm; simp at e; omega)) (fun k j e b h1 h2 => (gr_setC W X i u).block b (by have := h.lo k j e; omega) (by have := hj k j e; simp; omega))
end Go.Proofs.YtbjfihabkpianaaGreatDoor

