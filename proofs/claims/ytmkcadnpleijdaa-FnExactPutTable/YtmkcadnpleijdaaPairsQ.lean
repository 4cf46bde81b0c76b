/-
  Rows whose elements are two cells each (entries, attributes): read, owned, copied.
-/
import Derived.Test.YtmkcadnpleijdaaMarkQ
import Derived.Lib.Strings
import Derived.Deep.RegionWith
import Derived.Laws.IdiomStrings
import Derived.Deep.Slices
namespace Go.Proofs.Ytmkcadnpleijdaa
open Go.RowKit
theorem add_at (g j : Nat) : (⟨g, 0, none⟩ : Addr).add j = ⟨g, j, none⟩ := by
  unfold Addr.add
  split
  · rename_i h; rw [h]
  · simp
/-- Block B holds the cells vs, of type t. -/
def Blk (W : World) (B : Nat) (t : TypeId) (vs : Array Value) : Prop := W.heap[B]? = some (.cells vs t (0, 0))
theorem Blk.lt {W : World} {B : Nat} {t : TypeId} {vs : Array Value} (h : Blk W B t vs) : B < W.heap.size := (Array.getElem?_eq_some_iff.1 h).1
theorem Blk.cell {W : World} {B : Nat} {t : TypeId} {vs : Array Value} (h : Blk W B t vs) (j : Nat) : W.cell? ⟨B, j, none⟩ = vs[j]? := cell_of_row W B j vs t (0, 0) h
theorem Blk.frozen {W : World} {B : Nat} {t : TypeId} {vs : Array Value} (h : Blk W B t vs) (j : Nat) : W.frozen? ⟨B, j, none⟩ = false := frozen_of_row W B j vs t h
theorem Blk.new (W : World) (t : TypeId) (vs : Array Value) : Blk (W.alloc (.cells vs t)) W.heap.size t vs := heap_alloc_new W _
theorem Blk.keep {W W' : World} {B : Nat} {t : TypeId} {vs : Array Value} (h : Blk W B t vs) (hb : Below W.heap.size W W') : Blk W' B t vs := (hb.block B h.lt).trans h
theorem Blk.alloc {W : World} {B : Nat} {t : TypeId} {vs : Array Value} (h : Blk W B t vs) (o : Obj) : Blk (W.alloc o) B t vs := h.keep ((Below.refl _ W).alloc (Nat.le_refl _) o)
theorem Blk.set {W : World} {B : Nat} {t : TypeId} {vs : Array Value} (h : Blk W B t vs) (j : Nat) (v : Value) : Blk (W.setCell ⟨B, j, none⟩ v) B t (vs.setIfInBounds j v) := heap_setCell_same W B j vs t v h
theorem Blk.other {W : World} {B : Nat} {t : TypeId} {vs : Array Value} (h : Blk W B t vs) {B' : Nat} (hne : B ≠ B') (j : Nat) (v : Value) : Blk (W.setCell ⟨B', j, none⟩ v) B t vs := (heap_setCell_other W ⟨B', j, none⟩ B v hne).trans h
theorem Blk.kept {W W' : World} {B g : Nat} {t : TypeId} {vs : Array Value} (h : Blk W B t vs) (hg : W.grownBy W' (some g)) (hne : B ≠ g) : Blk W' B t vs := (hg.block B h.lt (by simpa using hne)).trans h
end Go.Proofs.Ytmkcadnpleijdaa

