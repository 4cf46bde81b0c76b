/-
  Joined: PathsS, Links.
-/
import Derived.Test.YtbjfihabkpianaaGreatDoorJ17E
namespace Go.Proofs.YtbjfihabkpianaaGreatDoor
section
open Go.RowKit
/-- All blocks but two are as they were. -/
structure Fr2 (w w' : World) (X g : Nat) : Prop where
  os : w'.os = w.os
  tape : w'.tape = w.tape
  output : w'.output = w.output
  size : w.heap.size ≤ w'.heap.size
  block : ∀ k, k < w.heap.size → k ≠ X → k ≠ g → w'.heap[k]? = w.heap[k]?
theorem Fr2.refl (w : World) (X g : Nat) : Fr2 w w X g := ⟨rfl, rfl, rfl, Nat.le_refl _, fun _ _ _ _ => rfl⟩
theorem Fr2.below {w w' : World} (h : Below w.heap.size w w') (X g : Nat) : Fr2 w w' X g := ⟨h.os, h.tape, h.output, h.size, fun k hk _ _ => h.block k hk⟩
theorem Fr2.gr {w w' : World} {g : Nat} (h : w.grownBy w' (some g)) (X : Nat) : Fr2 w w' X g := ⟨h.os, h.tape, h.output, h.size, fun k hk _ hg => h.block k hk (by simpa using hg)⟩
theorem Fr2.cell (w : World) (X i : Nat) (v : Value) (g : Nat) : Fr2 w (w.setCell ⟨X, i, none⟩ v) X g := ⟨rfl, rfl, rfl, by simp [World.setCell], fun k _ hX _ => heap_setCell_other w ⟨X, i, none⟩ k v hX⟩
theorem Fr2.trans {w w1 w2 : World} {X g g1 : Nat} (h : Fr2 w w1 X g) (hg : g1 = g ∨ w.heap.size ≤ g1) (k : Fr2 w1 w2 X g1) : Fr2 w w2 X g :=
  ⟨k.os.trans h.os, k.tape.trans h.tape, k.output.trans h.output, Nat.le_trans h.size k.size, fun i hi hX hG => (k.block i (Nat.lt_of_lt_of_le hi h.size) hX (by omega)).trans (h.block i hi hX hG)⟩
theorem Blk.fr {w w' : World} {b X g : Nat} {t : TypeId} {vs : Array Value} (h : Blk w b t vs) (k : Fr2 w w' X g) (hX : b ≠ X) (hg : b ≠ g) : Blk w' b t vs := (k.block b h.lt hX hg).trans h
theorem Below.fr {B : Nat} {w0 w w' : World} {X g : Nat} (h : Below B w0 w) (k : Fr2 w w' X g) (hB : B ≤ w.heap.size) (hX : B ≤ X) (hg : B ≤ g) : Below B w0 w' :=
  ⟨k.os.trans h.os, k.tape.trans h.tape, k.output.trans h.output, Nat.le_trans h.size k.size, fun i hi => (k.block i (by omega) (by omega) (by omega)).trans (h.block i hi)⟩
theorem InoG.fr {w w' : World} {lo hi X g : Nat} {D : InoD} {v1 v2 v3 : Value} (h : InoG w lo hi D v1 v2 v3) (k : Fr2 w w' X g) (hh : hi ≤ w.heap.size) (hX : X < lo) (hg : g < lo) : InoG w' lo hi D v1 v2 v3 :=
  h.kept fun b h1 h2 => k.block b (by omega) (by omega) (by omega)
def hP (ds : List InoD) (f : Nat) (p : ByteArray) (e : ByteArray × Int) : List ByteArray := sub p e :: pathsF ds f e.2 (sub p e)
end

section
open Go.RowKit
theorem linksIn_le (D : InoD) (x : Int) : linksIn D x ≤ D.ents.length := by
  unfold linksIn
  split
  · exact List.length_filter_le _ _
  · omega
def cntE (es : List (ByteArray × Int)) (x : Int) : Nat := (es.filter fun e => e.2 == x).length
theorem cntE_snoc (es : List (ByteArray × Int)) (x : Int) (k : Nat) (q : ByteArray × Int) (h : es[k]? = some q) : cntE (es.take (k + 1)) x = cntE (es.take k) x + (if q.2 = x then 1 else 0) := by
  unfold cntE
  rw [List.take_add_one, h, List.filter_append, List.length_append]
  by_cases hq : q.2 = x
  · simp [hq]
  · have : (q.2 == x) = false := by simpa using hq
    simp [this, hq]
theorem linksD_snoc (ds : List InoD) (x : Int) (k : Nat) (D : InoD) (h : ds[k]? = some D) : linksD (ds.take (k + 1)) x = linksD (ds.take k) x + linksIn D x := by
  unfold linksD
  rw [List.take_add_one, h]
  simp
end
end Go.Proofs.YtbjfihabkpianaaGreatDoor
