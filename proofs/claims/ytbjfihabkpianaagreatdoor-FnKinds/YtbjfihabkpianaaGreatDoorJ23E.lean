/-
  Joined: File6, Make6, Cut6, Drop6, Unlink6, Link6.
-/
import Derived.Test.YtbjfihabkpianaaGreatDoorJ21E
namespace Go.Proofs.YtbjfihabkpianaaGreatDoor
section
open Go.RowKit
def fileD (ds : List InoD) (s : ByteArray) : InoD × Int := if (statD ds s).2 = 0 ∧ (statD ds s).1.kind ≠ 1 then (inoZ.D, 3) else statD ds s
/-- A table and a code are answered. -/
def TabC (w : World) (nx : Int) (ds : List InoD) (c : Int) (e : Ending) (w' : World) : Prop :=
  ∃ (a : Option Addr) (cc : Nat) (js : List InoJ), e = .returned (.tuple #[.agg #[.slice a js.length cc, .int .i64 nx], .int .i64 c]) ∧ DQA w.heap.size w' (.slice a js.length cc) (ds.map lift) js ∧ Below w.heap.size w w'
/-- A table stored in the answer's box. -/
theorem DQA.boxed {w W : World} {B R : Nat} {v : Value} {ds : List InoR} {js : List InoJ} (h : DQA B W v ds js) (hb : Below w.heap.size w W) (hR : w.heap.size ≤ R) (hB : R < B) (u0 u1 : Value) : DQA w.heap.size ((W.setCell ⟨R, 0, none⟩ u0).setCell ⟨R, 1, none⟩ u1) v ds js ∧ Below w.heap.size w ((W.setCell ⟨R, 0, none⟩ u0).setCell ⟨R, 1, none⟩ u1) :=
  ⟨((h.setX hB 0 u0).setX hB 1 u1).lower (by omega), (hb.setCell (p := ⟨R, 0, none⟩) hR u0).setCell (p := ⟨R, 1, none⟩) hR u1⟩
theorem blk2 {W : World} {X : Nat} {t : TypeId} {u0 u1 : Value} (h : Blk W X t #[u0, u1]) (v0 v1 : Value) : Blk ((W.setCell ⟨X, 0, none⟩ v0).setCell ⟨X, 1, none⟩ v1) X t #[v0, v1] := (h.set 0 v0).set 1 v1
end

section
open Go.RowKit
/-- A new inode in a table. -/
def makeD (nx : Int) (ds : List InoD) (s : ByteArray) (kd : Int) : Int × List InoD × Int :=
  if treeD nx ds = false then (nx, ds, 1)
  else if (spotD ds s 0).2.2 = 0 ∧ (30 ≤ ds.length ∨ 1000 ≤ nx) then (nx, ds, 5)
  else if (spotD ds s 0).2.2 ≠ 0 then (nx, ds, (spotD ds s 0).2.2)
  else (nx + 1, setD (setD ds { (spotD ds s 0).1 with ents := insBy (fun q => gtS (spotD ds s 0).2.1 q.1) (spotD ds s 0).1.ents ((spotD ds s 0).2.1, nx) }) ⟨nx, kd, 1, [], [], []⟩, 0)
end

section
open Go.RowKit
def cutE (es : List (ByteArray × Int)) (nm : ByteArray) : List (ByteArray × Int) := es.filter fun q => decide (q.1 ≠ nm)
end

section
open Go.RowKit
/-- A table without an entry. -/
def dropP (ds : List InoD) (s : ByteArray) : List InoD := setD ds { (statD ds (strB (parentOf s.data.toList).1)).1 with ents := cutE (statD ds (strB (parentOf s.data.toList).1)).1.ents (strB (parentOf s.data.toList).2.1) }
theorem cutE_small {D : InoD} (h : InoSmall D) (nm : ByteArray) : InoSmall { D with ents := cutE D.ents nm } := by
  refine ⟨h.data, ?_, h.attrs, fun q hq => h.entsz q (List.mem_filter.1 hq).1, h.attrsz⟩
  exact Nat.le_trans (List.length_filter_le _ _) h.ents
end

section
open Go.RowKit
theorem TabAt.below {w V : World} {nx : Int} {ds : List InoD} {v : Value} (h : TabAt w nx ds v V) : Below w.heap.size w V := by
  obtain ⟨_, _, _, _, _, hb⟩ := h
  exact hb
def unlinkD (nx : Int) (ds : List InoD) (s : ByteArray) : List InoD × Int :=
  if treeD nx ds = false ∨ (parentOf s.data.toList).2.2 = false then (ds, 1)
  else if (fileD ds s).2 ≠ 0 then (ds, (fileD ds s).2)
  else if (fileD ds s).1.links = 1 then (dropD (dropP ds s) (fileD ds s).1.ino, 0)
  else (setD (dropP ds s) { (fileD ds s).1 with links := (fileD ds s).1.links - 1 }, 0)
def removeD (nx : Int) (ds : List InoD) (s : ByteArray) : List InoD × Int :=
  if treeD nx ds = false ∨ (parentOf s.data.toList).2.2 = false then (ds, 1)
  else if (statD ds s).2 ≠ 0 then (ds, (statD ds s).2)
  else if (statD ds s).1.kind ≠ 2 then (ds, 3)
  else if 0 < (statD ds s).1.ents.length then (ds, 6)
  else (dropD (dropP ds s) (statD ds s).1.ino, 0)
end

section
open Go.RowKit
def linkD (nx : Int) (ds : List InoD) (s tp : ByteArray) : List InoD × Int :=
  if treeD nx ds = false ∨ (splitOf s.data.toList).isSome = false ∨ (parentOf tp.data.toList).2.2 = false then (ds, 1)
  else if (fileD ds s).2 ≠ 0 then (ds, (fileD ds s).2)
  else if (spotD ds tp 0).2.2 ≠ 0 then (ds, (spotD ds tp 0).2.2)
  else (setD (setD ds { (fileD ds s).1 with links := (fileD ds s).1.links + 1 }) { (spotD ds tp 0).1 with ents := insBy (fun q => gtS (spotD ds tp 0).2.1 q.1) (spotD ds tp 0).1.ents ((spotD ds tp 0).2.1, (fileD ds s).1.ino) }, 0)
end
end Go.Proofs.YtbjfihabkpianaaGreatDoor
