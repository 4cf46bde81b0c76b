/-
  A box of six cells: what is read of it.
-/
import Derived.Test.YtfjlemnohjnkhaaRows
import Derived.Test.YtfjlemnohjnkhaaBase
import Derived.Test.YtfjlemnohjnkhaaPairs
import Derived.Test.YtfjlemnohjnkhaaInode
import Derived.WalkKit
import Derived.WalkSpells
import Derived.WalkLawsBesides
import Derived.Deep.QuietTactic
import Derived.BigQuiet
import Derived.OpenShut
import Derived.Laws.BitsAllLaws
import Derived.Maps.AppendAt
import Derived.Lib.SliceRun
import Derived.Lib.Strings
import Derived.Deep.RegionWith
import Derived.Laws.IdiomStrings
import Derived.Deep.Slices
import Derived.ProofKit
import Derived.ChangeOld
import Derived.Below
namespace Go.Proofs.Ytfjlemnohjnkhaa
open Go.RowKit
/-- The six cells of an inode in block B. -/
structure Six (W : World) (B : Nat) (v0 v1 v2 v3 v4 v5 : Value) : Prop where
  c0 : W.cell? ⟨B, 0, none⟩ = some v0
  c1 : W.cell? ⟨B, 1, none⟩ = some v1
  c2 : W.cell? ⟨B, 2, none⟩ = some v2
  c3 : W.cell? ⟨B, 3, none⟩ = some v3
  c4 : W.cell? ⟨B, 4, none⟩ = some v4
  c5 : W.cell? ⟨B, 5, none⟩ = some v5
theorem Blk.six {W : World} {B : Nat} {t : TypeId} {v0 v1 v2 v3 v4 v5 : Value} (h : Blk W B t #[v0, v1, v2, v3, v4, v5]) : Six W B v0 v1 v2 v3 v4 v5 :=
  ⟨h.cell 0, h.cell 1, h.cell 2, h.cell 3, h.cell 4, h.cell 5⟩
/-- The cells of an inode. -/
def inoC (D : InoD) (a1 : Option Addr) (c1 : Nat) (a2 : Option Addr) (c2 : Nat) (a3 : Option Addr) (c3 : Nat) : Array Value :=
  #[.int .i64 D.ino, .int .i64 D.kind, .int .i64 D.links, .slice a1 D.data.length c1, .slice a2 D.ents.length c2, .slice a3 D.attrs.length c3]
/-- The box of an inode. -/
def Box (W : World) (B : Nat) (t : TypeId) (D : InoD) (a1 : Option Addr) (c1 : Nat) (a2 : Option Addr) (c2 : Nat) (a3 : Option Addr) (c3 : Nat) : Prop := Blk W B t (inoC D a1 c1 a2 c2 a3 c3)
theorem Box.keep {W W' : World} {B : Nat} {t : TypeId} {D : InoD} {a1 a2 a3 : Option Addr} {c1 c2 c3 : Nat} (h : Box W B t D a1 c1 a2 c2 a3 c3) (hb : Below W.heap.size W W') : Box W' B t D a1 c1 a2 c2 a3 c3 := Blk.keep h hb
theorem Box.lt {W : World} {B : Nat} {t : TypeId} {D : InoD} {a1 a2 a3 : Option Addr} {c1 c2 c3 : Nat} (h : Box W B t D a1 c1 a2 c2 a3 c3) : B < W.heap.size := Blk.lt h
theorem Box.six {W : World} {B : Nat} {t : TypeId} {D : InoD} {a1 a2 a3 : Option Addr} {c1 c2 c3 : Nat} (h : Box W B t D a1 c1 a2 c2 a3 c3) : Six W B (.int .i64 D.ino) (.int .i64 D.kind) (.int .i64 D.links) (.slice a1 D.data.length c1) (.slice a2 D.ents.length c2) (.slice a3 D.attrs.length c3) := Blk.six h
theorem Box.new (W : World) (t : TypeId) (D : InoD) (a1 a2 a3 : Option Addr) (c1 c2 c3 : Nat) : Box (W.alloc (.cells (inoC D a1 c1 a2 c2 a3 c3) t)) W.heap.size t D a1 c1 a2 c2 a3 c3 := Blk.new W t _
end Go.Proofs.Ytfjlemnohjnkhaa
