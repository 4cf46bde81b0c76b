/-
  What the specification's SetInode answers.
-/
import Derived.Test.YtfjlemnohjnkhaaGreatJ07F
import Derived.Maps.OwnSet
import Derived.Maps.OwnOps
import Derived.Deep.RegionLaw
import Derived.Lib.Slices
import Derived.Lib.Walk
import Derived.Lib.Bytealg
import Derived.Lib.IndexLaws
import Derived.Lib.BufferWrite
import Derived.Lib.UnsafeStr
import Derived.Laws.MakeOwn
import Derived.Laws.Strings3
import Derived.OwnWalk
import Derived.Deep.DeepAppendRoom
namespace Go.Proofs.YtfjlemnohjnkhaaGreat
open Go.RowKit
theorem below_tr {w X U : World} (h : Below w.heap.size w X) (k : Below X.heap.size X U) : Below w.heap.size w U := h.trans (k.mono h.size)
end Go.Proofs.YtfjlemnohjnkhaaGreat
