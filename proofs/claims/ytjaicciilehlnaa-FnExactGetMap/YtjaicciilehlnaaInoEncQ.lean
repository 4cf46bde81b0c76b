/-
  The bytes of an inode.
-/
import Derived.Test.YtjaicciilehlnaaPutsQ
import Derived.ProofKit
import Derived.ChangeOld
import Derived.Below
import Derived.Deep.DeepCutAuto
import Derived.Lib.ConvBytes
import Derived.Deep.RegionHeld3
import Derived.Deep.AppendLies
import Derived.Laws.StructEq
import Derived.Laws.BytesString
namespace Go.Proofs.Ytjaicciilehlnaa
open Go.RowKit
theorem encT_len (s : ByteArray) : (encT s).length ≤ s.size + 4 := by
  have := enc_len (s.size : Int)
  unfold encT
  rw [List.length_append, strZ_len]
  omega
end Go.Proofs.Ytjaicciilehlnaa

