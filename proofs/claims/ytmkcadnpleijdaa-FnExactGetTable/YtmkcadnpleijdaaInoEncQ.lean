/-
  The bytes of an inode.
-/
import Derived.Test.YtmkcadnpleijdaaNameQ
import Derived.Test.YtmkcadnpleijdaaPutsQ
import Derived.ProofKit
import Derived.ChangeOld
import Derived.Below
import Derived.Deep.DeepCutAuto
import Derived.Lib.ConvBytes
import Derived.Deep.RegionHeld3
import Derived.Deep.AppendLies
import Derived.Laws.StructEq
import Derived.Laws.BytesString
namespace Go.Proofs.Ytmkcadnpleijdaa
open Go.RowKit
theorem encT_len (s : ByteArray) : (encT s).length ≤ s.size + 4 := by
  have := enc_len (s.size : Int)
  unfold encT
  rw [List.length_append, strZ_len]
  omega
theorem name14 {z : ByteArray} (h : nameOk z.data.toList = true) : z.size ≤ 14 := by
  have := ((nameOk_iff _).1 h).2.1
  rw [Array.length_toList] at this
  exact this
end Go.Proofs.Ytmkcadnpleijdaa

