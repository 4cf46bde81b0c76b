/-
  The program's ascendingBy over attributes.
-/
import Derived.Test.YtgcmpimckpnemaaA8T
namespace Go.Proofs.Ytgcmpimckpnemaa
open Go.RowKit
/-- All ascend from the second one on. -/
def ascA (es : List (ByteArray × ByteArray)) : Bool := (List.range es.length).all fun i => decide (i = 0) || Op.bytesLess (es.getD (i - 1) attD).1.toList (es.getD i attD).1.toList
end Go.Proofs.Ytgcmpimckpnemaa
