/-
  What the program's entsOk answers, with ascendingBy.
-/
import Derived.Test.YtgcmpimckpnemaaA8T
namespace Go.Proofs.Ytgcmpimckpnemaa
open Go.RowKit
/-- All ascend from the second one on. -/
def ascE (es : List (ByteArray × Int)) : Bool := (List.range es.length).all fun i => decide (i = 0) || Op.bytesLess (es.getD (i - 1) entD).1.toList (es.getD i entD).1.toList
end Go.Proofs.Ytgcmpimckpnemaa
