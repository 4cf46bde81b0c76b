/-
  Contracts for both PutText functions.
-/
import Derived.Test.YtjaicciilehlnaaPutsQ
namespace Go.Proofs.Ytjaicciilehlnaa
open Go.RowKit
theorem encPos (x : Int) : 0 < (enc x).length := by
  unfold enc encGo
  split <;> simp
theorem encTs_one (s : ByteArray) : encTs [s] = encT s := by simp [encTs]
end Go.Proofs.Ytjaicciilehlnaa

