/-
  Rows of bytes kept by calls that leave their blocks of memory.
-/
import Derived.Test.YtmkcadnpleijdaaElQ
namespace Go.Proofs.Ytmkcadnpleijdaa
open Go.RowKit
theorem RowB.svs {w w' : World} {v : Value} {n : Nat} {zs : List Int} {F : List Nat} (h : RowB w v n zs) (k : Sv F w w') (hd : ∀ g, v.ownBlock = some g → g ∉ F) : RowB w' v n zs := h.block fun g hg => k.block g (h.at_ hg).1 (hd g hg)
end Go.Proofs.Ytmkcadnpleijdaa

