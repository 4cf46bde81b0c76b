/-
  What the specification's GetInode answers.
-/
import Derived.Test.YtjpefnicemlobaaRows
import Derived.Test.YtjpefnicemlobaaBase
import Derived.Test.YtjpefnicemlobaaPairs
import Derived.Test.YtjpefnicemlobaaPuts
import Derived.Test.YtjpefnicemlobaaMarkIno
import Derived.Test.YtjpefnicemlobaaKept
import Derived.Test.YtjpefnicemlobaaReader
import Derived.Test.YtjpefnicemlobaaGetS
import Derived.WalkKit
import Derived.WalkSpells
import Derived.WalkLawsBesides
import Derived.Deep.QuietTactic
import Derived.BigQuiet
import Derived.OpenShut
import Derived.Laws.BitsAllLaws
import Derived.Maps.AppendAt
import Derived.Lib.SliceRun
import Derived.Lib.Strings
import Derived.Deep.RegionWith
import Derived.Laws.IdiomStrings
import Derived.Deep.Slices
import Derived.ProofKit
import Derived.ChangeOld
import Derived.Below
import Derived.Deep.DeepCutAuto
import Derived.Lib.AppendStr
import Derived.Lib.ConvBytes
import Derived.Deep.RegionHeld3
import Derived.Deep.AppendLies
import Derived.Laws.StructEq
import Derived.Laws.BytesString
namespace Go.Proofs.Ytjpefnicemlobaa
open Go.RowKit
theorem RS.keep {W W' : World} {R : Nat} {a : Option Addr} {n cap : Nat} {st : Option Nat} (h : RS W R a n cap st) (hb : Below W.heap.size W W') : RS W' R a n cap st := h.kp (KpT.below hb [57]) (by decide)
end Go.Proofs.Ytjpefnicemlobaa
