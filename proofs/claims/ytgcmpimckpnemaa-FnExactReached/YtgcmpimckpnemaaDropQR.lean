/-
  A table that is built by appending copies of inodes.
-/
import Derived.Test.YtgcmpimckpnemaaRows
import Derived.Test.YtgcmpimckpnemaaB1R
import Derived.Test.YtgcmpimckpnemaaTabMR
import Derived.Test.YtgcmpimckpnemaaMKR
import Derived.WalkKit
import Derived.WalkSpells
import Derived.WalkLawsBesides
import Derived.Deep.QuietTactic
import Derived.BigQuiet
import Derived.OpenShut
import Derived.Laws.BitsAllLaws
import Derived.Maps.AppendAt
import Derived.Lib.SliceRun
import Derived.Lib.Strings
import Derived.Deep.RegionWith
import Derived.Laws.IdiomStrings
import Derived.Deep.Slices
import Derived.ProofKit
import Derived.ChangeOld
import Derived.Below
import Derived.Deep.RegionHeld3
import Derived.Deep.DeepCutAuto
import Derived.Lib.AppendStr
import Derived.Lib.ConvBytes
import Derived.Deep.AppendLies
import Derived.Deep.AppendSrc
namespace Go.Proofs.Ytgcmpimckpnemaa
open Go.RowKit
theorem row_keep6 {B : Nat} {e : TypeId} {s n : Nat} {W W' : World} {v : Value} {xs : List Value} (h : W.ownsRow B e s v n xs) (hb : Below W.heap.size W W') : W'.ownsRow B e s v n xs := row_kp h (KpT.below hb [e]) (by simp)
end Go.Proofs.Ytgcmpimckpnemaa
