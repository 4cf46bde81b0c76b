/-
  What is kept while an inode is read or copied: blocks by their type; rows of bytes and of pairs, grown by one.
-/
import Derived.Test.YtfjlemnohjnkhaaRows
import Derived.Test.YtfjlemnohjnkhaaPairs
import Derived.Test.YtfjlemnohjnkhaaSix
import Derived.Test.YtfjlemnohjnkhaaPuts
import Derived.WalkKit
import Derived.WalkSpells
import Derived.WalkLawsBesides
import Derived.Deep.QuietTactic
import Derived.BigQuiet
import Derived.OpenShut
import Derived.Laws.BitsAllLaws
import Derived.Maps.AppendAt
import Derived.Lib.SliceRun
import Derived.Lib.Strings
import Derived.Deep.RegionWith
import Derived.Laws.IdiomStrings
import Derived.Deep.Slices
import Derived.ProofKit
import Derived.ChangeOld
import Derived.Below
import Derived.Deep.DeepCutAuto
import Derived.Lib.AppendStr
import Derived.Lib.ConvBytes
import Derived.Deep.RegionHeld3
import Derived.Deep.AppendLies
namespace Go.Proofs.Ytfjlemnohjnkhaa
open Go.RowKit
theorem Blk.newAt {W : World} {ad : Nat} {t : TypeId} {vs : Array Value} (h : ad = W.heap.size) : Blk (W.alloc (.cells vs t)) ad t vs := by subst h; exact Blk.new W t vs
theorem OwnV.drew {B : Nat} {w : World} {v : Value} {n : Nat} {zs : List Int} (h : OwnV B w v n zs) : OwnV B w.drew v n zs := h
theorem Blk.drew {w : World} {B : Nat} {t : TypeId} {vs : Array Value} (h : Blk w B t vs) : Blk w.drew B t vs := h
end Go.Proofs.Ytfjlemnohjnkhaa
