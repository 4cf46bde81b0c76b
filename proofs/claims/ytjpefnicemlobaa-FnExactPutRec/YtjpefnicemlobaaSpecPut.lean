/-
  What the specification's PutInode answers.
-/
import Derived.Test.YtjpefnicemlobaaRows
import Derived.Test.YtjpefnicemlobaaPut
import Derived.Test.YtjpefnicemlobaaPuts
import Derived.WalkKit
import Derived.WalkSpells
import Derived.WalkLawsBesides
import Derived.Deep.QuietTactic
import Derived.BigQuiet
import Derived.OpenShut
import Derived.Laws.BitsAllLaws
import Derived.Maps.AppendAt
import Derived.Lib.SliceRun
import Derived.Lib.Strings
import Derived.Deep.RegionWith
import Derived.Laws.IdiomStrings
import Derived.Deep.Slices
import Derived.ProofKit
import Derived.ChangeOld
import Derived.Below
import Derived.Lib.AppendStr
import Derived.Lib.ConvBytes
import Derived.Deep.AppendLies
import Derived.Laws.StructEq
import Derived.Laws.BytesString
import Derived.Deep.DeepCutAuto
import Derived.Deep.RegionHeld3
namespace Go.Proofs.Ytjpefnicemlobaa
open Go.RowKit
theorem specNum0 (ad : Addr) (x : Int) (W : World) :
    Calls Try.prog 43 #[.slice (some ad) 0 0, .int .i64 x] W (PutPost W (enc x).length (enc x)) := by
  have h := specPutNum_any ad 0 0 [] x W rfl (by omega) (.inl rfl)
  rw [Nat.zero_add, List.nil_append] at h
  exact h
end Go.Proofs.Ytjpefnicemlobaa
