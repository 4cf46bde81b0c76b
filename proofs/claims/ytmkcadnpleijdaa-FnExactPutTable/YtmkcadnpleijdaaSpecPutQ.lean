/-
  What the specification's PutInode answers.
-/
import Derived.Test.YtmkcadnpleijdaaPutsQ
import Derived.ProofKit
import Derived.ChangeOld
import Derived.Below
import Derived.Lib.ConvBytes
import Derived.Deep.AppendLies
import Derived.Laws.StructEq
import Derived.Laws.BytesString
import Derived.Deep.DeepCutAuto
import Derived.Deep.RegionHeld3
namespace Go.Proofs.Ytmkcadnpleijdaa
open Go.RowKit
theorem specNum0 (ad : Addr) (x : Int) (W : World) :
    Calls Try.prog 48 #[.slice (some ad) 0 0, .int .i64 x] W (PutPost W (enc x).length (enc x)) := by
  have h := specPutNum_any ad 0 0 [] x W rfl (by omega) (.inl rfl)
  rw [Nat.zero_add, List.nil_append] at h
  exact h
end Go.Proofs.Ytmkcadnpleijdaa

