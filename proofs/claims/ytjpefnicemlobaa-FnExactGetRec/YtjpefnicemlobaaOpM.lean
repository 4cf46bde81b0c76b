/-
  Operations of the laws: opened, measured, copied, compared.
-/
import Derived.Test.YtjpefnicemlobaaRows
import Derived.Test.YtjpefnicemlobaaBase
import Derived.Test.YtjpefnicemlobaaCrc
import Derived.Test.YtjpefnicemlobaaPuts
import Derived.Test.YtjpefnicemlobaaKept
import Derived.WalkKit
import Derived.WalkSpells
import Derived.WalkLawsBesides
import Derived.Deep.QuietTactic
import Derived.BigQuiet
import Derived.OpenShut
import Derived.Laws.BitsAllLaws
import Derived.Maps.AppendAt
import Derived.Lib.SliceRun
import Derived.Lib.Strings
import Derived.Deep.RegionWith
import Derived.Laws.IdiomStrings
import Derived.Deep.Slices
import Derived.ProofKit
import Derived.ChangeOld
import Derived.Below
import Derived.Deep.DeepCutAuto
import Derived.Lib.AppendStr
import Derived.Lib.ConvBytes
import Derived.Deep.RegionHeld3
import Derived.Deep.AppendLies
import Derived.Laws.StructEq
import Derived.Laws.BytesString
namespace Go.Proofs.Ytjpefnicemlobaa
open Go.ChangeShapes Go.WideShapes Go.ChangeAt Go.RowKit
/-- What an operation tells. -/
structure OpD where
  kind : Int
  vol : Int
  path : ByteArray
  dest : ByteArray
  off : Int
  data : List Int
/-- An operation that is small. -/
def OpSmall (D : OpD) : Prop := D.path.size + D.dest.size + D.data.length ≤ 1048576
section
variable {H : Type} {enc : TypeId × Value → H} {w : World} {base : Nat} {held : Bool}
end
/-- What the measure answers with what it takes: below 0, or what is left. -/
def SzX (n : Nat) (x : Nat) (e : Ending) : Prop := (e = .returned (.int .i64 (-1)) ∧ x < n) ∨ (e = .returned (.int .i64 ((x - n : Nat) : Int)) ∧ n ≤ x)
set_option maxHeartbeats 400000 in
theorem szByteS_x (a : Option Addr) (n cap x : Nat) (w : World) (hn : n ≤ maxLen) (hx : x ≤ 1048576) :
    Calls Try.prog 41 #[.slice a n cap, .int .i64 x] w fun e w' => SzX n x e ∧ Below w.heap.size w w' := by
  unfold maxLen at hn
  by_cases h : x < n
  · have h1 : ((x : Int) - (n : Int)) < 0 := by omega
    go_enter Try.func41, Try.ntmps41
    go_wp2
    go_ret
    exact ⟨.inl ⟨rfl, h⟩, Below.refl _ _⟩
  · have h1 : ¬ ((x : Int) - (n : Int)) < 0 := by omega
    go_enter Try.func41, Try.ntmps41
    go_wp2
    go_ret
    exact ⟨.inr ⟨ret_int (by omega), by omega⟩, Below.refl _ _⟩
end Go.Proofs.Ytjpefnicemlobaa
