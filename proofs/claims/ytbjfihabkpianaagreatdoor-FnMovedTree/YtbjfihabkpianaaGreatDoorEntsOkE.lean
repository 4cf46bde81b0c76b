/-
  What the specification's l3Ents and l3Attrs answer.
-/
import Derived.Test.YtbjfihabkpianaaGreatDoorJ00E
import Derived.Lib.Strings
import Derived.Deep.RegionWith
import Derived.Laws.IdiomStrings
import Derived.Deep.Slices
import Derived.ProofKit
import Derived.ChangeOld
import Derived.Below
namespace Go.Proofs.YtbjfihabkpianaaGreatDoor
open Go.RowKit
def entD : ByteArray × Int := (⟨#[]⟩, 0)
/-- The i-th entry is right beside the one ahead of it. -/
def entAt (es : List (ByteArray × Int)) (i : Nat) : Bool :=
  nameOk (es.getD i entD).1.data.toList && (decide (2 ≤ (es.getD i entD).2) && decide ((es.getD i entD).2 ≤ 1000)) && (decide (i = 0) || Op.bytesLess (es.getD (i - 1) entD).1.toList (es.getD i entD).1.toList)
def entsOk (es : List (ByteArray × Int)) : Bool := (List.range es.length).all (entAt es) && decide (es.length ≤ 10)
theorem all_range_false {p : Nat → Bool} {n k : Nat} (hk : k < n) (h : p k = false) : (List.range n).all p = false := by
  rw [List.all_eq_false]; exact ⟨k, List.mem_range.2 hk, by simp [h]⟩
theorem all_range_true {p : Nat → Bool} {n : Nat} (h : ∀ k, k < n → p k = true) : (List.range n).all p = true := by
  rw [List.all_eq_true]; exact fun k hk => h k (List.mem_range.1 hk)
end Go.Proofs.YtbjfihabkpianaaGreatDoor

