/-
  What the program's entsOk and attrsOk answer.
-/
import Derived.Test.YtgcmpimckpnemaaAscIT
import Derived.Test.YtgcmpimckpnemaaAscAT
namespace Go.Proofs.Ytgcmpimckpnemaa
open Go.RowKit
theorem all_and2 (p q : Nat → Bool) (l : List Nat) : l.all (fun i => p i && q i) = (l.all p && l.all q) := by
  induction l with
  | nil => rfl
  | cons x l ih => simp only [List.all_cons, ih]; cases p x <;> cases q x <;> simp
def selfE (es : List (ByteArray × Int)) (i : Nat) : Bool := nameOk (es.getD i entD).1.data.toList && (decide (2 ≤ (es.getD i entD).2) && decide ((es.getD i entD).2 ≤ 1000))
theorem entsOk_parts (es : List (ByteArray × Int)) : entsOk es = ((List.range es.length).all (selfE es) && ascE es && decide (es.length ≤ 10)) := by
  unfold entsOk ascE
  rw [← all_and2]
  rfl
def selfA (es : List (ByteArray × ByteArray)) (i : Nat) : Bool := nameOk (es.getD i attD).1.data.toList && decide ((es.getD i attD).2.size ≤ 16)
theorem attsOk_parts (es : List (ByteArray × ByteArray)) : attsOk es = ((List.range es.length).all (selfA es) && ascA es && decide (es.length ≤ 4)) := by
  unfold attsOk ascA
  rw [← all_and2]
  rfl
end Go.Proofs.Ytgcmpimckpnemaa
