/-
  Joined: Inode, InoOpen, MarkI.
-/
import Derived.Test.YtnhbhpbmnlojlaaGreatDoorJ02W
import Derived.ProofKit
import Derived.ChangeOld
import Derived.Below
import Derived.Deep.DeepCutAuto
namespace Go.Proofs.YtnhbhpbmnlojlaaGreatDoor
section
open Go.RowKit
theorem size_setC (w : World) (a : Addr) (v : Value) : (w.setCell a v).heap.size = w.heap.size := by simp [World.setCell]
theorem gr_setC (w : World) (gc j : Nat) (v : Value) : w.grownBy (w.setCell ⟨gc, j, none⟩ v) (some gc) :=
  ⟨rfl, rfl, rfl, by simp [World.setCell], fun k _ hk => heap_setCell_other w ⟨gc, j, none⟩ k v (fun e => hk (by simp [e]))⟩
end

section
open Go.ChangeShapes Go.WideShapes Go.ChangeAt Go.RowKit
section
variable {H : Type} {enc : TypeId × Value → H} {w : World} {base : Nat} {held : Bool}
theorem list2 {α : Type} {l : List α} (h : l.length = 2) : ∃ a b, l = [a, b] := by
  match l, h with
  | [a, b], _ => exact ⟨a, b, rfl⟩
end
end

section
open Go.RowKit
def mE (k0 i : Nat) : VP := (.string (mt (k0 + 2 * i)), .int .i64 ((k0 + 2 * i + 1 : Nat) : Int))
def mA (k0 i : Nat) : VP := (.string (mt (k0 + 2 * i)), .string (mt (k0 + 2 * i + 1)))
end
end Go.Proofs.YtnhbhpbmnlojlaaGreatDoor
