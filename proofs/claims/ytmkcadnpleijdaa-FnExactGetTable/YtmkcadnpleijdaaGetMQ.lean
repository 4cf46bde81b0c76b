/-
  What an inode's bytes tell, read on from a place: plain definitions.
-/
import Derived.Test.YtmkcadnpleijdaaSameBQ
import Derived.Test.YtmkcadnpleijdaaReaderQ
import Derived.Lib.ConvBytes
import Derived.Deep.RegionHeld3
import Derived.Deep.AppendLies
namespace Go.Proofs.Ytmkcadnpleijdaa
open Go.RowKit
/-- k entries read on. -/
def rdE (zs : List Int) (st : Option Nat) : Nat → List (ByteArray × Int) × Option Nat
  | 0 => ([], st)
  | k + 1 => ((rdE zs st k).1 ++ [((rdT zs (rdE zs st k).2).1, ((rdN zs (rdT zs (rdE zs st k).2).2).1 : Int))], (rdN zs (rdT zs (rdE zs st k).2).2).2)
/-- k attributes read on. -/
def rdA (zs : List Int) (st : Option Nat) : Nat → List (ByteArray × ByteArray) × Option Nat
  | 0 => ([], st)
  | k + 1 => ((rdA zs st k).1 ++ [((rdT zs (rdA zs st k).2).1, (rdT zs (rdT zs (rdA zs st k).2).2).1)], (rdT zs (rdT zs (rdA zs st k).2).2).2)
def g1 (zs : List Int) := rdN zs (some 0)
def g2 (zs : List Int) := rdN zs (g1 zs).2
def g3 (zs : List Int) := rdN zs (g2 zs).2
def g4 (zs : List Int) := rdT zs (g3 zs).2
def g5 (zs : List Int) := rdN zs (g4 zs).2
def gE (zs : List Int) := rdE zs (g5 zs).2 (min (g5 zs).1 11)
def g6 (zs : List Int) := rdN zs (gE zs).2
def gA (zs : List Int) := rdA zs (g6 zs).2 (min (g6 zs).1 5)
theorem rdT_size (zs : List Int) (st : Option Nat) : (rdT zs st).1.size ≤ zs.length := by
  cases st with
  | none => simp [rdT]
  | some p =>
    unfold rdT
    simp only
    split
    · unfold gtOf
      split
      · simp
      · rw [show (str ((zs.drop (gn zs (p : Int)).2.1).take (gn zs (p : Int)).1), (gn zs (p : Int)).2.1 + (gn zs (p : Int)).1, true).1 = str ((zs.drop (gn zs (p : Int)).2.1).take (gn zs (p : Int)).1) from rfl, str_size]
        simp
        omega
    · simp
theorem rdN_le (zs : List Int) (st : Option Nat) : (rdN zs st).1 ≤ 1000000 := by
  cases st with
  | none => simp [rdN]
  | some p =>
    unfold rdN
    simp only
    split
    · rename_i h
      exact (gn_next h).2.2
    · simp
end Go.Proofs.Ytmkcadnpleijdaa

