/-
  Joined: Reader, GetM, EncDec.
-/
import Derived.Test.YteggiinccjonnaaJ22O
namespace Go.Proofs.Yteggiinccjonnaa
section
open Go.RowKit
/-- A number read on; the place is none once something was not there whole. -/
def rdN (zs : List Int) : Option Nat → Nat × Option Nat
  | none => (0, none)
  | some p => if (gn zs (p : Int)).2.2 = true then ((gn zs (p : Int)).1, some (gn zs (p : Int)).2.1) else (0, none)
/-- A text read on. -/
def rdT (zs : List Int) : Option Nat → ByteArray × Option Nat
  | none => (ByteArray.empty, none)
  | some p => if (gtOf zs (gn zs (p : Int))).2.2 = true then ((gtOf zs (gn zs (p : Int))).1, some (gtOf zs (gn zs (p : Int))).2.1) else (ByteArray.empty, none)
end

section
open Go.RowKit
/-- k entries read on. -/
def rdE (zs : List Int) (st : Option Nat) : Nat → List (ByteArray × Int) × Option Nat
  | 0 => ([], st)
  | k + 1 => ((rdE zs st k).1 ++ [((rdT zs (rdE zs st k).2).1, ((rdN zs (rdT zs (rdE zs st k).2).2).1 : Int))], (rdN zs (rdT zs (rdE zs st k).2).2).2)
/-- k attributes read on. -/
def rdA (zs : List Int) (st : Option Nat) : Nat → List (ByteArray × ByteArray) × Option Nat
  | 0 => ([], st)
  | k + 1 => ((rdA zs st k).1 ++ [((rdT zs (rdA zs st k).2).1, (rdT zs (rdT zs (rdA zs st k).2).2).1)], (rdT zs (rdT zs (rdA zs st k).2).2).2)
def g1 (zs : List Int) := rdN zs (some 0)
def g2 (zs : List Int) := rdN zs (g1 zs).2
def g3 (zs : List Int) := rdN zs (g2 zs).2
def g4 (zs : List Int) := rdT zs (g3 zs).2
def g5 (zs : List Int) := rdN zs (g4 zs).2
def gE (zs : List Int) := rdE zs (g5 zs).2 (min (g5 zs).1 11)
def g6 (zs : List Int) := rdN zs (gE zs).2
def gA (zs : List Int) := rdA zs (g6 zs).2 (min (g6 zs).1 5)
end

section
open Go.RowKit
theorem Byt.drop {zs : List Int} (h : Byt zs) (k : Nat) : Byt (zs.drop k) := fun z hz => h z (List.mem_of_mem_drop hz)
end
end Go.Proofs.Yteggiinccjonnaa
