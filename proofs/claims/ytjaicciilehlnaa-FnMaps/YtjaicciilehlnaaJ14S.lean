/-
  Joined: SameB, OpM.
-/
import Derived.Test.YtjaicciilehlnaaJ13S
import Derived.Laws.StructEq
import Derived.Lib.ConvBytes
import Derived.Deep.RegionHeld3
import Derived.Deep.AppendLies
namespace Go.Proofs.Ytjaicciilehlnaa
section
open Go.RowKit
theorem str_go (zs : List Int) (s : ByteArray) : (zs.foldl (fun r n => r.push (UInt8.ofNat n.toNat)) s).data.toList = s.data.toList ++ zs.map (fun n => UInt8.ofNat n.toNat) := by
  induction zs generalizing s with
  | nil => simp
  | cons z zs ih => rw [List.foldl_cons, ih]; simp [ByteArray.push]
theorem str_data (zs : List Int) : (str zs).data.toList = zs.map (fun n => UInt8.ofNat n.toNat) := by
  unfold str
  rw [str_go, show ByteArray.empty.data.toList = [] from rfl, List.nil_append]
theorem str_size (zs : List Int) : (str zs).size = zs.length := by
  have := congrArg List.length (str_data zs)
  rw [List.length_map, Array.length_toList] at this
  exact this
end

section
open Go.ChangeShapes Go.WideShapes Go.ChangeAt Go.RowKit
/-- What an operation tells. -/
structure OpD where
  kind : Int
  vol : Int
  path : ByteArray
  dest : ByteArray
  off : Int
  data : List Int
/-- An operation that is small. -/
def OpSmall (D : OpD) : Prop := D.path.size + D.dest.size + D.data.length ≤ 1048576
section
variable {H : Type} {enc : TypeId × Value → H} {w : World} {base : Nat} {held : Bool}
end
end
end Go.Proofs.Ytjaicciilehlnaa
