/-
  Joined: InoEnc, SpecPut.
-/
import Derived.Test.YteaciccegmichaaJ04R
import Derived.Lib.ConvBytes
import Derived.Deep.RegionHeld3
import Derived.Deep.AppendLies
import Derived.Laws.StructEq
import Derived.Laws.BytesString
namespace Go.Proofs.Yteaciccegmichaa
section
open Go.RowKit
theorem encT_len (s : ByteArray) : (encT s).length ≤ s.size + 4 := by
  have := enc_len (s.size : Int)
  unfold encT
  rw [List.length_append, strZ_len]
  omega
end

section
open Go.RowKit
theorem specNum0 (ad : Addr) (x : Int) (W : World) :
    Calls Try.prog 54 #[.slice (some ad) 0 0, .int .i64 x] W (PutPost W (enc x).length (enc x)) := by
  have h := specPutNum_any ad 0 0 [] x W rfl (by omega) (.inl rfl)
  rw [Nat.zero_add, List.nil_append] at h
  exact h
end
end Go.Proofs.Yteaciccegmichaa
