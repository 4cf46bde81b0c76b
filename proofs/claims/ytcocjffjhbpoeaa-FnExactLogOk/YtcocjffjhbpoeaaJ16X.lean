/-
  Joined: PutText, EntOf.
-/
import Derived.Test.YtcocjffjhbpoeaaJ04X
namespace Go.Proofs.Ytcocjffjhbpoeaa
section
open Go.RowKit
theorem encTs_one (s : ByteArray) : encTs [s] = encT s := by simp [encTs]
end

section
open Go.RowKit
theorem bytes_ne {z y : ByteArray} (h : z ≠ y) : (z.toList == y.toList) = false := by
  rw [beq_eq_false_iff_ne]
  intro e
  rw [Lib.toList_data, Lib.toList_data] at e
  apply h
  rw [← Lib.mk_data z, ← Lib.mk_data y, e]
end
end Go.Proofs.Ytcocjffjhbpoeaa
