/-
  The bytes of an operation: what both PutOp functions answer.
-/
import Derived.Test.YtmkcadnpleijdaaKeptQ
import Derived.Test.YtmkcadnpleijdaaPutTextQ
import Derived.Test.YtmkcadnpleijdaaSameBQ
import Derived.Test.YtmkcadnpleijdaaOpMQ
import Derived.Test.YtmkcadnpleijdaaInoEncQ
namespace Go.Proofs.Ytmkcadnpleijdaa
open Go.RowKit
/-- An operation that has bytes. -/
def opOk (D : OpD) : Bool := decide (1 ≤ D.kind) && decide (D.kind ≤ 14) && decide (0 ≤ D.vol) && decide (D.vol ≤ 1000000) && decide (0 ≤ D.off) && decide (D.off ≤ 1000000)
/-- The bytes of an operation. -/
def opEnc (D : OpD) : List Int := encs [D.kind, D.vol] ++ encTs [D.path, D.dest] ++ encs [D.off] ++ encTs [str D.data]
theorem encs_len2 (x y : Int) : (encs [x, y]).length ≤ 8 := by
  have i1 := enc_len x
  have i2 := enc_len y
  simp only [encs, List.flatMap_cons, List.flatMap_nil, List.length_append, List.length_nil]
  omega
theorem encTs_len2 (x y : ByteArray) : (encTs [x, y]).length ≤ x.size + y.size + 8 := by
  have i1 := encT_len x
  have i2 := encT_len y
  simp only [encTs, List.flatMap_cons, List.flatMap_nil, List.length_append, List.length_nil]
  omega
theorem encs_len1 (x : Int) : (encs [x]).length ≤ 4 := by rw [encs_one]; exact enc_len x
theorem encTs_len1 (x : ByteArray) : (encTs [x]).length ≤ x.size + 4 := by rw [encTs_one]; exact encT_len x
theorem opEnc_len (D : OpD) (h : OpSmall D) : (opEnc D).length ≤ 1048600 := by
  unfold OpSmall at h
  have h1 := encs_len2 D.kind D.vol
  have h2 := encTs_len2 D.path D.dest
  have h3 := encs_len1 D.off
  have h4 := encTs_len1 (str D.data)
  rw [str_size] at h4
  unfold opEnc
  simp only [List.length_append]
  omega
theorem specTextB (g c : Nat) (acc : List Int) (z : ByteArray) (W : World) (hs : acc.length ≤ 2000000) (hz : z.size ≤ 2000000) (ho : Own W g acc.length c acc) :
    Calls Try.prog 49 #[.slice (some ⟨g, 0, none⟩) acc.length c, .string z] W (PutPost W (acc ++ encT z).length (acc ++ encT z)) := by
  have h := specPutText_any ⟨g, 0, none⟩ acc.length c acc z W rfl (by omega) (by omega) ho.rd
  rw [List.append_assoc, show enc (z.size : Int) ++ strZ z = encT z from rfl, show acc.length + (enc (z.size : Int)).length + z.size = (acc ++ encT z).length by rw [List.length_append, encT, List.length_append, strZ_len]; omega] at h
  exact h
theorem specNumB (g c : Nat) (acc : List Int) (x : Int) (W : World) (hs : acc.length ≤ 2000000) (ho : Own W g acc.length c acc) :
    Calls Try.prog 48 #[.slice (some ⟨g, 0, none⟩) acc.length c, .int .i64 x] W (PutPost W (acc ++ enc x).length (acc ++ enc x)) := by
  have h := specPutNum_any ⟨g, 0, none⟩ acc.length c acc x W rfl (by omega) ho.rd
  rw [← List.length_append] at h
  exact h
end Go.Proofs.Ytmkcadnpleijdaa

